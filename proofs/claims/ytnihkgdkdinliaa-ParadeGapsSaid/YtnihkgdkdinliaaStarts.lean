/- Valid starts: the program and the reference say the same. -/
import Derived.Test.YtnihkgdkdinliaaCheckB
import Derived.Test.YtnihkgdkdinliaaModelB
namespace Go.Proofs.Ytnihkgdkdinliaa
open Go.RowKit
set_option linter.unusedVariables false
set_option linter.unusedSimpArgs false

theorem cst_chk {r : Int} {ws : List Wg} {sts : List Int} (h : chk r ws ≠ 0) : cst r ws sts = chk r ws := by unfold cst; rw [if_pos h]
theorem cst_len {r : Int} {ws : List Wg} {sts : List Int} (h : chk r ws = 0) (hl : sts.length ≠ ws.length) : cst r ws sts = 1 := by unfold cst; rw [if_neg (by simpa using h), if_pos hl]
theorem cst_go {r : Int} {ws : List Wg} {sts : List Int} (h : chk r ws = 0) (hl : sts.length = ws.length) : cst r ws sts = cstF ws sts sts.length 0 := by unfold cst; rw [if_neg (by simpa using h), if_neg (by omega)]


set_option maxHeartbeats 2000000 in
theorem checkStarts_c (r : Int) (A B : Option Addr) (c d : Nat) (ws : List Wg) (sts : List Int) (T1 T2 : TypeId) (w : World) (h1 : SlW w T1 A ws) (h2 : SlI w T2 B sts) (hf : Fit ws) (hl1 : ws.length ≤ maxLen) (hc : ws.length ≤ c) (hl2 : sts.length ≤ maxLen) (hd : sts.length ≤ d) :
    Calls Try.prog 25 #[.agg #[I r, .slice A ws.length c], .slice B sts.length d] w fun e w' => e = .returned (I (cst r ws sts)) ∧ Below w.heap.size w w' := by
  have hl1' := hl1
  have hl2' := hl2
  unfold maxLen at hl1' hl2'
  have hb0 := Bx.new w 24 #[I r, .slice A ws.length c]
  have hW0 : Below w.heap.size w (w.alloc (.cells #[I r, .slice A ws.length c] 24)) := (Below.refl _ _).alloc (Nat.le_refl _) _
  have hcb := hb0.cell
  by_cases a1 : chk r ws = 0
  · have hval := chk_val a1
    have n2 := hval.n2
    have hl8 : ws.length ≤ 1000000 := by omega
    have hz : (chk r ws != 0) = false := by simp [a1]
    have A1 := Lib.hid a1
    clear a1
    by_cases a2 : sts.length = ws.length
    · have hne : (((sts.length : Int)) != ((ws.length : Int))) = false := bne_eq_false_iff_eq.2 (by omega)
      have A2 := Lib.hid a2
      have hl8s : sts.length ≤ 8 := by omega
      clear a2
      go_enter Try.func25, Try.ntmps25
      go_wp2_with fail
      refine (check_c r _ c ws T1 _ (h1.below hW0 (Nat.le_refl _)) hf hl1 hc).mono ?_
      rintro e w1 ⟨rfl, hbw1⟩
      have hW1 := hW0.trans (hbw1.mono hW0.size)
      have hb1 := hb0.below hbw1 (by simp)
      clear hcb
      have hcb := hb1.cell
      go_wp2_with fail
      clear hcb
      go_loopw [21] (fun i wr => ∃ k : Nat, i = I k ∧ k ≤ sts.length ∧ cstF ws sts (sts.length - k) k = cstF ws sts sts.length 0 ∧ StB sts k ∧ Bx wr w.heap.size 24 #[I r, .slice A ws.length c] ∧ Below w.heap.size w wr)
        (fun i _ => sts.length - (intOf i).toNat)
      case atStart => exact ⟨0, rfl, Nat.zero_le _, rfl, fun k hk => absurd hk (by omega), hb1, hW1⟩
      case round =>
        obtain ⟨k, rfl, hk, hrec, hst, hbx, hbel⟩ := hrel
        have Hrec := Lib.hid hrec
        clear hrec hb1 hW1 hW0 hb0
        by_cases hlt : k < sts.length
        · obtain ⟨b2, o2, rfl, hb2⟩ := SlI.some_ h2 hlt
          have c1 := SlI.cellG (h2.below hbel (Nat.le_refl _)) hlt
          have hcx := hbx.cell
          have hstep : Hid (cstF ws sts (sts.length - k) k = if ¬ (0 ≤ gI sts k ∧ gI sts k ≤ 20000) then 2 else if gI sts k < leastOf ws sts k then 12 else cstF ws sts (sts.length - (k + 1)) (k + 1)) := by
            unfold Hid
            rw [show sts.length - k = (sts.length - (k + 1)) + 1 by omega]
            rfl
          by_cases a3 : 0 ≤ gI sts k ∧ gI sts k ≤ 20000
          · have b3 := inB_yes a3
            have hkd : (k : Int) ≤ (d : Int) := by omega
            have hk0 : (0 : Int) ≤ (k : Int) := by omega
            have hsz := hbx.lt
            have hsmk : ∀ i, k = i + 1 → Sm ws sts (los ws) i := fun i hi => hval.smLo (by have := A2.out; omega) (by omega) (fun j hj => hst j (by omega))
            have htl : (sts.take k).length = k := by rw [List.length_take]; omega
            have hcw := fun W (h : SlW W T1 A ws) (h' : SlI W T2 (some ⟨b2, o2, none⟩) (sts.take k)) => leastStart_c r A (some ⟨b2, o2, none⟩) c d ws (sts.take k) T1 T2 W h h' (fun i hi => (hval.smLo (by have := A2.out; omega) (by omega) (fun j hj => by rw [gI_take (by omega)]; exact hst j (by omega)))) n2
            rw [htl, leastOf_take] at hcw
            have Hcw := Lib.hid hcw
            clear hcw htl
            go_wp2_with (go_at_call 66; refine (within_c _ _ _ _).mono ?_; rintro e w2 ⟨rfl, rfl⟩)
            have f0 := hbx.cell 0
            have f1 := hbx.cell 1
            generalize hL : leastOf ws sts k = L at *
            by_cases a4 : gI sts k < L
            · clear hcx
              go_region_held3 (fun w' => w'.cell? ⟨w.heap.size, 0, none⟩ = some (I r) ∧ w'.cell? ⟨w.heap.size, 1, none⟩ = some (.slice A ws.length c))
                (first
                  | exact ⟨f0, f1⟩
                  | exact ⟨(hbw3.cell (by simp only [World.size_drew]; omega)).trans f0, (hbw3.cell (by simp only [World.size_drew]; omega)).trans f1⟩)
                ((go_at_call 65; refine (Hcw.out _ (h1.below hbel.drew (Nat.le_refl _)) (SlI.take (h2.below hbel.drew (Nat.le_refl _)) k)).mono ?_; rintro e w3 ⟨rfl, hbw3⟩))
              go_wp2
              go_ret
              exact ⟨ret_int (by rw [cst_go A1.out A2.out, ← Hrec.out, hstep.out, if_neg (by omega), if_pos a4]), hbel.drew.trans (hbw3.mono hbel.drew.size)⟩
            · clear hcx
              go_region_held3 (fun w' => w'.cell? ⟨w.heap.size, 0, none⟩ = some (I r) ∧ w'.cell? ⟨w.heap.size, 1, none⟩ = some (.slice A ws.length c))
                (first
                  | exact ⟨f0, f1⟩
                  | exact ⟨(hbw3.cell (by simp only [World.size_drew]; omega)).trans f0, (hbw3.cell (by simp only [World.size_drew]; omega)).trans f1⟩)
                ((go_at_call 65; refine (Hcw.out _ (h1.below hbel.drew (Nat.le_refl _)) (SlI.take (h2.below hbel.drew (Nat.le_refl _)) k)).mono ?_; rintro e w3 ⟨rfl, hbw3⟩))
              clear f0 f1 c1
              have hbel3 := hbel.drew.trans (hbw3.mono hbel.drew.size)
              have hbx3 := (hbx.drewN 1).below hbw3 (by simpa using hsz)
              go_wp2
              go_roundw
              case rel => exact ⟨k + 1, by go_num, by omega, by rw [← Hrec.out, hstep.out, if_neg (by omega), if_neg (by omega)], fun j hj => if h : j = k then by rw [h]; exact a3 else hst j (by omega), hbx3, hbel3⟩
              case measure => simp [intOf]; omega
          · have b3 := inB_no a3
            have A3 := Lib.hid a3
            clear a3
            go_wp2_with (go_at_call 66; refine (within_c _ _ _ _).mono ?_; rintro e w2 ⟨rfl, rfl⟩)
            go_ret
            exact ⟨ret_int (by rw [cst_go A1.out A2.out, ← Hrec.out, hstep.out, if_pos A3.out]), hbel⟩
        · have hkk : k = sts.length := by omega
          subst hkk
          go_wp2
          go_ret
          exact ⟨ret_int (by rw [cst_go A1.out A2.out, ← Hrec.out, Nat.sub_self]; rfl), hbel⟩
    · have hne : (((sts.length : Int)) != ((ws.length : Int))) = true := bne_iff_ne.2 (by omega)
      have A2 := Lib.hid a2
      clear a2
      go_enter Try.func25, Try.ntmps25
      go_wp2_with fail
      refine (check_c r _ c ws T1 _ (h1.below hW0 (Nat.le_refl _)) hf hl1 hc).mono ?_
      rintro e w1 ⟨rfl, hbw1⟩
      have hW1 := hW0.trans (hbw1.mono hW0.size)
      have hcb1 := (hb0.below hbw1 (by simp)).cell
      clear hcb
      go_wp2
      go_ret
      exact ⟨ret_int (cst_len A1.out A2.out).symm, hW1⟩
  · have hz : (chk r ws != 0) = true := by simp [a1]
    have A1 := Lib.hid a1
    clear a1
    go_enter Try.func25, Try.ntmps25
    go_wp2_with fail
    refine (check_c r _ c ws T1 _ (h1.below hW0 (Nat.le_refl _)) hf hl1 hc).mono ?_
    rintro e w1 ⟨rfl, hbw1⟩
    clear hcb
    go_wp2
    go_ret
    exact ⟨ret_int (cst_chk A1.out).symm, hW0.trans (hbw1.mono hW0.size)⟩

set_option maxHeartbeats 2000000 in
theorem checkStartsR_c (r : Int) (A B : Option Addr) (c d : Nat) (ws : List Wg) (sts : List Int) (T1 T2 : TypeId) (w : World) (h1 : SlW w T1 A ws) (h2 : SlI w T2 B sts) (hf : Fit ws) (hl1 : ws.length ≤ maxLen) (hc : ws.length ≤ c) (hl2 : sts.length ≤ maxLen) (hd : sts.length ≤ d) :
    Calls Try.prog 26 #[.agg #[I r, .slice A ws.length c], .slice B sts.length d] w fun e w' => e = .returned (I (cst r ws sts)) ∧ Below w.heap.size w w' := by
  have hl1' := hl1
  have hl2' := hl2
  unfold maxLen at hl1' hl2'
  have hb0 := Bx.new w 24 #[I r, .slice A ws.length c]
  have hW0 : Below w.heap.size w (w.alloc (.cells #[I r, .slice A ws.length c] 24)) := (Below.refl _ _).alloc (Nat.le_refl _) _
  have hcb := hb0.cell
  by_cases a1 : chk r ws = 0
  · have hval := chk_val a1
    have n2 := hval.n2
    have hl8 : ws.length ≤ 1000000 := by omega
    have hz : (chk r ws != 0) = false := by simp [a1]
    have A1 := Lib.hid a1
    clear a1
    by_cases a2 : sts.length = ws.length
    · have hne : (((sts.length : Int)) != ((ws.length : Int))) = false := bne_eq_false_iff_eq.2 (by omega)
      have A2 := Lib.hid a2
      have hl8s : sts.length ≤ 8 := by omega
      clear a2
      go_enter Try.func26, Try.ntmps26
      go_wp2_with fail
      refine (checkR_c r _ c ws T1 _ (h1.below hW0 (Nat.le_refl _)) hf hl1).mono ?_
      rintro e w1 ⟨rfl, hbw1⟩
      have hW1 := hW0.trans (hbw1.mono hW0.size)
      have hb1 := hb0.below hbw1 (by simp)
      clear hcb
      have hcb := hb1.cell
      go_wp2_with fail
      clear hcb
      go_loopw [6] (fun i wr => ∃ k : Nat, i = I k ∧ k ≤ sts.length ∧ cstF ws sts (sts.length - k) k = cstF ws sts sts.length 0 ∧ StB sts k ∧ Bx wr w.heap.size 24 #[I r, .slice A ws.length c] ∧ Below w.heap.size w wr)
        (fun i _ => sts.length - (intOf i).toNat)
      case atStart => exact ⟨0, rfl, Nat.zero_le _, rfl, fun k hk => absurd hk (by omega), hb1, hW1⟩
      case round =>
        obtain ⟨k, rfl, hk, hrec, hst, hbx, hbel⟩ := hrel
        have Hrec := Lib.hid hrec
        clear hrec hb1 hW1 hW0 hb0
        by_cases hlt : k < sts.length
        · obtain ⟨b2, o2, rfl, hb2⟩ := SlI.some_ h2 hlt
          have c1 := SlI.cellG (h2.below hbel (Nat.le_refl _)) hlt
          have hcx := hbx.cell
          have hstep : Hid (cstF ws sts (sts.length - k) k = if ¬ (0 ≤ gI sts k ∧ gI sts k ≤ 20000) then 2 else if gI sts k < leastOf ws sts k then 12 else cstF ws sts (sts.length - (k + 1)) (k + 1)) := by
            unfold Hid
            rw [show sts.length - k = (sts.length - (k + 1)) + 1 by omega]
            rfl
          by_cases a3 : 0 ≤ gI sts k ∧ gI sts k ≤ 20000
          · have b3 := inB_yes a3
            have hkd : (k : Int) ≤ (d : Int) := by omega
            have hk0 : (0 : Int) ≤ (k : Int) := by omega
            have hsz := hbx.lt
            have hsmk : ∀ i, k = i + 1 → Sm ws sts (los ws) i := fun i hi => hval.smLo (by have := A2.out; omega) (by omega) (fun j hj => hst j (by omega))
            go_wp2_with (go_at_call 68; refine (withinR_c _ _ _ _).mono ?_; rintro e w2 ⟨rfl, rfl⟩)
            have f0 := hbx.cell 0
            have f1 := hbx.cell 1
            generalize hL : leastOf ws sts k = L at *
            by_cases a4 : gI sts k < L
            · clear hcx
              go_region_held3 (fun w' => w'.cell? ⟨w.heap.size, 0, none⟩ = some (I r) ∧ w'.cell? ⟨w.heap.size, 1, none⟩ = some (.slice A ws.length c) ∧ w'.cell? ⟨b2, o2 + k, none⟩ = some (I (gI sts k)))
                (first
                  | exact ⟨f0, f1, c1⟩
                  | exact ⟨(hbw3.cell (by simp only [World.size_drew]; omega)).trans f0, (hbw3.cell (by simp only [World.size_drew]; omega)).trans f1, (hbw3.cell (by simp only [World.size_drew]; have := hbel.size; omega)).trans c1⟩)
                ((go_at_call 64; refine (leastOf_c r _ _ c d ws sts k T1 T2 _ (h1.below hbel.drew (Nat.le_refl _)) (h2.below hbel.drew (Nat.le_refl _)) hsmk hl8 hl2).mono ?_; rintro e w3 ⟨rfl, hbw3⟩))
              go_wp2
              go_ret
              exact ⟨ret_int (by rw [cst_go A1.out A2.out, ← Hrec.out, hstep.out, if_neg (by omega), if_pos a4]), hbel.drew.trans (hbw3.mono hbel.drew.size)⟩
            · clear hcx
              go_region_held3 (fun w' => w'.cell? ⟨w.heap.size, 0, none⟩ = some (I r) ∧ w'.cell? ⟨w.heap.size, 1, none⟩ = some (.slice A ws.length c) ∧ w'.cell? ⟨b2, o2 + k, none⟩ = some (I (gI sts k)))
                (first
                  | exact ⟨f0, f1, c1⟩
                  | exact ⟨(hbw3.cell (by simp only [World.size_drew]; omega)).trans f0, (hbw3.cell (by simp only [World.size_drew]; omega)).trans f1, (hbw3.cell (by simp only [World.size_drew]; have := hbel.size; omega)).trans c1⟩)
                ((go_at_call 64; refine (leastOf_c r _ _ c d ws sts k T1 T2 _ (h1.below hbel.drew (Nat.le_refl _)) (h2.below hbel.drew (Nat.le_refl _)) hsmk hl8 hl2).mono ?_; rintro e w3 ⟨rfl, hbw3⟩))
              clear f0 f1 c1
              have hbel3 := hbel.drew.trans (hbw3.mono hbel.drew.size)
              have hbx3 := (hbx.drewN 1).below hbw3 (by simpa using hsz)
              go_wp2
              go_roundw
              case rel => exact ⟨k + 1, by go_num, by omega, by rw [← Hrec.out, hstep.out, if_neg (by omega), if_neg (by omega)], fun j hj => if h : j = k then by rw [h]; exact a3 else hst j (by omega), hbx3, hbel3⟩
              case measure => simp [intOf]; omega
          · have b3 := inB_no a3
            have A3 := Lib.hid a3
            clear a3
            go_wp2_with (go_at_call 68; refine (withinR_c _ _ _ _).mono ?_; rintro e w2 ⟨rfl, rfl⟩)
            go_ret
            exact ⟨ret_int (by rw [cst_go A1.out A2.out, ← Hrec.out, hstep.out, if_pos A3.out]), hbel⟩
        · have hkk : k = sts.length := by omega
          subst hkk
          go_wp2
          go_ret
          exact ⟨ret_int (by rw [cst_go A1.out A2.out, ← Hrec.out, Nat.sub_self]; rfl), hbel⟩
    · have hne : (((sts.length : Int)) != ((ws.length : Int))) = true := bne_iff_ne.2 (by omega)
      have A2 := Lib.hid a2
      clear a2
      go_enter Try.func26, Try.ntmps26
      go_wp2_with fail
      refine (checkR_c r _ c ws T1 _ (h1.below hW0 (Nat.le_refl _)) hf hl1).mono ?_
      rintro e w1 ⟨rfl, hbw1⟩
      have hW1 := hW0.trans (hbw1.mono hW0.size)
      have hcb1 := (hb0.below hbw1 (by simp)).cell
      clear hcb
      go_wp2
      go_ret
      exact ⟨ret_int (cst_len A1.out A2.out).symm, hW1⟩
  · have hz : (chk r ws != 0) = true := by simp [a1]
    have A1 := Lib.hid a1
    clear a1
    go_enter Try.func26, Try.ntmps26
    go_wp2_with fail
    refine (checkR_c r _ c ws T1 _ (h1.below hW0 (Nat.le_refl _)) hf hl1).mono ?_
    rintro e w1 ⟨rfl, hbw1⟩
    clear hcb
    go_wp2
    go_ret
    exact ⟨ret_int (cst_chk A1.out).symm, hW0.trans (hbw1.mono hW0.size)⟩
end Go.Proofs.Ytnihkgdkdinliaa
