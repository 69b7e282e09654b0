/- Check, the program's and the reference's. -/
import Derived.Test.YtnihkgdkdinliaaCheck
import Derived.Deep.RegionHeld3
namespace Go.Proofs.Ytnihkgdkdinliaa
open Go.RowKit
set_option linter.unusedVariables false
set_option linter.unusedSimpArgs false

/-- What is read of wings is small enough to be read. -/
def Fit (ws : List Wg) : Prop := ∀ g ∈ ws, g.name.size ≤ maxLen

theorem chkW_step {ws : List Wg} {k : Nat} (hk : k < ws.length) (h : chk1 (gW ws k) (ws.take k) = 0) : chkW (ws.take k) (ws.drop k) = chkW (ws.take (k + 1)) (ws.drop (k + 1)) := by
  rw [List.drop_eq_getElem_cons hk, chkW, ← gW_lt hk, if_neg (by simpa using h), List.take_succ_eq_append_getElem hk, gW_lt hk]
theorem chkW_stop {ws : List Wg} {k : Nat} (hk : k < ws.length) (h : chk1 (gW ws k) (ws.take k) ≠ 0) : chkW (ws.take k) (ws.drop k) = chk1 (gW ws k) (ws.take k) := by
  rw [List.drop_eq_getElem_cons hk, chkW, ← gW_lt hk, if_pos h]

theorem Sl.take {w : World} {T : TypeId} {A : Option Addr} {xs : List Value} (h : Sl w T A xs) (n : Nat) : Sl w T A (xs.take n) := by
  rcases h with rfl | ⟨b, o, cs, fz, hA, hh, hc⟩
  · exact .inl (by simp)
  · refine .inr ⟨b, o, cs, fz, hA, hh, fun j u hu => ?_⟩
    rw [List.getElem?_take] at hu
    split at hu
    · exact hc j u hu
    · cases hu
theorem flat_take (ws : List Wg) (k : Nat) : (ws.take k).flatMap Wg.cells = (ws.flatMap Wg.cells).take (4 * k) := by
  induction ws generalizing k with
  | nil => simp
  | cons g l ih =>
    cases k with
    | zero => simp
    | succ k =>
      rw [List.take_succ_cons, List.flatMap_cons, List.flatMap_cons, ih, show 4 * (k + 1) = g.cells.length + 4 * k by simp [Wg.cells]; omega, List.take_length_add_append]
theorem SlW.take {w : World} {T : TypeId} {A : Option Addr} {ws : List Wg} (h : SlW w T A ws) (k : Nat) : SlW w T A (ws.take k) := by
  show Sl _ _ _ _
  rw [flat_take]
  exact Sl.take h _
theorem SlI.take {w : World} {T : TypeId} {A : Option Addr} {zs : List Int} (h : SlI w T A zs) (k : Nat) : SlI w T A (zs.take k) := by
  show Sl _ _ _ _
  rw [List.map_take]
  exact Sl.take h _

set_option maxHeartbeats 1000000 in
theorem check_c (r : Int) (A : Option Addr) (c : Nat) (ws : List Wg) (T1 : TypeId) (w : World) (h1 : SlW w T1 A ws) (hf : Fit ws) (hl1 : ws.length ≤ maxLen) (hc : ws.length ≤ c) :
    Calls Try.prog 23 #[.agg #[I r, .slice A ws.length c]] w fun e w' => e = .returned (I (chk r ws)) ∧ Below w.heap.size w w' := by
  unfold maxLen at hl1
  have hb0 := Bx.new w 24 #[I r, .slice A ws.length c]
  have hW0 : Below w.heap.size w (w.alloc (.cells #[I r, .slice A ws.length c] 24)) := (Below.refl _ _).alloc (Nat.le_refl _) _
  have hcb := hb0.cell
  by_cases a1 : 1 ≤ r ∧ r ≤ 100000
  · have b1 := inB_yes a1
    by_cases a2 : ws.length = 0
    · have b2 : ((ws.length : Int) == 0) = true := beq_iff_eq.2 (by omega)
      have b3 : decide ((8 : Int) < (ws.length : Int)) = false := decide_eq_false (by omega)
      have H2 := Lib.hid a2
      clear a2
      go_enter Try.func23, Try.ntmps23
      go_wp2_with (go_at_call 66; refine (within_c _ _ _ _).mono ?_; rintro e w' ⟨rfl, rfl⟩)
      go_ret
      exact ⟨ret_int (by unfold chk; rw [if_neg (by omega), if_pos H2.out]), hW0⟩
    · have b2 : ((ws.length : Int) == 0) = false := beq_eq_false_iff_ne.2 (by omega)
      have H2 := Lib.hid a2
      clear a2
      by_cases a3 : 8 < ws.length
      · go_enter Try.func23, Try.ntmps23
        go_wp2_with (go_at_call 66; refine (within_c _ _ _ _).mono ?_; rintro e w' ⟨rfl, rfl⟩)
        go_ret
        exact ⟨ret_int (by unfold chk; rw [if_neg (by omega), if_neg H2.out, if_pos a3]), hW0⟩
      · have b3 : decide ((8 : Int) < (ws.length : Int)) = false := decide_eq_false (by omega)
        have hchk : Hid (chk r ws = chkW [] ws) := by unfold Hid chk; rw [if_neg (by omega), if_neg H2.out, if_neg a3]
        go_enter Try.func23, Try.ntmps23
        go_wp2_with (go_at_call 66; refine (within_c _ _ _ _).mono ?_; rintro e w' ⟨rfl, rfl⟩)
        clear hcb
        go_loopw [24] (fun i wr => ∃ k : Nat, i = I k ∧ k ≤ ws.length ∧ chkW (ws.take k) (ws.drop k) = chkW [] ws ∧ Bx wr w.heap.size 24 #[I r, .slice A ws.length c] ∧ Below w.heap.size w wr)
          (fun i _ => ws.length - (intOf i).toNat)
        case atStart => exact ⟨0, rfl, Nat.zero_le _, rfl, hb0, hW0⟩
        case round =>
          obtain ⟨k, rfl, hk, hrec, hbx, hbel⟩ := hrel
          have Hrec := Lib.hid hrec
          clear hrec
          by_cases hlt : k < ws.length
          · obtain ⟨b1, o1, rfl, hb1⟩ := SlW.some_ h1 hlt
            obtain ⟨c1, c2, c3, c4⟩ := SlW.cellG (h1.below hbel (Nat.le_refl _)) hlt
            have hbn := Bx.new wr 29 #[.string (gW ws k).name, I (gW ws k).len, I (gW ws k).lo, I (gW ws k).hi]
            have hbx1 := hbx.alloc (.cells #[.string (gW ws k).name, I (gW ws k).len, I (gW ws k).lo, I (gW ws k).hi] 29)
            have hbel1 := hbel.alloc hbel.size (.cells #[.string (gW ws k).name, I (gW ws k).len, I (gW ws k).lo, I (gW ws k).hi] 29)
            have hkc : (k : Int) ≤ (c : Int) := by omega
            have hk0 : (0 : Int) ≤ (k : Int) := by omega
            have hsz := hbx.lt
            have hfit : (gW ws k).name.size ≤ maxLen := by rw [gW_lt hlt]; exact hf _ (List.getElem_mem hlt)
            have htl : (ws.take k).length = k := by rw [List.length_take]; omega
            have hcw := fun W (h : SlW W T1 (some ⟨b1, o1, none⟩) (ws.take k)) => checkWing_c (gW ws k) (some ⟨b1, o1, none⟩) c (ws.take k) T1 W h (by omega) hfit
            rw [htl] at hcw
            have Hcw := Lib.hid hcw
            clear hcw htl
            have f0 := hbn.cell 0
            have f1 := hbn.cell 1
            have f2 := hbn.cell 2
            have f3 := hbn.cell 3
            have f4 := hbx1.cell 1
            go_wp2
            clear c1 c2 c3 c4
            go_region_held3 (fun w' => (w'.cell? ⟨wr.heap.size, 0, none⟩ = some (.string (gW ws k).name) ∧ w'.cell? ⟨wr.heap.size, 1, none⟩ = some (I (gW ws k).len) ∧ w'.cell? ⟨wr.heap.size, 2, none⟩ = some (I (gW ws k).lo) ∧ w'.cell? ⟨wr.heap.size, 3, none⟩ = some (I (gW ws k).hi)) ∧ w'.cell? ⟨w.heap.size, 1, none⟩ = some (.slice (some ⟨b1, o1, none⟩) ws.length c))
              (first
                | exact ⟨⟨f0, f1, f2, f3⟩, f4⟩
                | exact ⟨⟨(hbw1.cell (by simp)).trans f0, (hbw1.cell (by simp)).trans f1, (hbw1.cell (by simp)).trans f2, (hbw1.cell (by simp)).trans f3⟩, (hbw1.cell (by simp; omega)).trans f4⟩)
              ((go_at_call 67; refine (Hcw.out _ (SlW.take (h1.below hbel1.drew (Nat.le_refl _)) k)).mono ?_; rintro e w1 ⟨rfl, hbw1⟩))
            have hbel2 := hbel1.drew.trans (hbw1.mono (by simp; omega))
            have hbx2 := (hbx1.drewN 1).below hbw1 (by simp; omega)
            clear f0 f1 f2 f3 f4 hbn hbx1 hbel1 hbw1 hbx
            by_cases hz : chk1 (gW ws k) (ws.take k) = 0
            · have hz' : (chk1 (gW ws k) (ws.take k) != 0) = false := by simp [hz]
              have Hz := Lib.hid (chkW_step hlt hz)
              clear hz
              go_wp2
              go_roundw
              case rel => exact ⟨k + 1, by go_num, by omega, by rw [← Hz.out, Hrec.out], hbx2, hbel2⟩
              case measure => simp [intOf]; omega
            · have hz' : (chk1 (gW ws k) (ws.take k) != 0) = true := by simp [hz]
              have Hz := Lib.hid (chkW_stop hlt hz)
              clear hz
              go_wp2
              go_ret
              exact ⟨ret_int (by rw [hchk.out, ← Hrec.out, Hz.out]), hbel2⟩
          · have hkk : k = ws.length := by omega
            subst hkk
            go_wp2
            go_ret
            refine ⟨ret_int ?_, hbel⟩
            rw [hchk.out, ← Hrec.out, List.drop_of_length_le (Nat.le_refl _)]
            rfl
  · have b1 := inB_no a1
    have H1 := Lib.hid a1
    clear a1
    go_enter Try.func23, Try.ntmps23
    go_wp2_with (go_at_call 66; refine (within_c _ _ _ _).mono ?_; rintro e w' ⟨rfl, rfl⟩)
    go_ret
    exact ⟨ret_int (by have := H1.out; unfold chk; rw [if_pos this]), hW0⟩

set_option maxHeartbeats 2000000 in
theorem checkR_c (r : Int) (A : Option Addr) (c : Nat) (ws : List Wg) (T1 : TypeId) (w : World) (h1 : SlW w T1 A ws) (hf : Fit ws) (hl1 : ws.length ≤ maxLen) :
    Calls Try.prog 24 #[.agg #[I r, .slice A ws.length c]] w fun e w' => e = .returned (I (chk r ws)) ∧ Below w.heap.size w w' := by
  unfold maxLen at hl1
  have hb0 := Bx.new w 24 #[I r, .slice A ws.length c]
  have hW0 : Below w.heap.size w (w.alloc (.cells #[I r, .slice A ws.length c] 24)) := (Below.refl _ _).alloc (Nat.le_refl _) _
  have hcb := hb0.cell
  by_cases a1 : 1 ≤ r ∧ r ≤ 100000
  · have b1 := inB_yes a1
    by_cases a2 : ws.length = 0
    · have b2 : ((ws.length : Int) == 0) = true := beq_iff_eq.2 (by omega)
      have b3 : decide ((8 : Int) < (ws.length : Int)) = false := decide_eq_false (by omega)
      have H2 := Lib.hid a2
      clear a2
      go_enter Try.func24, Try.ntmps24
      go_wp2_with (go_at_call 68; refine (withinR_c _ _ _ _).mono ?_; rintro e w' ⟨rfl, rfl⟩)
      go_ret
      exact ⟨ret_int (by unfold chk; rw [if_neg (by omega), if_pos H2.out]), hW0⟩
    · have b2 : ((ws.length : Int) == 0) = false := beq_eq_false_iff_ne.2 (by omega)
      have H2 := Lib.hid a2
      clear a2
      by_cases a3 : 8 < ws.length
      · go_enter Try.func24, Try.ntmps24
        go_wp2_with (go_at_call 68; refine (withinR_c _ _ _ _).mono ?_; rintro e w' ⟨rfl, rfl⟩)
        go_ret
        exact ⟨ret_int (by unfold chk; rw [if_neg (by omega), if_neg H2.out, if_pos a3]), hW0⟩
      · have b3 : decide ((8 : Int) < (ws.length : Int)) = false := decide_eq_false (by omega)
        have hchk : Hid (chk r ws = chkW [] ws) := by unfold Hid chk; rw [if_neg (by omega), if_neg H2.out, if_neg a3]
        go_enter Try.func24, Try.ntmps24
        go_wp2_with (go_at_call 68; refine (withinR_c _ _ _ _).mono ?_; rintro e w' ⟨rfl, rfl⟩)
        clear hcb
        go_loopw [3] (fun i wr => ∃ k : Nat, i = I k ∧ k ≤ ws.length ∧ chkW (ws.take k) (ws.drop k) = chkW [] ws ∧ Bx wr w.heap.size 24 #[I r, .slice A ws.length c] ∧ Below w.heap.size w wr)
          (fun i _ => ws.length - (intOf i).toNat)
        case atStart => exact ⟨0, rfl, Nat.zero_le _, rfl, hb0, hW0⟩
        case round =>
          obtain ⟨k, rfl, hk, hrec, hbx, hbel⟩ := hrel
          have Hrec := Lib.hid hrec
          clear hrec hb0 hW0
          by_cases hlt : k < ws.length
          · obtain ⟨b1, o1, rfl, hb1⟩ := SlW.some_ h1 hlt
            obtain ⟨c1, c2, c3, c4⟩ := SlW.cellG (h1.below hbel (Nat.le_refl _)) hlt
            have hbn := Bx.new wr 29 #[.string (gW ws k).name, I (gW ws k).len, I (gW ws k).lo, I (gW ws k).hi]
            have hbx1 := hbx.alloc (.cells #[.string (gW ws k).name, I (gW ws k).len, I (gW ws k).lo, I (gW ws k).hi] 29)
            have hbel1 := hbel.alloc hbel.size (.cells #[.string (gW ws k).name, I (gW ws k).len, I (gW ws k).lo, I (gW ws k).hi] 29)
            have hcx := hbx.cell
            have hcn := hbn.cell
            have hsz := hbx.lt
            have hfit : (gW ws k).name.size ≤ maxLen := by rw [gW_lt hlt]; exact hf _ (List.getElem_mem hlt)
            by_cases hn : nmB (gW ws k).name = false
            · have Hz : Hid (chkW (ws.take k) (ws.drop k) = 1) := by unfold Hid; rw [chkW_stop hlt (by rw [chk1_name hn]; decide), chk1_name hn]
              go_wp2_with (go_at_call 69; refine (named_c _ _ hfit).mono ?_; rintro e w' ⟨rfl, rfl⟩; rw [hn])
              go_ret
              exact ⟨ret_int (by rw [hchk.out, ← Hrec.out, Hz.out]), hbel1⟩
            · have hn : nmB (gW ws k).name = true := by simpa using hn
              go_wp2_with (go_at_call 69; refine (named_c _ _ hfit).mono ?_; rintro e w' ⟨rfl, rfl⟩; rw [hn])
              clear c1 c2 c3 c4 hcx hcn
              generalize hwo : wr.alloc (.cells #[.string (gW ws k).name, I (gW ws k).len, I (gW ws k).lo, I (gW ws k).hi] 29) = wo at *
              have hwo := Lib.hid hwo
              go_loopw [5] (fun i wi => ∃ j : Nat, i = I j ∧ j ≤ k ∧ (ws.take j).any (fun o => o.name.toList == (gW ws k).name.toList) = false ∧ (∃ n, wi = wo.drewN n))
                (fun i _ => k - (intOf i).toNat)
              case atStart => exact ⟨0, rfl, Nat.zero_le _, by simp, 0, rfl⟩
              case round =>
                obtain ⟨j, rfl, hj, hany, nq0, rfl⟩ := hrel
                have Hany := Lib.hid hany
                clear hany
                have hcx := hbx1.cell
                have hcn := hbn.cell
                by_cases hjk : j < k
                · have hjl : j < ws.length := by omega
                  obtain ⟨c1, c2, c3, c4⟩ := SlW.cellG (h1.below hbel1 (Nat.le_refl _)) hjl
                  by_cases heq : ((gW ws j).name.toList == (gW ws k).name.toList) = true
                  · have hjt : j < (ws.take k).length := by simp; omega
                    have hgj : gW (ws.take k) j = gW ws j := by simp [gW, hjk]
                    have hhit := any_hit hjt (by rw [hgj]; exact heq)
                    have h8 := chk1_twice (bs := ws.take k) hn hhit
                    have Hz : Hid (chkW (ws.take k) (ws.drop k) = 8) := by unfold Hid; rw [chkW_stop hlt (by rw [h8]; decide), h8]
                    clear hhit h8 hgj
                    go_wp2
                    go_quiet (fail)
                    go_wp2
                    go_ret
                    exact ⟨ret_int (by rw [hchk.out, ← Hrec.out, Hz.out]), below_drewN (below_drewN hbel1 nq0) _⟩
                  · have heq : ((gW ws j).name.toList == (gW ws k).name.toList) = false := by simpa using heq
                    have hno : Hid ((ws.take (j + 1)).any (fun o => o.name.toList == (gW ws k).name.toList) = false) := by rw [any_snoc (g := gW ws k) hjl, Hany.out, heq]; rfl
                    go_wp2
                    go_quiet (fail)
                    go_wp2
                    go_roundw
                    case rel => exact ⟨j + 1, by go_num, by omega, hno.out, _, rfl⟩
                    case measure => simp [intOf]; omega
                · have hjj : j = k := by omega
                  subst hjj
                  have hrest := Lib.hid (chk1_rest hn Hany.out)
                  clear Hany
                  have hq := below_drewN hbel1 nq0
                  have hqx := hbx1.drewN nq0
                  by_cases a1 : 1 ≤ (gW ws j).len ∧ (gW ws j).len ≤ 5000
                  · have b1 := inB_yes a1
                    by_cases a2 : 1 ≤ (gW ws j).lo ∧ (gW ws j).lo ≤ 200
                    · have b2 := inB_yes a2
                      by_cases a3 : 1 ≤ (gW ws j).hi ∧ (gW ws j).hi ≤ 200
                      · have b3 := inB_yes a3
                        by_cases a4 : (gW ws j).hi < (gW ws j).lo
                        · have Hz : Hid (chkW (ws.take j) (ws.drop j) = 9) := by unfold Hid; have e := hrest.out; rw [if_neg (by omega), if_neg (by omega), if_pos a4] at e; rw [chkW_stop hlt (by rw [e]; decide), e]
                          go_wp2_with (go_at_call 68; refine (withinR_c _ _ _ _).mono ?_; rintro e w' ⟨rfl, rfl⟩)
                          go_ret
                          exact ⟨ret_int (by rw [hchk.out, ← Hrec.out, Hz.out]), hq⟩
                        · have Hz : Hid (chkW (ws.take j) (ws.drop j) = chkW (ws.take (j + 1)) (ws.drop (j + 1))) := by unfold Hid; have e := hrest.out; rw [if_neg (by omega), if_neg (by omega), if_neg a4] at e; exact chkW_step hlt e
                          go_wp2_with (go_at_call 68; refine (withinR_c _ _ _ _).mono ?_; rintro e w' ⟨rfl, rfl⟩)
                          go_roundw
                          case rel => exact ⟨j + 1, by go_num, by omega, by rw [← Hz.out, Hrec.out], hqx, hq⟩
                          case measure => simp [intOf]; omega
                      · have b3 := inB_no a3
                        have Hz : Hid (chkW (ws.take j) (ws.drop j) = 2) := by unfold Hid; have e := hrest.out; rw [if_neg (by omega), if_pos (by omega)] at e; rw [chkW_stop hlt (by rw [e]; decide), e]
                        clear a3
                        go_wp2_with (go_at_call 68; refine (withinR_c _ _ _ _).mono ?_; rintro e w' ⟨rfl, rfl⟩)
                        go_ret
                        exact ⟨ret_int (by rw [hchk.out, ← Hrec.out, Hz.out]), hq⟩
                    · have b2 := inB_no a2
                      have Hz : Hid (chkW (ws.take j) (ws.drop j) = 2) := by unfold Hid; have e := hrest.out; rw [if_neg (by omega), if_pos (by omega)] at e; rw [chkW_stop hlt (by rw [e]; decide), e]
                      clear a2
                      go_wp2_with (go_at_call 68; refine (withinR_c _ _ _ _).mono ?_; rintro e w' ⟨rfl, rfl⟩)
                      go_ret
                      exact ⟨ret_int (by rw [hchk.out, ← Hrec.out, Hz.out]), hq⟩
                  · have b1 := inB_no a1
                    have Hz : Hid (chkW (ws.take j) (ws.drop j) = 2) := by unfold Hid; have e := hrest.out; rw [if_pos (by omega)] at e; rw [chkW_stop hlt (by rw [e]; decide), e]
                    clear a1
                    go_wp2_with (go_at_call 68; refine (withinR_c _ _ _ _).mono ?_; rintro e w' ⟨rfl, rfl⟩)
                    go_ret
                    exact ⟨ret_int (by rw [hchk.out, ← Hrec.out, Hz.out]), hq⟩
          · have hkk : k = ws.length := by omega
            subst hkk
            have hcb := hbx.cell
            go_wp2
            go_ret
            refine ⟨ret_int ?_, hbel⟩
            rw [hchk.out, ← Hrec.out, List.drop_of_length_le (Nat.le_refl _)]
            rfl
  · have b1 := inB_no a1
    have H1 := Lib.hid a1
    clear a1
    go_enter Try.func24, Try.ntmps24
    go_wp2_with (go_at_call 68; refine (withinR_c _ _ _ _).mono ?_; rintro e w' ⟨rfl, rfl⟩)
    go_ret
    exact ⟨ret_int (by have := H1.out; unfold chk; rw [if_pos this]), hW0⟩
end Go.Proofs.Ytnihkgdkdinliaa
