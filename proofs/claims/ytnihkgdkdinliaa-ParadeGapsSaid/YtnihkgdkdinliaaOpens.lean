/- Opens of the program: for each wing whether its gap is too wide. Own work. -/
import Derived.Test.YtnihkgdkdinliaaPeakB
import Derived.Test.YtnihkgdkdinliaaWalk
import Derived.Test.YtnihkgdkdinliaaLasts
namespace Go.Proofs.Ytnihkgdkdinliaa
open Go.RowKit
set_option linter.unusedVariables false
set_option linter.unusedSimpArgs false

/-- The verdicts, the first k of them; the error. -/
def opL (r : Int) (ws : List Wg) (sts : List Int) (g : Int) (k : Nat) : List Int := (List.range k).map fun j => if j = 0 then 2 else opnV r ws sts j g
theorem opL_len (r : Int) (ws : List Wg) (sts : List Int) (g : Int) (k : Nat) : (opL r ws sts g k).length = k := by simp [opL]
theorem opL_snoc (r : Int) (ws : List Wg) (sts : List Int) (g : Int) {k : Nat} (h : k ≠ 0) : opL r ws sts g (k + 1) = opL r ws sts g k ++ [opnV r ws sts k g] := by simp [opL, List.range_succ, h]
def opR (r : Int) (ws : List Wg) (sts : List Int) (a b g : Int) : List Int := if laE r ws sts a b g = 0 then opL r ws sts g ws.length else []

section
variable (r : Int) (A B : Option Addr) (c d : Nat) (ws : List Wg) (sts : List Int) (T1 T2 : TypeId) (w : World) (h1 : SlW w T1 A ws) (h2 : SlI w T2 B sts) (hf : Fit ws) (hl1 : ws.length ≤ maxLen) (hc : ws.length ≤ c) (hl2 : sts.length ≤ maxLen) (hd : sts.length ≤ d)
include h1 h2 hf hl1 hc hl2 hd
set_option maxRecDepth 100000 in
set_option maxHeartbeats 2000000 in
theorem opensP_c (a b g : Int) :
    Calls Try.prog 42 #[.agg #[I r, .slice A ws.length c], .slice B sts.length d, .agg #[I a, I b, I g]] w fun e w' => ∃ B' d', e = .returned (.tuple #[.slice B' (opR r ws sts a b g).length d', I (laE r ws sts a b g)]) ∧ SlI w' 3 B' (opR r ws sts a b g) ∧ Below w.heap.size w w' := by
  have hb3 := (Bx.new w 24 #[I r, .slice A ws.length c]).alloc (.cells #[I a, I b, I g] 54)
  have hb5 := Bx.new' (w.alloc (.cells #[I r, .slice A ws.length c] 24)) 54 #[I a, I b, I g] (w.heap.size + 1) (by simp)
  have hW0 := ((Below.refl w.heap.size w).alloc (Nat.le_refl _) (.cells #[I r, .slice A ws.length c] 24)).alloc (by simp) (.cells #[I a, I b, I g] 54)
  have hc3 := hb3.cell
  go_enter Try.func42, Try.ntmps42
  go_wp2_with fail
  refine (checkStarts_c r _ B c d ws sts T1 T2 _ (h1.below hW0 (Nat.le_refl _)) (h2.below hW0 (Nat.le_refl _)) hf hl1 hc hl2 hd).mono ?_
  rintro e w1 ⟨rfl, hbw1⟩
  have hWb := hW0.trans (hbw1.mono hW0.size)
  have hb3 := hb3.below hbw1 hb3.lt
  have hb5 := hb5.below hbw1 hb5.lt
  clear hc3
  have hc3 := hb3.cell
  have hc5 := hb5.cell
  by_cases a1 : cst r ws sts = 0
  · have hz : (cst r ws sts != 0) = false := by simp [a1]
    have hval := cst_val a1
    have E1 := Lib.hid (laE_ok (a := a) (b := b) (g := g) a1)
    clear a1
    go_wp2_with fail
    refine (checkRules_c a b g _).mono ?_
    rintro e w2 ⟨rfl, hbw2⟩
    have hWb := hWb.trans (hbw2.mono hWb.size)
    have hb3 := hb3.below hbw2 hb3.lt
    have hb5 := hb5.below hbw2 hb5.lt
    clear hc3 hc5 hbw1 hbw2
    by_cases a2 : rulE a b g = 0
    · have hz2 : (rulE a b g != 0) = false := by simp [a2]
      have A2 := Lib.hid (E1.out.trans a2)
      clear a2
      have hn8 := hval.n2
      have hn1 := hval.n1
      obtain ⟨i0, hi0, hz0, hz1, hz2'⟩ := info_parts infoInt
      have hc3 := hb3.cell
      have hc5 := hb5.cell
      have hown0 : (w2.alloc (.cells #[I 2] 3)).ownsRow w.heap.size 3 1 (.slice (some ⟨w2.heap.size, 0, none⟩) 1 1) 1 ((opL r ws sts g 1).map I) := by
        refine ⟨by simp [opL], .inr ⟨w2.heap.size, 1, #[I 2], rfl, hWb.size, Bx.new _ _ _, by omega, by unfold maxLen; omega, rfl, by simp [opL]⟩⟩
      go_wp2_with fail
      clear hc3 hc5
      go_loopw [10, 11] (fun v i wr => ∃ (k : Nat), i = I k ∧ 1 ≤ k ∧ k ≤ ws.length ∧ wr.ownsRow w.heap.size 3 1 v k ((opL r ws sts g k).map I) ∧ Below w.heap.size w wr ∧ Bx wr w.heap.size 24 #[I r, .slice A ws.length c] ∧ Bx wr (w.heap.size + 1) 54 #[I a, I b, I g])
        (fun _ i _ => ws.length - (intOf i).toNat)
      case atStart => exact ⟨1, rfl, by omega, hn1, hown0, hWb.alloc hWb.size _, hb3.alloc _, hb5.alloc _⟩
      case round =>
        obtain ⟨k, rfl, hk1, hk, hown, hbel, hbx, hbr⟩ := hrel
        clear hown0 hWb hb3 hb5
        have hcb := hbx.cell
        have hcr := hbr.cell
        by_cases hlt : k < ws.length
        · have hsz := hbel.size
          obtain ⟨B0, d0, rfl, hB0, _⟩ := Sl.ofOwn2 hown
          go_wp2_with fail
          refine (opens_c r A B c d ws sts k g T1 T2 _ (h1.below hbel (Nat.le_refl _)) (Sl.below h2 hbel (Nat.le_refl _)) hval hlt (by omega)).mono ?_
          rintro e w3 ⟨rfl, hb3⟩
          have hown3 := own_below hown hb3
          have hbel3 := hbel.trans (hb3.mono hbel.size)
          have hbx3 := hbx.below hb3 hbx.lt
          have hbr3 := hbr.below hb3 hbr.lt
          have hsz3 := hbel3.size
          clear hown hbel hbx hbr hcb hcr hb3 hB0 hsz
          generalize hov : opnV r ws sts k g = ov at *
          have HOV := Lib.hid hov
          clear hov
          go_wp2_with (at_builtin; refine wpList_append_own _ rfl _ _ 25 rfl w.heap.size 3 i0 _ 1 8 Try.underlying25 hi0 hz0 hz1 hz2' rfl (by decide) _ _ _ rfl (hown3.alloc _) ⟨w3.heap.size, 0, none⟩ 1 1 [I ov] rfl rfl ?c1 ?c2 ?c3 ?c4 ?c5 ?_)
          case c1 => exact (Bx.new w3 3 #[I ov]).news (cs := [I ov])
          case c2 => simp [Value.oneCell']
          case c3 => unfold maxLen; omega
          case c4 => omega
          case c5 => simp; omega
          intro v' w4 hown4 hgrow _
          have hbx' := hbx3.alloc (.cells #[I ov] 3)
          have hbr' := hbr3.alloc (.cells #[I ov] 3)
          have hown' := hown3.alloc (.cells #[I ov] 3)
          have hbx4 := hbx'.grown hgrow (own_ne hown' hbx' (by decide))
          have hbr4 := hbr'.grown hgrow (own_ne hown' hbr' (by decide))
          have hbel4 := below_own (hbel3.alloc hsz3 _) hown' (Nat.le_refl _) (by simp; omega) hgrow
          clear hbx' hbr' hown' hgrow hown3 hbel3 hbx3 hbr3
          obtain ⟨B4, d4, rfl, _, _⟩ := Sl.ofOwn2 hown4
          go_wp2
          go_roundw
          case rel =>
            refine ⟨k + 1, by go_num, by omega, by omega, ?_, hbel4, hbx4, hbr4⟩
            rw [opL_snoc r ws sts g (by omega), flat_snoc, HOV.out]
            exact hown4
          case measure => simp [intOf]; omega
        · obtain ⟨B0, d0, rfl, hB0, _⟩ := Sl.ofOwn2 hown
          go_wp2
          have hkk : k = ws.length := by omega
          subst hkk
          have eR : opR r ws sts a b g = opL r ws sts g ws.length := by unfold opR; rw [if_pos A2.out]
          refine bodyPost_ret (v := .tuple #[.slice B0 ws.length d0, I 0]) (by simp [results, Try.results42, go_sem]) rfl ⟨B0, d0, ?_, by rw [eR]; exact hB0, hbel⟩
          rw [eR, opL_len, A2.out]
    · have hz2 : (rulE a b g != 0) = true := by simp [a2]
      go_wp2_with fail
      have e1 := E1.out
      refine bodyPost_ret (v := .tuple #[.slice none 0 0, I (rulE a b g)]) (by simp [results, Try.results42, go_sem]) rfl ⟨none, 0, ?_, .inl ?_, hWb⟩
      · unfold opR
        rw [e1, if_neg a2]
        rfl
      · unfold opR
        rw [e1, if_neg a2]
        rfl
  · have hz : (cst r ws sts != 0) = true := by simp [a1]
    have e1 := laE_st (a := a) (b := b) (g := g) a1
    have E1 := Lib.hid e1
    have A1 := Lib.hid a1
    clear a1 e1
    go_wp2_with fail
    refine bodyPost_ret (v := .tuple #[.slice none 0 0, I (cst r ws sts)]) (by simp [results, Try.results42, go_sem]) rfl ⟨none, 0, ?_, .inl ?_, hWb⟩
    · unfold opR
      rw [E1.out, if_neg A1.out]
      rfl
    · unfold opR
      rw [E1.out, if_neg A1.out]
      rfl
end
end Go.Proofs.Ytnihkgdkdinliaa
