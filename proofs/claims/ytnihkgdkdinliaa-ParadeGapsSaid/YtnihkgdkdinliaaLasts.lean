/- How long the parade may last, and the verdict. Own work; imports no translation. -/
import Derived.Test.YtnihkgdkdinliaaRefB
namespace Go.Proofs.Ytnihkgdkdinliaa
open Go.RowKit
set_option linter.unusedVariables false
set_option linter.unusedSimpArgs false

def laE (r : Int) (ws : List Wg) (sts : List Int) (a b g : Int) : Int := if cst r ws sts ≠ 0 then cst r ws sts else rulE a b g
def laLo (r : Int) (ws : List Wg) (sts : List Int) (a b g : Int) : Int := if laE r ws sts a b g = 0 then lasF r ws sts (his ws) else 0
def laHi (r : Int) (ws : List Wg) (sts : List Int) (a b g : Int) : Int := if laE r ws sts a b g = 0 then lasF r ws sts (los ws) else 0
def laV (r : Int) (ws : List Wg) (sts : List Int) (a b g : Int) : Int := if laE r ws sts a b g = 0 then verd a b (lasF r ws sts (his ws)) (lasF r ws sts (los ws)) else 0
theorem laE_st {r : Int} {ws : List Wg} {sts : List Int} {a b g : Int} (h : cst r ws sts ≠ 0) : laE r ws sts a b g = cst r ws sts := by unfold laE; rw [if_pos h]
theorem laE_ok {r : Int} {ws : List Wg} {sts : List Int} {a b g : Int} (h : cst r ws sts = 0) : laE r ws sts a b g = rulE a b g := by unfold laE; rw [if_neg (by simpa using h)]

section
variable (r : Int) (A B : Option Addr) (c d : Nat) (ws : List Wg) (sts : List Int) (T1 T2 : TypeId) (w : World) (h1 : SlW w T1 A ws) (h2 : SlI w T2 B sts) (hf : Fit ws) (hl1 : ws.length ≤ maxLen) (hc : ws.length ≤ c) (hl2 : sts.length ≤ maxLen) (hd : sts.length ≤ d)
include h1 h2 hf hl1 hc hl2 hd

set_option maxRecDepth 100000 in
set_option maxHeartbeats 2000000 in
theorem lastsP_c (a b g : Int) :
    Calls Try.prog 38 #[.agg #[I r, .slice A ws.length c], .slice B sts.length d, .agg #[I a, I b, I g]] w fun e w' => e = .returned (.tuple #[I (laV r ws sts a b g), Sp (laLo r ws sts a b g) (laHi r ws sts a b g), I (laE r ws sts a b g)]) ∧ Below w.heap.size w w' := by
  have hb3 : Bx (((w.alloc (.cells #[I r, .slice A ws.length c] 24)).alloc (.cells #[I a, I b, I g] 54)).alloc (.cells #[I 0, I 0] 27)) w.heap.size 24 #[I r, .slice A ws.length c] := ((Bx.new w 24 #[I r, .slice A ws.length c]).alloc _).alloc _
  have hb5 : Bx (((w.alloc (.cells #[I r, .slice A ws.length c] 24)).alloc (.cells #[I a, I b, I g] 54)).alloc (.cells #[I 0, I 0] 27)) (w.heap.size + 1) 54 #[I a, I b, I g] := (Bx.new' _ _ _ _ (by simp)).alloc _
  have hb7 : Bx (((w.alloc (.cells #[I r, .slice A ws.length c] 24)).alloc (.cells #[I a, I b, I g] 54)).alloc (.cells #[I 0, I 0] 27)) (w.heap.size + 1 + 1) 27 #[I 0, I 0] := Bx.new' _ _ _ _ (by simp)
  have hW0 : Below w.heap.size w (((w.alloc (.cells #[I r, .slice A ws.length c] 24)).alloc (.cells #[I a, I b, I g] 54)).alloc (.cells #[I 0, I 0] 27)) := (((Below.refl _ _).alloc (Nat.le_refl _) _).alloc (by simp) _).alloc (by simp; omega) _
  have hc3 := hb3.cell
  go_enter Try.func38, Try.ntmps38
  go_wp2_with fail
  refine (checkStarts_c r _ B c d ws sts T1 T2 _ (h1.below hW0 (Nat.le_refl _)) (h2.below hW0 (Nat.le_refl _)) hf hl1 hc hl2 hd).mono ?_
  rintro e w1 ⟨rfl, hbw1⟩
  have hWb := hW0.trans (hbw1.mono hW0.size)
  have hb3 := hb3.below hbw1 hb3.lt
  have hb5 := hb5.below hbw1 hb5.lt
  have hb7 := hb7.below hbw1 hb7.lt
  clear hc3
  have hc3 := hb3.cell
  have hc5 := hb5.cell
  by_cases a1 : cst r ws sts = 0
  · have hz : (cst r ws sts != 0) = false := by simp [a1]
    have hval := cst_val a1
    have E1 := Lib.hid (laE_ok (a := a) (b := b) (g := g) a1)
    clear a1
    go_wp2_with fail
    refine (checkRules_c a b g _).mono ?_
    rintro e w2 ⟨rfl, hbw2⟩
    have hWb := hWb.trans (hbw2.mono hWb.size)
    have hb3 := hb3.below hbw2 hb3.lt
    have hb5 := hb5.below hbw2 hb5.lt
    have hb7 := hb7.below hbw2 hb7.lt
    clear hc3 hc5 hbw1 hbw2
    by_cases a2 : rulE a b g = 0
    · have hz2 : (rulE a b g != 0) = false := by simp [a2]
      have A2 := Lib.hid (E1.out.trans a2)
      have R2 := Lib.hid a2
      clear a2
      have hc3 := hb3.cell
      go_wp2_with fail
      refine (lasting_c r A B c d ws sts T1 T2 _ (h1.below hWb (Nat.le_refl _)) (h2.below hWb (Nat.le_refl _)) hl2 hval).mono ?_
      rintro e w3 ⟨rfl, hbw3⟩
      have hWb := hWb.trans (hbw3.mono hWb.size)
      have hb5 := hb5.below hbw3 hb5.lt
      have hb7 := hb7.below hbw3 hb7.lt
      clear hc3 hbw3
      have hb7' := (hb7.set_ 0 (I (lasF r ws sts (his ws)))).set_ 1 (I (lasF r ws sts (los ws)))
      have hb5' := (hb5.far (p := ⟨w.heap.size + 1 + 1, 0, none⟩) (by simp only []; omega) (I (lasF r ws sts (his ws)))).far (p := ⟨w.heap.size + 1 + 1, 1, none⟩) (by simp only []; omega) (I (lasF r ws sts (los ws)))
      have hWz := (hWb.setCell (p := ⟨w.heap.size + 1 + 1, 0, none⟩) (by simp only []; omega) (I (lasF r ws sts (his ws)))).setCell (p := ⟨w.heap.size + 1 + 1, 1, none⟩) (by simp only []; omega) (I (lasF r ws sts (los ws)))
      have hf7 := hb7.free
      have hc7 := hb7.cell
      go_wp2_with fail
      clear hf7 hc7
      generalize hWe : World.setCell (World.setCell _ _ _) _ _ = w4 at hb7' hb5' hWz ⊢
      clear hWe
      change Bx _ _ _ #[I (lasF r ws sts (his ws)), I (lasF r ws sts (los ws))] at hb7'
      refine wp_region_list_fr (by kernel_rfl) (R := RB (w4.heap.size) w4) (F := FB) []
          [As.is _ _ (Sp (lasF r ws sts (his ws)) (lasF r ws sts (los ws))),
          As.is _ _ (.agg #[I a, I b, I g]),
          As.is _ _ (I (verd a b (lasF r ws sts (his ws)) (lasF r ws sts (los ws)))),
          As.is _ _ (Sp (lasF r ws sts (his ws)) (lasF r ws sts (los ws))),
          As.is _ _ (I (verd a b (lasF r ws sts (his ws)) (lasF r ws sts (los ws))))] 31 (by kernel_rfl) rfl ((Below.refl _ _).drew) ?_ ?_
      · intro i hi o ho ev w' hR hc hf hg hs hd
        match i, hi, ho with
        | 0, _, ho =>
          cases ho
          have e7 : ev (.tmp 7) = .pointer (some ⟨w.heap.size + 1 + 1, 0, none⟩) := hs 7 (by kernel_rfl)
          have m7 := (hb7'.below hR hb7'.lt).cell
          go_simp
          first | exact ⟨rfl, hR, Below.refl _ _⟩ | exact ⟨⟨rfl, fun h => absurd h (by decide)⟩, hR, Below.refl _ _⟩
        | 1, _, ho =>
          cases ho
          have e5 : ev (.tmp 5) = .pointer (some ⟨w.heap.size + 1, 0, none⟩) := hs 5 (by kernel_rfl)
          have m5 := (hb5'.below hR hb5'.lt).cell
          go_simp
          first | exact ⟨rfl, hR, Below.refl _ _⟩ | exact ⟨⟨rfl, fun h => absurd h (by decide)⟩, hR, Below.refl _ _⟩
        | 2, _, ho =>
          cases ho
          have e27 : ev (.tmp 27) = Sp (lasF r ws sts (his ws)) (lasF r ws sts (los ws)) := hd 0 27 (by kernel_rfl)
          have e28 : ev (.tmp 28) = .agg #[I a, I b, I g] := hd 1 28 (by kernel_rfl)
          go_simp
          refine (keepsTime_c a b g _ _ _).mono ?_
          rintro e wz ⟨rfl, hwz⟩
          first | exact ⟨rfl, hR.trans (hwz.mono hR.size), hwz⟩ | exact ⟨⟨rfl, fun h => absurd h (by decide)⟩, hR.trans (hwz.mono hR.size), hwz⟩
        | 3, _, ho =>
          cases ho
          have e7 : ev (.tmp 7) = .pointer (some ⟨w.heap.size + 1 + 1, 0, none⟩) := hs 7 (by kernel_rfl)
          have m7 := (hb7'.below hR hb7'.lt).cell
          go_simp
          first | exact ⟨rfl, hR, Below.refl _ _⟩ | exact ⟨⟨rfl, fun h => absurd h (by decide)⟩, hR, Below.refl _ _⟩
        | 4, _, ho =>
          cases ho
          have e29 : ev (.tmp 29) = I (verd a b (lasF r ws sts (his ws)) (lasF r ws sts (los ws))) := hd 2 29 (by kernel_rfl)
          go_simp
          first | exact ⟨rfl, hR, Below.refl _ _⟩ | exact ⟨⟨rfl, fun h => absurd h (by decide)⟩, hR, Below.refl _ _⟩
        | n + 5, hi, _ => exact absurd hi (by simp)
      · intro ρ wE hR hρ hne K hK
        have p3 : ρ 3 = Sp (lasF r ws sts (his ws)) (lasF r ws sts (los ws)) := hρ 3 (by simp)
        have p4 : ρ 4 = I (verd a b (lasF r ws sts (his ws)) (lasF r ws sts (los ws))) := hρ 4 (by simp)
        have hbx := hb7'.below hR hb7'.lt
        have hWE := hWz.trans (hR.mono hWz.size)
        clear hρ hne
        show K (putAll _ _ ρ 5) _
        simp only [putAll, dOf, List.getElem?_toArray, List.getElem?_cons_zero, List.getElem?_cons_succ, Option.bind_some, Act.put, List.setIfInBounds_toArray, List.set_cons_zero, List.set_cons_succ]
        rw [p3, p4]
        refine hK _ _ ?_
        change wpList _ _ _ [_, _] _ _
        clear hK K p3 p4
        have fx := hbx.free
        have cx := hbx.cell
        have hb9 := (hbx.set_ 0 (I (lasF r ws sts (his ws)))).set_ 1 (I (lasF r ws sts (los ws)))
        have hc9 := hb9.cell
        go_wp2
        refine bodyPost_ret (v := .tuple #[I (verd a b (lasF r ws sts (his ws)) (lasF r ws sts (los ws))), Sp (lasF r ws sts (his ws)) (lasF r ws sts (los ws)), I 0]) (by simp [results, Try.results38, go_sem, hc9]) rfl ⟨?_, ?_⟩
        · rw [A2.out]
          unfold laV laLo laHi
          rw [if_pos A2.out, if_pos A2.out, if_pos A2.out]
        · repeat (refine Below.setCell ?_ (by simp only []; omega) _)
          exact hWE
    · have hz2 : (rulE a b g != 0) = true := by simp [a2]
      have A2 := Lib.hid a2
      clear a2
      have hc7 := hb7.cell
      have hf7 := hb7.free
      go_wp2
      have hb9 := (hb7.set_ 0 (I 0)).set_ 1 (I 0)
      have hc9 := hb9.cell
      refine bodyPost_ret (v := .tuple #[I 0, Sp 0 0, I (rulE a b g)]) (by simp [results, Try.results38, go_sem, hc9]) rfl ⟨?_, ?_⟩
      · rw [E1.out]
        unfold laV laLo laHi
        rw [if_neg (by rw [E1.out]; exact A2.out), if_neg (by rw [E1.out]; exact A2.out), if_neg (by rw [E1.out]; exact A2.out)]
      · repeat (refine Below.setCell ?_ (by simp only []; omega) _)
        exact hWb
  · have hz : (cst r ws sts != 0) = true := by simp [a1]
    have A0 := Lib.hid a1
    have E1 := Lib.hid (laE_st (a := a) (b := b) (g := g) a1)
    clear a1 hc3 hc5
    have hc7 := hb7.cell
    have hf7 := hb7.free
    go_wp2
    have hb9 := (hb7.set_ 0 (I 0)).set_ 1 (I 0)
    have hc9 := hb9.cell
    refine bodyPost_ret (v := .tuple #[I 0, Sp 0 0, I (cst r ws sts)]) (by simp [results, Try.results38, go_sem, hc9]) rfl ⟨?_, ?_⟩
    · rw [E1.out]
      unfold laV laLo laHi
      rw [if_neg (by rw [E1.out]; exact A0.out), if_neg (by rw [E1.out]; exact A0.out), if_neg (by rw [E1.out]; exact A0.out)]
    · repeat (refine Below.setCell ?_ (by simp only []; omega) _)
      exact hWb

set_option maxRecDepth 100000 in
set_option maxHeartbeats 2000000 in
theorem lastsR_c (a b g : Int) :
    Calls Try.prog 35 #[.agg #[I r, .slice A ws.length c], .slice B sts.length d, .agg #[I a, I b, I g]] w fun e w' => e = .returned (.tuple #[I (laV r ws sts a b g), Sp (laLo r ws sts a b g) (laHi r ws sts a b g), I (laE r ws sts a b g)]) ∧ Below w.heap.size w w' := by
  have hb3 : Bx (((w.alloc (.cells #[I r, .slice A ws.length c] 24)).alloc (.cells #[I a, I b, I g] 54)).alloc (.cells #[I 0, I 0] 27)) w.heap.size 24 #[I r, .slice A ws.length c] := ((Bx.new w 24 #[I r, .slice A ws.length c]).alloc _).alloc _
  have hb5 : Bx (((w.alloc (.cells #[I r, .slice A ws.length c] 24)).alloc (.cells #[I a, I b, I g] 54)).alloc (.cells #[I 0, I 0] 27)) (w.heap.size + 1) 54 #[I a, I b, I g] := (Bx.new' _ _ _ _ (by simp)).alloc _
  have hb7 : Bx (((w.alloc (.cells #[I r, .slice A ws.length c] 24)).alloc (.cells #[I a, I b, I g] 54)).alloc (.cells #[I 0, I 0] 27)) (w.heap.size + 1 + 1) 27 #[I 0, I 0] := Bx.new' _ _ _ _ (by simp)
  have hW0 : Below w.heap.size w (((w.alloc (.cells #[I r, .slice A ws.length c] 24)).alloc (.cells #[I a, I b, I g] 54)).alloc (.cells #[I 0, I 0] 27)) := (((Below.refl _ _).alloc (Nat.le_refl _) _).alloc (by simp) _).alloc (by simp; omega) _
  have hc3 := hb3.cell
  go_enter Try.func35, Try.ntmps35
  go_wp2_with fail
  refine (checkStartsR_c r _ B c d ws sts T1 T2 _ (h1.below hW0 (Nat.le_refl _)) (h2.below hW0 (Nat.le_refl _)) hf hl1 hc hl2 hd).mono ?_
  rintro e w1 ⟨rfl, hbw1⟩
  have hWb := hW0.trans (hbw1.mono hW0.size)
  have hb3 := hb3.below hbw1 hb3.lt
  have hb5 := hb5.below hbw1 hb5.lt
  have hb7 := hb7.below hbw1 hb7.lt
  clear hc3
  have hc3 := hb3.cell
  have hc5 := hb5.cell
  by_cases a1 : cst r ws sts = 0
  · have hz : (cst r ws sts != 0) = false := by simp [a1]
    have hval := cst_val a1
    have E1 := Lib.hid (laE_ok (a := a) (b := b) (g := g) a1)
    clear a1
    go_wp2_with fail
    refine (checkRulesR_c a b g _).mono ?_
    rintro e w2 ⟨rfl, hbw2⟩
    have hWb := hWb.trans (hbw2.mono hWb.size)
    have hb3 := hb3.below hbw2 hb3.lt
    have hb5 := hb5.below hbw2 hb5.lt
    have hb7 := hb7.below hbw2 hb7.lt
    clear hc3 hc5 hbw1 hbw2
    by_cases a2 : rulE a b g = 0
    · have hz2 : (rulE a b g != 0) = false := by simp [a2]
      have A2 := Lib.hid (E1.out.trans a2)
      have R2 := Lib.hid a2
      clear a2
      have hc3 := hb3.cell
      go_wp2_with fail
      refine (spans_c r A B c d ws sts T1 T2 _ (h1.below hWb (Nat.le_refl _)) (h2.below hWb (Nat.le_refl _)) hl2 hval).mono ?_
      rintro e w3 ⟨rfl, hbw3⟩
      have hWb := hWb.trans (hbw3.mono hWb.size)
      have hb5 := hb5.below hbw3 hb5.lt
      have hb7 := hb7.below hbw3 hb7.lt
      clear hc3 hbw3
      have hb11 := Bx.new w3 27 #[I (lasF r ws sts (his ws)), I (lasF r ws sts (los ws))]
      have hb7' := hb7.alloc (.cells #[I (lasF r ws sts (his ws)), I (lasF r ws sts (los ws))] 27)
      have hb5' := hb5.alloc (.cells #[I (lasF r ws sts (his ws)), I (lasF r ws sts (los ws))] 27)
      have hWz := hWb.alloc hWb.size (.cells #[I (lasF r ws sts (his ws)), I (lasF r ws sts (los ws))] 27)
      go_wp2_with fail
      generalize hWe : World.alloc w3 _ = w4 at hb11 hb7' hb5' hWz ⊢
      clear hWe
      refine wp_region_list_fr (by kernel_rfl) (R := RB (w4.heap.size) w4) (F := FB) []
          [As.is _ _ (.agg #[I a, I b, I g]),
          As.is _ _ (Sp (lasF r ws sts (his ws)) (lasF r ws sts (los ws))),
          As.is _ _ (I (verd a b (lasF r ws sts (his ws)) (lasF r ws sts (los ws)))),
          As.is _ _ (Sp (lasF r ws sts (his ws)) (lasF r ws sts (los ws))),
          As.is _ _ (I (verd a b (lasF r ws sts (his ws)) (lasF r ws sts (los ws))))] 32 (by kernel_rfl) rfl ((Below.refl _ _).drew) ?_ ?_
      · intro i hi o ho ev w' hR hc hf hg hs hd
        match i, hi, ho with
        | 0, _, ho =>
          cases ho
          have e5 : ev (.tmp 5) = .pointer (some ⟨w.heap.size + 1, 0, none⟩) := hs 5 (by kernel_rfl)
          have m5 := (hb5'.below hR hb5'.lt).cell
          go_simp
          first | exact ⟨rfl, hR, Below.refl _ _⟩ | exact ⟨⟨rfl, fun h => absurd h (by decide)⟩, hR, Below.refl _ _⟩
        | 1, _, ho =>
          cases ho
          have e11 : ev (.tmp 11) = .pointer (some ⟨w3.heap.size, 0, none⟩) := hs 11 (by kernel_rfl)
          have m7 := (hb11.below hR hb11.lt).cell
          go_simp
          first | exact ⟨rfl, hR, Below.refl _ _⟩ | exact ⟨⟨rfl, fun h => absurd h (by decide)⟩, hR, Below.refl _ _⟩
        | 2, _, ho =>
          cases ho
          have e28 : ev (.tmp 28) = .agg #[I a, I b, I g] := hd 0 28 (by kernel_rfl)
          have e29 : ev (.tmp 29) = Sp (lasF r ws sts (his ws)) (lasF r ws sts (los ws)) := hd 1 29 (by kernel_rfl)
          go_simp
          refine (verdict_c a b g _ _ _).mono ?_
          rintro e wz ⟨rfl, hwz⟩
          first | exact ⟨rfl, hR.trans (hwz.mono hR.size), hwz⟩ | exact ⟨⟨rfl, fun h => absurd h (by decide)⟩, hR.trans (hwz.mono hR.size), hwz⟩
        | 3, _, ho =>
          cases ho
          have e11 : ev (.tmp 11) = .pointer (some ⟨w3.heap.size, 0, none⟩) := hs 11 (by kernel_rfl)
          have m7 := (hb11.below hR hb11.lt).cell
          go_simp
          first | exact ⟨rfl, hR, Below.refl _ _⟩ | exact ⟨⟨rfl, fun h => absurd h (by decide)⟩, hR, Below.refl _ _⟩
        | 4, _, ho =>
          cases ho
          have e30 : ev (.tmp 30) = I (verd a b (lasF r ws sts (his ws)) (lasF r ws sts (los ws))) := hd 2 30 (by kernel_rfl)
          go_simp
          first | exact ⟨rfl, hR, Below.refl _ _⟩ | exact ⟨⟨rfl, fun h => absurd h (by decide)⟩, hR, Below.refl _ _⟩
        | n + 5, hi, _ => exact absurd hi (by simp)
      · intro ρ wE hR hρ hne K hK
        have p3 : ρ 3 = Sp (lasF r ws sts (his ws)) (lasF r ws sts (los ws)) := hρ 3 (by simp)
        have p4 : ρ 4 = I (verd a b (lasF r ws sts (his ws)) (lasF r ws sts (los ws))) := hρ 4 (by simp)
        have hbx := hb7'.below hR hb7'.lt
        have hWE := hWz.trans (hR.mono hWz.size)
        clear hρ hne
        show K (putAll _ _ ρ 5) _
        simp only [putAll, dOf, List.getElem?_toArray, List.getElem?_cons_zero, List.getElem?_cons_succ, Option.bind_some, Act.put, List.setIfInBounds_toArray, List.set_cons_zero, List.set_cons_succ]
        rw [p3, p4]
        refine hK _ _ ?_
        change wpList _ _ _ [_, _] _ _
        clear hK K p3 p4
        have fx := hbx.free
        have cx := hbx.cell
        have hb9 := (hbx.set_ 0 (I (lasF r ws sts (his ws)))).set_ 1 (I (lasF r ws sts (los ws)))
        have hc9 := hb9.cell
        go_wp2
        refine bodyPost_ret (v := .tuple #[I (verd a b (lasF r ws sts (his ws)) (lasF r ws sts (los ws))), Sp (lasF r ws sts (his ws)) (lasF r ws sts (los ws)), I 0]) (by simp [results, Try.results35, go_sem, hc9]) rfl ⟨?_, ?_⟩
        · rw [A2.out]
          unfold laV laLo laHi
          rw [if_pos A2.out, if_pos A2.out, if_pos A2.out]
        · repeat (refine Below.setCell ?_ (by simp only []; omega) _)
          exact hWE
    · have hz2 : (rulE a b g != 0) = true := by simp [a2]
      have A2 := Lib.hid a2
      clear a2
      have hc7 := hb7.cell
      have hf7 := hb7.free
      go_wp2
      have hb9 := (hb7.set_ 0 (I 0)).set_ 1 (I 0)
      have hc9 := hb9.cell
      refine bodyPost_ret (v := .tuple #[I 0, Sp 0 0, I (rulE a b g)]) (by simp [results, Try.results35, go_sem, hc9]) rfl ⟨?_, ?_⟩
      · rw [E1.out]
        unfold laV laLo laHi
        rw [if_neg (by rw [E1.out]; exact A2.out), if_neg (by rw [E1.out]; exact A2.out), if_neg (by rw [E1.out]; exact A2.out)]
      · repeat (refine Below.setCell ?_ (by simp only []; omega) _)
        exact hWb
  · have hz : (cst r ws sts != 0) = true := by simp [a1]
    have A0 := Lib.hid a1
    have E1 := Lib.hid (laE_st (a := a) (b := b) (g := g) a1)
    clear a1 hc3 hc5
    have hc7 := hb7.cell
    have hf7 := hb7.free
    go_wp2
    have hb9 := (hb7.set_ 0 (I 0)).set_ 1 (I 0)
    have hc9 := hb9.cell
    refine bodyPost_ret (v := .tuple #[I 0, Sp 0 0, I (cst r ws sts)]) (by simp [results, Try.results35, go_sem, hc9]) rfl ⟨?_, ?_⟩
    · rw [E1.out]
      unfold laV laLo laHi
      rw [if_neg (by rw [E1.out]; exact A0.out), if_neg (by rw [E1.out]; exact A0.out), if_neg (by rw [E1.out]; exact A0.out)]
    · repeat (refine Below.setCell ?_ (by simp only []; omega) _)
      exact hWb

end
end Go.Proofs.Ytnihkgdkdinliaa
