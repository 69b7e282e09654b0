/- How long the parade may last: the program. Own work; imports no translation. -/
import Derived.Test.YtnihkgdkdinliaaWhere
namespace Go.Proofs.Ytnihkgdkdinliaa
open Go.RowKit
set_option linter.unusedVariables false
set_option linter.unusedSimpArgs false

/-- How long the parade lasts, for true paces. -/
def lasF (r : Int) (ws : List Wg) (sts ps : List Int) : Int := passed ws sts ps (ws.length - 1) (r + (gW ws (ws.length - 1)).len) - gI sts 0

section
variable (r : Int) (A B : Option Addr) (c d : Nat) (ws : List Wg) (sts : List Int) (T1 T2 : TypeId) (w : World) (h1 : SlW w T1 A ws) (h2 : SlI w T2 B sts) (hl2 : sts.length ≤ maxLen) (hval : VSt r ws sts)
include h1 h2 hl2 hval

set_option maxRecDepth 100000 in
set_option maxHeartbeats 2000000 in
theorem lasting_c :
    Calls Try.prog 82 #[.agg #[I r, .slice A ws.length c], .slice B sts.length d] w fun e w' => e = .returned (Sp (lasF r ws sts (his ws)) (lasF r ws sts (los ws))) ∧ Below w.heap.size w w' := by
  obtain ⟨k, hkn⟩ : ∃ k, k + 1 = ws.length := ⟨ws.length - 1, by have := hval.n1; omega⟩
  have hr1 := hval.r1
  have hr2 := hval.r2
  have hl8 := hval.n2
  have hlen := hval.len
  have hst := hval.bd k (by omega)
  have hst0 := hval.bd 0 (by omega)
  have hvk := hval.all k (by omega)
  obtain ⟨_, hg1, hg2, _⟩ := hvk
  have hsl : Sm ws sts (eps ws 0) k := (hval.smLo (i := k) (by omega) (by omega) (fun j hj => hval.bd j (by omega))).congr (by simp [eps]; omega) (fun j hj => (eps_los ws hl8 j (by omega)).symm)
  have hsh : Sm ws sts (eps ws 1) k := (hval.smHi (i := k) (by omega) (by omega) (fun j hj => hval.bd j (by omega))).congr (by simp [eps]; omega) (fun j hj => (eps_his ws hl8 j (by omega)).symm)
  have hp1 := passed_bd (S := 1000000) (D := 1000000) (place := r + (gW ws k).len) (fun j hj => by have := hsl.2.2.2.2 j hj; omega : ∀ j, j ≤ k → 1 ≤ gI (eps ws 0) j ∧ gI sts j ≤ 1000000 ∧ 0 ≤ (gW ws j).len ∧ (gW ws j).len ≤ 1000000) (by omega) (by omega)
  have hp2 := passed_bd (S := 1000000) (D := 1000000) (place := r + (gW ws k).len) (fun j hj => by have := hsh.2.2.2.2 j hj; omega : ∀ j, j ≤ k → 1 ≤ gI (eps ws 1) j ∧ gI sts j ≤ 1000000 ∧ 0 ≤ (gW ws j).len ∧ (gW ws j).len ≤ 1000000) (by omega) (by omega)
  obtain ⟨b2, o2, rfl, hb2⟩ := SlI.some_ h2 (k := k) (by omega)
  have hs0 : (0 : Int) < sts.length := by omega
  have hs0n : 0 < sts.length := by omega
  have hlk : (ws.length : Int) - 1 = (k : Int) := by omega
  have Hkn := Lib.hid hkn
  have Hlen := Lib.hid hlen
  have hb0 : Bx ((w.alloc (.cells #[I r, .slice A ws.length c] 24)).alloc (.cells #[I 0, I 0] 27)) w.heap.size 24 #[I r, .slice A ws.length c] := (Bx.new w 24 #[I r, .slice A ws.length c]).alloc _
  have hb4 : Bx ((w.alloc (.cells #[I r, .slice A ws.length c] 24)).alloc (.cells #[I 0, I 0] 27)) (w.heap.size + 1) 27 #[I 0, I 0] := Bx.new' _ _ _ _ (by simp)
  have hW0 : Below w.heap.size w ((w.alloc (.cells #[I r, .slice A ws.length c] 24)).alloc (.cells #[I 0, I 0] 27)) := ((Below.refl _ _).alloc (Nat.le_refl _) _).alloc (by simp) _
  clear hlen hkn
  go_enter Try.func82, Try.ntmps82
  go_wp2_with fail
  generalize hWe : World.alloc (World.alloc _ _) _ = W0 at hb0 hb4 hW0 ⊢
  clear hWe
  refine wp_region_list_fr (by kernel_rfl) (R := RB (W0.heap.size) W0) (F := FB) [6, 7]
      [As.is _ _ (.agg #[I r, .slice A ws.length c]),
      As.is _ _ (.slice (some ⟨b2, o2, none⟩) sts.length d),
      As.is _ _ (tv A ws.length c (some ⟨b2, o2, none⟩) sts.length d (endp ws 0 0) (endp ws 0 1) (endp ws 0 2) (endp ws 0 3) (endp ws 0 4) (endp ws 0 5) (endp ws 0 6) (endp ws 0 7)),
      As.is _ _ (.agg #[I r, .slice A ws.length c]),
      As.is _ _ (.slice (some ⟨b2, o2, none⟩) sts.length d),
      As.is _ _ (tv A ws.length c (some ⟨b2, o2, none⟩) sts.length d (endp ws 1 0) (endp ws 1 1) (endp ws 1 2) (endp ws 1 3) (endp ws 1 4) (endp ws 1 5) (endp ws 1 6) (endp ws 1 7)),
      As.new _ _ 97 #[.slice none 0 0, .slice none 0 0, I 0, I 0, I 0, I 0, I 0, I 0, I 0, I 0],
      As.new _ _ 97 #[.slice none 0 0, .slice none 0 0, I 0, I 0, I 0, I 0, I 0, I 0, I 0, I 0]] 38 (by kernel_rfl) rfl ((Below.refl _ _).drew) ?_ ?_
  · intro i hi o ho ev w' hR hc hf hg hs hd
    match i, hi, ho with
    | 0, _, ho =>
      cases ho
      have e2 : ev (.tmp 2) = .pointer (some ⟨w.heap.size, 0, none⟩) := hs 2 (by kernel_rfl)
      have m4 := (hb0.below hR hb0.lt).cell
      go_simp
      first | exact ⟨rfl, hR, Below.refl _ _⟩ | exact ⟨⟨rfl, fun h => absurd h (by decide)⟩, hR, Below.refl _ _⟩
    | 1, _, ho =>
      cases ho
      have e1 : ev (.tmp 1) = .slice (some ⟨b2, o2, none⟩) sts.length d := hs 1 (by kernel_rfl)
      go_simp
      first | exact ⟨rfl, hR, Below.refl _ _⟩ | exact ⟨⟨rfl, fun h => absurd h (by decide)⟩, hR, Below.refl _ _⟩
    | 2, _, ho =>
      cases ho
      have e8 : ev (.tmp 8) = .agg #[I r, .slice A ws.length c] := hd 0 8 (by kernel_rfl)
      have e9 : ev (.tmp 9) = .slice (some ⟨b2, o2, none⟩) sts.length d := hd 1 9 (by kernel_rfl)
      go_simp
      refine (allAt_c r A (some ⟨b2, o2, none⟩) c d ws _ 0 T1 _ (.inl rfl) (h1.below (hW0.trans (hR.mono hW0.size)) (Nat.le_refl _)) hl8).mono ?_
      rintro e wz ⟨rfl, hwz⟩
      first | exact ⟨rfl, hR.trans (hwz.mono hR.size), hwz⟩ | exact ⟨⟨rfl, fun h => absurd h (by decide)⟩, hR.trans (hwz.mono hR.size), hwz⟩
    | 3, _, ho =>
      cases ho
      have e2 : ev (.tmp 2) = .pointer (some ⟨w.heap.size, 0, none⟩) := hs 2 (by kernel_rfl)
      have m4 := (hb0.below hR hb0.lt).cell
      go_simp
      first | exact ⟨rfl, hR, Below.refl _ _⟩ | exact ⟨⟨rfl, fun h => absurd h (by decide)⟩, hR, Below.refl _ _⟩
    | 4, _, ho =>
      cases ho
      have e1 : ev (.tmp 1) = .slice (some ⟨b2, o2, none⟩) sts.length d := hs 1 (by kernel_rfl)
      go_simp
      first | exact ⟨rfl, hR, Below.refl _ _⟩ | exact ⟨⟨rfl, fun h => absurd h (by decide)⟩, hR, Below.refl _ _⟩
    | 5, _, ho =>
      cases ho
      have e11 : ev (.tmp 11) = .agg #[I r, .slice A ws.length c] := hd 3 11 (by kernel_rfl)
      have e12 : ev (.tmp 12) = .slice (some ⟨b2, o2, none⟩) sts.length d := hd 4 12 (by kernel_rfl)
      go_simp
      refine (allAt_c r A (some ⟨b2, o2, none⟩) c d ws _ 1 T1 _ (.inr rfl) (h1.below (hW0.trans (hR.mono hW0.size)) (Nat.le_refl _)) hl8).mono ?_
      rintro e wz ⟨rfl, hwz⟩
      first | exact ⟨rfl, hR.trans (hwz.mono hR.size), hwz⟩ | exact ⟨⟨rfl, fun h => absurd h (by decide)⟩, hR.trans (hwz.mono hR.size), hwz⟩
    | 6, _, ho =>
      cases ho
      go_simp
      refine ⟨⟨⟨_, rfl, hR.size, Bx.new _ _ _⟩, ?_⟩, hR.alloc hR.size _, (Below.refl _ _).alloc (Nat.le_refl _) _⟩
      first | exact fun u hu => NewB.ne hu | exact ⟨fun u hu => NewB.ne hu, fun u hu => NewB.ne hu⟩ | exact ⟨fun u hu => NewB.ne hu, fun u hu => NewB.ne hu, fun u hu => NewB.ne hu⟩
    | 7, _, ho =>
      cases ho
      go_simp
      refine ⟨⟨⟨_, rfl, hR.size, Bx.new _ _ _⟩, ?_⟩, hR.alloc hR.size _, (Below.refl _ _).alloc (Nat.le_refl _) _⟩
      first | exact fun u hu => NewB.ne hu | exact ⟨fun u hu => NewB.ne hu, fun u hu => NewB.ne hu⟩ | exact ⟨fun u hu => NewB.ne hu, fun u hu => NewB.ne hu, fun u hu => NewB.ne hu⟩
    | n + 8, hi, _ => exact absurd hi (by simp)
  · intro ρ wE hR hρ hne K hK
    have p2 : ρ 2 = tv A ws.length c (some ⟨b2, o2, none⟩) sts.length d (endp ws 0 0) (endp ws 0 1) (endp ws 0 2) (endp ws 0 3) (endp ws 0 4) (endp ws 0 5) (endp ws 0 6) (endp ws 0 7) := hρ 2 (by simp)
    have p5 : ρ 5 = tv A ws.length c (some ⟨b2, o2, none⟩) sts.length d (endp ws 1 0) (endp ws 1 1) (endp ws 1 2) (endp ws 1 3) (endp ws 1 4) (endp ws 1 5) (endp ws 1 6) (endp ws 1 7) := hρ 5 (by simp)
    obtain ⟨ka, pa, la, ba⟩ := hρ 6 (by simp)
    obtain ⟨kb, pb, lb, bb⟩ := hρ 7 (by simp)
    have hk : ka ≠ kb := fun e => hne 6 7 (by simp) (by simp) (by simp) (by simp) (by simp) (by rw [pa, pb, e])
    have hbx := hb0.below hR hb0.lt
    have cx := hbx.cell
    clear hρ hne
    show K (putAll _ _ ρ 8) _
    simp only [putAll, dOf, List.getElem?_toArray, List.getElem?_cons_zero, List.getElem?_cons_succ, Option.bind_some, Act.put, List.setIfInBounds_toArray, List.set_cons_zero, List.set_cons_succ]
    rw [p2, p5, pa, pb]
    unfold tv
    refine hK _ _ ?_
    change wpList _ _ _ [_, _] _ _
    clear hK K p2 p5 pa pb
    have fa := ba.free
    have ca := ba.cell
    have fb := bb.free
    have cb := bb.cell
    have hka : ¬ ka = w.heap.size := by have := hb0.lt; omega
    have hkb : ¬ kb = w.heap.size := by have := hb0.lt; omega
    go_wp2_with fail
    refine calls_gen (fun W' => Below W0.heap.size W0 W') (by (repeat (refine Below.setCell ?_ (by simp only []; omega) _)); exact hR) ?_
    intro w5 hw5
    have hW5 := hW0.trans (hw5.mono hW0.size)
    refine (betweenLeaves_c A (some ⟨b2, o2, none⟩) c d (endp ws 1 0) (endp ws 1 1) (endp ws 1 2) (endp ws 1 3) (endp ws 1 4) (endp ws 1 5) (endp ws 1 6) (endp ws 1 7) (endp ws 0 0) (endp ws 0 1) (endp ws 0 2) (endp ws 0 3) (endp ws 0 4) (endp ws 0 5) (endp ws 0 6) (endp ws 0 7) ws sts k r T1 T2 _ (h1.below hW5 (Nat.le_refl _)) (h2.below hW5 (Nat.le_refl _)) hsh hsl (by omega) (by omega) (by omega) hl2).mono ?_
    rintro e w6 ⟨rfl, hbw6⟩
    have hW6 := hW5.trans (hbw6.mono hW5.size)
    have hb46 := (hb4.below hw5 hb4.lt).below hbw6 (by have := hb4.lt; have := hw5.size; omega)
    clear fa ca fb cb cx
    have hb7 := Bx.new w6 27 #[I (passed ws sts (eps ws 1) k (r + (gW ws k).len)), I (passed ws sts (eps ws 0) k (r + (gW ws k).len))]
    have hb47 := hb46.alloc (.cells #[I (passed ws sts (eps ws 1) k (r + (gW ws k).len)), I (passed ws sts (eps ws 0) k (r + (gW ws k).len))] 27)
    have hW7 := hW6.alloc hW6.size (.cells #[I (passed ws sts (eps ws 1) k (r + (gW ws k).len)), I (passed ws sts (eps ws 0) k (r + (gW ws k).len))] 27)
    unfold eps at hb7 hb47 hW7
    go_wp2_with fail
    generalize hW7e : World.alloc w6 _ = w7 at hb7 hb47 hW7 ⊢
    clear hW7e
    refine wp_region_list_fr (by kernel_rfl) (R := RB (w7.heap.size) w7) (F := FB) []
        [As.is _ _ (.pointer (some ⟨w6.heap.size, 0, none⟩)),
        As.is _ _ (I (passed ws sts (eps ws 1) k (r + (gW ws k).len))),
        As.is _ _ (.slice (some ⟨b2, o2, none⟩) sts.length d),
        As.is _ _ (.pointer (some ⟨b2, o2, none⟩)),
        As.is _ _ (I (gI sts 0)),
        As.is _ _ (I (passed ws sts (eps ws 1) k (r + (gW ws k).len) - gI sts 0)),
        As.is _ _ (.pointer (some ⟨w6.heap.size, 1, none⟩)),
        As.is _ _ (I (passed ws sts (eps ws 0) k (r + (gW ws k).len))),
        As.is _ _ (.slice (some ⟨b2, o2, none⟩) sts.length d),
        As.is _ _ (.pointer (some ⟨b2, o2, none⟩)),
        As.is _ _ (I (gI sts 0)),
        As.is _ _ (I (passed ws sts (eps ws 0) k (r + (gW ws k).len) - gI sts 0)),
        As.is _ _ (Sp (passed ws sts (eps ws 1) k (r + (gW ws k).len) - gI sts 0) (passed ws sts (eps ws 0) k (r + (gW ws k).len) - gI sts 0))] 38 (by kernel_rfl) rfl ((Below.refl _ _).drew) ?_ ?_
    · intro i hi o ho ev w' hR hc hf hg hs hd
      match i, hi, ho with
      | 0, _, ho =>
        cases ho
        have e7 : ev (.tmp 7) = .pointer (some ⟨w6.heap.size, 0, none⟩) := hs 7 (by kernel_rfl)
        go_simp
        first | exact ⟨rfl, hR, Below.refl _ _⟩ | exact ⟨⟨rfl, fun h => absurd h (by decide)⟩, hR, Below.refl _ _⟩
      | 1, _, ho =>
        cases ho
        have e25 : ev (.tmp 25) = .pointer (some ⟨w6.heap.size, 0, none⟩) := hd 0 25 (by kernel_rfl)
        have m7 := (hb7.below hR hb7.lt).cell
        go_simp
        first | exact ⟨rfl, hR, Below.refl _ _⟩ | exact ⟨⟨rfl, fun h => absurd h (by decide)⟩, hR, Below.refl _ _⟩
      | 2, _, ho =>
        cases ho
        have e1 : ev (.tmp 1) = .slice (some ⟨b2, o2, none⟩) sts.length d := hs 1 (by kernel_rfl)
        go_simp
        first | exact ⟨rfl, hR, Below.refl _ _⟩ | exact ⟨⟨rfl, fun h => absurd h (by decide)⟩, hR, Below.refl _ _⟩
      | 3, _, ho =>
        cases ho
        have e27 : ev (.tmp 27) = .slice (some ⟨b2, o2, none⟩) sts.length d := hd 2 27 (by kernel_rfl)
        go_simp
        first | exact ⟨rfl, hR, Below.refl _ _⟩ | exact ⟨⟨rfl, fun h => absurd h (by decide)⟩, hR, Below.refl _ _⟩
      | 4, _, ho =>
        cases ho
        have e28 : ev (.tmp 28) = .pointer (some ⟨b2, o2, none⟩) := hd 3 28 (by kernel_rfl)
        have ms := SlI.cellG (h2.below (hW7.trans (hR.mono hW7.size)) (Nat.le_refl _)) hs0n
        rw [Nat.add_zero] at ms
        go_simp
        first | exact ⟨rfl, hR, Below.refl _ _⟩ | exact ⟨⟨rfl, fun h => absurd h (by decide)⟩, hR, Below.refl _ _⟩
      | 5, _, ho =>
        cases ho
        have e26 : ev (.tmp 26) = I (passed ws sts (eps ws 1) k (r + (gW ws k).len)) := hd 1 26 (by kernel_rfl)
        have e29 : ev (.tmp 29) = I (gI sts 0) := hd 4 29 (by kernel_rfl)
        have ew : IntKind.i64.wrap (passed ws sts (eps ws 1) k (r + (gW ws k).len) - gI sts 0) = passed ws sts (eps ws 1) k (r + (gW ws k).len) - gI sts 0 := IntWalk.i64_in _ (by omega)
        go_simp
        first | exact ⟨rfl, hR, Below.refl _ _⟩ | exact ⟨⟨rfl, fun h => absurd h (by decide)⟩, hR, Below.refl _ _⟩
      | 6, _, ho =>
        cases ho
        have e7 : ev (.tmp 7) = .pointer (some ⟨w6.heap.size, 0, none⟩) := hs 7 (by kernel_rfl)
        go_simp
        first | exact ⟨rfl, hR, Below.refl _ _⟩ | exact ⟨⟨rfl, fun h => absurd h (by decide)⟩, hR, Below.refl _ _⟩
      | 7, _, ho =>
        cases ho
        have e31 : ev (.tmp 31) = .pointer (some ⟨w6.heap.size, 1, none⟩) := hd 6 31 (by kernel_rfl)
        have m7 := (hb7.below hR hb7.lt).cell
        go_simp
        first | exact ⟨rfl, hR, Below.refl _ _⟩ | exact ⟨⟨rfl, fun h => absurd h (by decide)⟩, hR, Below.refl _ _⟩
      | 8, _, ho =>
        cases ho
        have e1 : ev (.tmp 1) = .slice (some ⟨b2, o2, none⟩) sts.length d := hs 1 (by kernel_rfl)
        go_simp
        first | exact ⟨rfl, hR, Below.refl _ _⟩ | exact ⟨⟨rfl, fun h => absurd h (by decide)⟩, hR, Below.refl _ _⟩
      | 9, _, ho =>
        cases ho
        have e33 : ev (.tmp 33) = .slice (some ⟨b2, o2, none⟩) sts.length d := hd 8 33 (by kernel_rfl)
        go_simp
        first | exact ⟨rfl, hR, Below.refl _ _⟩ | exact ⟨⟨rfl, fun h => absurd h (by decide)⟩, hR, Below.refl _ _⟩
      | 10, _, ho =>
        cases ho
        have e34 : ev (.tmp 34) = .pointer (some ⟨b2, o2, none⟩) := hd 9 34 (by kernel_rfl)
        have ms := SlI.cellG (h2.below (hW7.trans (hR.mono hW7.size)) (Nat.le_refl _)) hs0n
        rw [Nat.add_zero] at ms
        go_simp
        first | exact ⟨rfl, hR, Below.refl _ _⟩ | exact ⟨⟨rfl, fun h => absurd h (by decide)⟩, hR, Below.refl _ _⟩
      | 11, _, ho =>
        cases ho
        have e32 : ev (.tmp 32) = I (passed ws sts (eps ws 0) k (r + (gW ws k).len)) := hd 7 32 (by kernel_rfl)
        have e35 : ev (.tmp 35) = I (gI sts 0) := hd 10 35 (by kernel_rfl)
        have ew : IntKind.i64.wrap (passed ws sts (eps ws 0) k (r + (gW ws k).len) - gI sts 0) = passed ws sts (eps ws 0) k (r + (gW ws k).len) - gI sts 0 := IntWalk.i64_in _ (by omega)
        go_simp
        first | exact ⟨rfl, hR, Below.refl _ _⟩ | exact ⟨⟨rfl, fun h => absurd h (by decide)⟩, hR, Below.refl _ _⟩
      | 12, _, ho =>
        cases ho
        have e30 : ev (.tmp 30) = I (passed ws sts (eps ws 1) k (r + (gW ws k).len) - gI sts 0) := hd 5 30 (by kernel_rfl)
        have e36 : ev (.tmp 36) = I (passed ws sts (eps ws 0) k (r + (gW ws k).len) - gI sts 0) := hd 11 36 (by kernel_rfl)
        go_simp
        first | exact ⟨rfl, hR, Below.refl _ _⟩ | exact ⟨⟨rfl, fun h => absurd h (by decide)⟩, hR, Below.refl _ _⟩
      | n + 13, hi, _ => exact absurd hi (by simp)
    · intro ρ wE hR hρ hne K hK
      have p12 : ρ 12 = Sp (passed ws sts (eps ws 1) k (r + (gW ws k).len) - gI sts 0) (passed ws sts (eps ws 0) k (r + (gW ws k).len) - gI sts 0) := hρ 12 (by simp)
      have hbx := hb47.below hR hb47.lt
      have hWE := hW7.trans (hR.mono hW7.size)
      clear hρ hne
      show K (putAll _ _ ρ 13) _
      simp only [putAll, dOf, List.getElem?_toArray, List.getElem?_cons_zero, List.getElem?_cons_succ, Option.bind_some, Act.put, List.setIfInBounds_toArray, List.set_cons_zero, List.set_cons_succ]
      rw [p12]
      refine hK _ _ ?_
      change wpList _ _ _ [_] _ _
      clear hK K p12
      have fx := hbx.free
      have cx := hbx.cell
      have hb9 := (hbx.set_ 0 (I (passed ws sts (eps ws 1) k (r + (gW ws k).len) - gI sts 0))).set_ 1 (I (passed ws sts (eps ws 0) k (r + (gW ws k).len) - gI sts 0))
      have hc9 := hb9.cell
      go_wp2
      refine bodyPost_ret (v := Sp (passed ws sts (eps ws 1) k (r + (gW ws k).len) - gI sts 0) (passed ws sts (eps ws 0) k (r + (gW ws k).len) - gI sts 0)) (by simp [results, Try.results82, go_sem, hc9]) rfl ⟨?_, ?_⟩
      · unfold lasF
        rw [← Hkn.out, show k + 1 - 1 = k from rfl, passed_congr (r + (gW ws k).len) fun j hj => eps_his ws hl8 j (by omega), passed_congr (r + (gW ws k).len) fun j hj => eps_los ws hl8 j (by omega)]
      · repeat (refine Below.setCell ?_ (by simp only []; omega) _)
        exact hWE
end
end Go.Proofs.Ytnihkgdkdinliaa
