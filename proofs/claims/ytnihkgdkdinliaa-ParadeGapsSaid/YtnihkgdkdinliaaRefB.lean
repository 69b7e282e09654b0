/- How long the parade may last, where and when: the reference. Own work; imports no translation. -/
import Derived.Test.YtnihkgdkdinliaaLasting
import Derived.Test.YtnihkgdkdinliaaPasses
import Derived.Test.YtnihkgdkdinliaaRules
namespace Go.Proofs.Ytnihkgdkdinliaa
open Go.RowKit
set_option linter.unusedVariables false
set_option linter.unusedSimpArgs false

section
variable (r : Int) (A B : Option Addr) (c d : Nat) (ws : List Wg) (sts : List Int) (T1 T2 : TypeId) (w : World) (h1 : SlW w T1 A ws) (h2 : SlI w T2 B sts) (hl2 : sts.length ≤ maxLen) (hval : VSt r ws sts)
include h1 h2 hl2 hval

set_option maxRecDepth 100000 in
set_option maxHeartbeats 2000000 in
theorem lasts_c (C : Option Addr) (cc : Nat) (ps : List Int) (T3 : TypeId) (h3 : SlI w T3 C ps) (hl3 : ps.length ≤ 1000000) (hsm : Sm ws sts ps (ws.length - 1)) :
    Calls Try.prog 100 #[.agg #[I r, .slice A ws.length c], .slice B sts.length d, .slice C ps.length cc] w fun e w' => e = .returned (I (lasF r ws sts ps)) ∧ Below w.heap.size w w' := by
  obtain ⟨k, hkn⟩ : ∃ k, k + 1 = ws.length := ⟨ws.length - 1, by have := hval.n1; omega⟩
  have hr1 := hval.r1
  have hr2 := hval.r2
  have hl8 := hval.n2
  have hlen := hval.len
  have hst0 := hval.bd 0 (by omega)
  have hvk := hval.all k (by omega)
  obtain ⟨_, hg1, hg2, _⟩ := hvk
  rw [show ws.length - 1 = k by omega] at hsm
  have hp1 := passed_bd (S := 1000000) (D := 1000000) (place := r + (gW ws k).len) (fun j hj => by have := hsm.2.2.2.2 j hj; omega : ∀ j, j ≤ k → 1 ≤ gI ps j ∧ gI sts j ≤ 1000000 ∧ 0 ≤ (gW ws j).len ∧ (gW ws j).len ≤ 1000000) (by omega) (by omega)
  have hsk := (hsm.2.2.2.2 k (Nat.le_refl _)).2.2
  have hk8 : k ≤ 8 := by omega
  obtain ⟨b2, o2, rfl, hb2⟩ := SlI.some_ h2 (k := k) (by omega)
  have hkw : k < ws.length := by omega
  have hkw' : (k : Int) < ws.length := by omega
  obtain ⟨b1, o1, rfl, hb1⟩ := SlW.some_ h1 hkw
  have hs0 : (0 : Int) < sts.length := by omega
  have hs0n : 0 < sts.length := by omega
  have hlk : (ws.length : Int) - 1 = (k : Int) := by omega
  have Hkn := Lib.hid hkn
  have Hlen := Lib.hid hlen
  have hb0 := Bx.new w 24 #[I r, .slice (some ⟨b1, o1, none⟩) ws.length c]
  have hW0 : Below w.heap.size w (w.alloc (.cells #[I r, .slice (some ⟨b1, o1, none⟩) ws.length c] 24)) := (Below.refl _ _).alloc (Nat.le_refl _) _
  have hcb := hb0.cell
  clear hlen hkn
  go_enter Try.func100, Try.ntmps100
  go_wp2_with fail
  generalize hWe : World.alloc w _ = W0 at hb0 hW0 ⊢
  clear hWe hcb
  refine wp_region_list_fr (by kernel_rfl) (R := RB (W0.heap.size) W0) (F := FB) []
      [As.is _ _ (.agg #[I r, .slice (some ⟨b1, o1, none⟩) ws.length c]),
      As.is _ _ (.slice (some ⟨b2, o2, none⟩) sts.length d),
      As.is _ _ (.slice C ps.length cc),
      As.is _ _ (I k),
      As.is _ _ (.pointer (some ⟨w.heap.size, 0, none⟩)),
      As.is _ _ (I r),
      As.is _ _ (.pointer (some ⟨w.heap.size, 1, none⟩)),
      As.is _ _ (.slice (some ⟨b1, o1, none⟩) ws.length c),
      As.is _ _ (I k),
      As.is _ _ (.pointer (some ⟨b1, o1 + k * 4, none⟩)),
      As.is _ _ (.pointer (some ⟨b1, o1 + k * 4 + 1, none⟩)),
      As.is _ _ (I (gW ws k).len),
      As.is _ _ (I (r + (gW ws k).len)),
      As.is _ _ (I (passed ws sts ps k (r + (gW ws k).len))),
      As.is _ _ (.slice (some ⟨b2, o2, none⟩) sts.length d),
      As.is _ _ (.pointer (some ⟨b2, o2, none⟩)),
      As.is _ _ (I (gI sts 0)),
      As.is _ _ (I (passed ws sts ps k (r + (gW ws k).len) - gI sts 0))] 30 (by kernel_rfl) rfl ((Below.refl _ _).drew) ?_ ?_
  · intro i hi o ho ev w' hR hc hf hg hs hd
    match i, hi, ho with
    | 0, _, ho =>
      cases ho
      have e3 : ev (.tmp 3) = .pointer (some ⟨w.heap.size, 0, none⟩) := hs 3 (by kernel_rfl)
      have m4 := (hb0.below hR hb0.lt).cell
      go_simp
      first | exact ⟨rfl, hR, Below.refl _ _⟩ | exact ⟨⟨rfl, fun h => absurd h (by decide)⟩, hR, Below.refl _ _⟩
    | 1, _, ho =>
      cases ho
      have e1 : ev (.tmp 1) = .slice (some ⟨b2, o2, none⟩) sts.length d := hs 1 (by kernel_rfl)
      go_simp
      first | exact ⟨rfl, hR, Below.refl _ _⟩ | exact ⟨⟨rfl, fun h => absurd h (by decide)⟩, hR, Below.refl _ _⟩
    | 2, _, ho =>
      cases ho
      have e2 : ev (.tmp 2) = .slice C ps.length cc := hs 2 (by kernel_rfl)
      go_simp
      first | exact ⟨rfl, hR, Below.refl _ _⟩ | exact ⟨⟨rfl, fun h => absurd h (by decide)⟩, hR, Below.refl _ _⟩
    | 3, _, ho =>
      cases ho
      have e7 : ev (.tmp 7) = I k := hs 7 (by kernel_rfl)
      go_simp
      first | exact ⟨rfl, hR, Below.refl _ _⟩ | exact ⟨⟨rfl, fun h => absurd h (by decide)⟩, hR, Below.refl _ _⟩
    | 4, _, ho =>
      cases ho
      have e3 : ev (.tmp 3) = .pointer (some ⟨w.heap.size, 0, none⟩) := hs 3 (by kernel_rfl)
      go_simp
      first | exact ⟨rfl, hR, Below.refl _ _⟩ | exact ⟨⟨rfl, fun h => absurd h (by decide)⟩, hR, Below.refl _ _⟩
    | 5, _, ho =>
      cases ho
      have e16 : ev (.tmp 16) = .pointer (some ⟨w.heap.size, 0, none⟩) := hd 4 16 (by kernel_rfl)
      have m4 := (hb0.below hR hb0.lt).cell
      go_simp
      first | exact ⟨rfl, hR, Below.refl _ _⟩ | exact ⟨⟨rfl, fun h => absurd h (by decide)⟩, hR, Below.refl _ _⟩
    | 6, _, ho =>
      cases ho
      have e3 : ev (.tmp 3) = .pointer (some ⟨w.heap.size, 0, none⟩) := hs 3 (by kernel_rfl)
      go_simp
      first | exact ⟨rfl, hR, Below.refl _ _⟩ | exact ⟨⟨rfl, fun h => absurd h (by decide)⟩, hR, Below.refl _ _⟩
    | 7, _, ho =>
      cases ho
      have e18 : ev (.tmp 18) = .pointer (some ⟨w.heap.size, 1, none⟩) := hd 6 18 (by kernel_rfl)
      have m4 := (hb0.below hR hb0.lt).cell
      go_simp
      first | exact ⟨rfl, hR, Below.refl _ _⟩ | exact ⟨⟨rfl, fun h => absurd h (by decide)⟩, hR, Below.refl _ _⟩
    | 8, _, ho =>
      cases ho
      have e7 : ev (.tmp 7) = I k := hs 7 (by kernel_rfl)
      go_simp
      first | exact ⟨rfl, hR, Below.refl _ _⟩ | exact ⟨⟨rfl, fun h => absurd h (by decide)⟩, hR, Below.refl _ _⟩
    | 9, _, ho =>
      cases ho
      have e19 : ev (.tmp 19) = .slice (some ⟨b1, o1, none⟩) ws.length c := hd 7 19 (by kernel_rfl)
      have e20 : ev (.tmp 20) = I k := hd 8 20 (by kernel_rfl)
      go_simp
      first | exact ⟨rfl, hR, Below.refl _ _⟩ | exact ⟨⟨rfl, fun h => absurd h (by decide)⟩, hR, Below.refl _ _⟩
    | 10, _, ho =>
      cases ho
      have e21 : ev (.tmp 21) = .pointer (some ⟨b1, o1 + k * 4, none⟩) := hd 9 21 (by kernel_rfl)
      go_simp
      first | exact ⟨rfl, hR, Below.refl _ _⟩ | exact ⟨⟨rfl, fun h => absurd h (by decide)⟩, hR, Below.refl _ _⟩
    | 11, _, ho =>
      cases ho
      have e22 : ev (.tmp 22) = .pointer (some ⟨b1, o1 + k * 4 + 1, none⟩) := hd 10 22 (by kernel_rfl)
      have mw := (SlW.cellG (h1.below (hW0.trans (hR.mono hW0.size)) (Nat.le_refl _)) hkw).2.1
      go_simp
      first | exact ⟨rfl, hR, Below.refl _ _⟩ | exact ⟨⟨rfl, fun h => absurd h (by decide)⟩, hR, Below.refl _ _⟩
    | 12, _, ho =>
      cases ho
      have e17 : ev (.tmp 17) = I r := hd 5 17 (by kernel_rfl)
      have e23 : ev (.tmp 23) = I (gW ws k).len := hd 11 23 (by kernel_rfl)
      have ew : IntKind.i64.wrap (r + (gW ws k).len) = r + (gW ws k).len := IntWalk.i64_in _ (by omega)
      go_simp
      first | exact ⟨rfl, hR, Below.refl _ _⟩ | exact ⟨⟨rfl, fun h => absurd h (by decide)⟩, hR, Below.refl _ _⟩
    | 13, _, ho =>
      cases ho
      have e12 : ev (.tmp 12) = .agg #[I r, .slice (some ⟨b1, o1, none⟩) ws.length c] := hd 0 12 (by kernel_rfl)
      have e13 : ev (.tmp 13) = .slice (some ⟨b2, o2, none⟩) sts.length d := hd 1 13 (by kernel_rfl)
      have e14 : ev (.tmp 14) = .slice C ps.length cc := hd 2 14 (by kernel_rfl)
      have e15 : ev (.tmp 15) = I k := hd 3 15 (by kernel_rfl)
      have e24 : ev (.tmp 24) = I (r + (gW ws k).len) := hd 12 24 (by kernel_rfl)
      go_simp
      refine (passed_c r (some ⟨b1, o1, none⟩) (some ⟨b2, o2, none⟩) C c d cc ws sts ps k _ T1 T2 T3 _ (h1.below (hW0.trans (hR.mono hW0.size)) (Nat.le_refl _)) (h2.below (hW0.trans (hR.mono hW0.size)) (Nat.le_refl _)) (h3.below (hW0.trans (hR.mono hW0.size)) (Nat.le_refl _)) hsm (by omega) (by omega) (by omega) hl2 hl3).mono ?_
      rintro e wz ⟨rfl, hwz⟩
      first | exact ⟨rfl, hR.trans (hwz.mono hR.size), hwz⟩ | exact ⟨⟨rfl, fun h => absurd h (by decide)⟩, hR.trans (hwz.mono hR.size), hwz⟩
    | 14, _, ho =>
      cases ho
      have e1 : ev (.tmp 1) = .slice (some ⟨b2, o2, none⟩) sts.length d := hs 1 (by kernel_rfl)
      go_simp
      first | exact ⟨rfl, hR, Below.refl _ _⟩ | exact ⟨⟨rfl, fun h => absurd h (by decide)⟩, hR, Below.refl _ _⟩
    | 15, _, ho =>
      cases ho
      have e26 : ev (.tmp 26) = .slice (some ⟨b2, o2, none⟩) sts.length d := hd 14 26 (by kernel_rfl)
      go_simp
      first | exact ⟨rfl, hR, Below.refl _ _⟩ | exact ⟨⟨rfl, fun h => absurd h (by decide)⟩, hR, Below.refl _ _⟩
    | 16, _, ho =>
      cases ho
      have e27 : ev (.tmp 27) = .pointer (some ⟨b2, o2, none⟩) := hd 15 27 (by kernel_rfl)
      have ms := SlI.cellG (h2.below (hW0.trans (hR.mono hW0.size)) (Nat.le_refl _)) hs0n
      rw [Nat.add_zero] at ms
      go_simp
      first | exact ⟨rfl, hR, Below.refl _ _⟩ | exact ⟨⟨rfl, fun h => absurd h (by decide)⟩, hR, Below.refl _ _⟩
    | 17, _, ho =>
      cases ho
      have e25 : ev (.tmp 25) = I (passed ws sts ps k (r + (gW ws k).len)) := hd 13 25 (by kernel_rfl)
      have e28 : ev (.tmp 28) = I (gI sts 0) := hd 16 28 (by kernel_rfl)
      have ew : IntKind.i64.wrap (passed ws sts ps k (r + (gW ws k).len) - gI sts 0) = passed ws sts ps k (r + (gW ws k).len) - gI sts 0 := IntWalk.i64_in _ (by omega)
      go_simp
      first | exact ⟨rfl, hR, Below.refl _ _⟩ | exact ⟨⟨rfl, fun h => absurd h (by decide)⟩, hR, Below.refl _ _⟩
    | n + 18, hi, _ => exact absurd hi (by simp)
  · intro ρ wE hR hρ hne K hK
    have p17 : ρ 17 = I (passed ws sts ps k (r + (gW ws k).len) - gI sts 0) := hρ 17 (by simp)
    have hWE := hW0.trans (hR.mono hW0.size)
    clear hρ hne
    show K (putAll _ _ ρ 18) _
    simp only [putAll, dOf, List.getElem?_toArray, List.getElem?_cons_zero, List.getElem?_cons_succ, Option.bind_some, Act.put, List.setIfInBounds_toArray, List.set_cons_zero, List.set_cons_succ]
    rw [p17]
    refine hK _ _ ?_
    change wpList _ _ _ [_] _ _
    clear hK K p17
    go_wp2
    go_ret
    exact ⟨ret_int (by unfold lasF; rw [← Hkn.out, show k + 1 - 1 = k from rfl]), hWE⟩

set_option maxRecDepth 100000 in
set_option maxHeartbeats 2000000 in
theorem spans_c :
    Calls Try.prog 79 #[.agg #[I r, .slice A ws.length c], .slice B sts.length d] w fun e w' => e = .returned (Sp (lasF r ws sts (his ws)) (lasF r ws sts (los ws))) ∧ Below w.heap.size w w' := by
  have hl8 := hval.n2
  have hsl : Sm ws sts (los ws) (ws.length - 1) := hval.smLo (by have := hval.n1; omega) (by have := hval.n1; have := hval.len; omega) (fun j hj => hval.bd j (by have := hval.n1; have := hval.len; omega))
  have hsh : Sm ws sts (his ws) (ws.length - 1) := hval.smHi (by have := hval.n1; omega) (by have := hval.n1; have := hval.len; omega) (fun j hj => hval.bd j (by have := hval.n1; have := hval.len; omega))
  have hll := los_length ws
  have hlh := his_length ws
  have Hll := Lib.hid hll
  have Hlh := Lib.hid hlh
  have hb0 : Bx ((w.alloc (.cells #[I r, .slice A ws.length c] 24)).alloc (.cells #[I 0, I 0] 27)) w.heap.size 24 #[I r, .slice A ws.length c] := (Bx.new w 24 #[I r, .slice A ws.length c]).alloc _
  have hb4 : Bx ((w.alloc (.cells #[I r, .slice A ws.length c] 24)).alloc (.cells #[I 0, I 0] 27)) (w.heap.size + 1) 27 #[I 0, I 0] := Bx.new' _ _ _ _ (by simp)
  have hW0 : Below w.heap.size w ((w.alloc (.cells #[I r, .slice A ws.length c] 24)).alloc (.cells #[I 0, I 0] 27)) := ((Below.refl _ _).alloc (Nat.le_refl _) _).alloc (by simp) _
  clear hll hlh
  go_enter Try.func79, Try.ntmps79
  go_wp2_with fail
  generalize hWe : World.alloc (World.alloc _ _) _ = W0 at hb0 hb4 hW0 ⊢
  clear hWe
  refine wp_region_list_fr (by kernel_rfl) (R := RB (W0.heap.size) W0) (F := FB) []
      [As.is _ _ (.agg #[I r, .slice A ws.length c]),
      As.is _ _ (.slice B sts.length d),
      As.is _ _ (.agg #[I r, .slice A ws.length c]),
      As.sli _ _ 3 (his ws),
      As.is _ _ (I (lasF r ws sts (his ws))),
      As.is _ _ (.agg #[I r, .slice A ws.length c]),
      As.is _ _ (.slice B sts.length d),
      As.is _ _ (.agg #[I r, .slice A ws.length c]),
      As.sli _ _ 3 (los ws),
      As.is _ _ (I (lasF r ws sts (los ws))),
      As.is _ _ (Sp (lasF r ws sts (his ws)) (lasF r ws sts (los ws)))] 16 (by kernel_rfl) rfl ((Below.refl _ _).drew) ?_ ?_
  · intro i hi o ho ev w' hR hc hf hg hs hd
    match i, hi, ho with
    | 0, _, ho =>
      cases ho
      have e2 : ev (.tmp 2) = .pointer (some ⟨w.heap.size, 0, none⟩) := hs 2 (by kernel_rfl)
      have m4 := (hb0.below hR hb0.lt).cell
      go_simp
      first | exact ⟨rfl, hR, Below.refl _ _⟩ | exact ⟨⟨rfl, fun h => absurd h (by decide)⟩, hR, Below.refl _ _⟩
    | 1, _, ho =>
      cases ho
      have e1 : ev (.tmp 1) = .slice B sts.length d := hs 1 (by kernel_rfl)
      go_simp
      first | exact ⟨rfl, hR, Below.refl _ _⟩ | exact ⟨⟨rfl, fun h => absurd h (by decide)⟩, hR, Below.refl _ _⟩
    | 2, _, ho =>
      cases ho
      have e2 : ev (.tmp 2) = .pointer (some ⟨w.heap.size, 0, none⟩) := hs 2 (by kernel_rfl)
      have m4 := (hb0.below hR hb0.lt).cell
      go_simp
      first | exact ⟨rfl, hR, Below.refl _ _⟩ | exact ⟨⟨rfl, fun h => absurd h (by decide)⟩, hR, Below.refl _ _⟩
    | 3, _, ho =>
      cases ho
      have e7 : ev (.tmp 7) = .agg #[I r, .slice A ws.length c] := hd 2 7 (by kernel_rfl)
      go_simp
      refine (fast_c r A c ws T1 _ (h1.below (hW0.trans (hR.mono hW0.size)) (Nat.le_refl _)) (by omega)).mono ?_
      rintro e wz ⟨B3, c3, rfl, hs3, hwz⟩
      first | exact ⟨⟨B3, c3, rfl, hs3⟩, hR.trans (hwz.mono hR.size), hwz⟩ | exact ⟨⟨⟨B3, c3, rfl, hs3⟩, fun h => absurd h (by decide)⟩, hR.trans (hwz.mono hR.size), hwz⟩
    | 4, _, ho =>
      cases ho
      have e5 : ev (.tmp 5) = .agg #[I r, .slice A ws.length c] := hd 0 5 (by kernel_rfl)
      have e6 : ev (.tmp 6) = .slice B sts.length d := hd 1 6 (by kernel_rfl)
      obtain ⟨A8, c8, e8, s8⟩ := hd 3 8 (by kernel_rfl)
      go_simp
      refine (lasts_c r A B c d ws sts T1 T2 _ (h1.below (hW0.trans (hR.mono hW0.size)) (Nat.le_refl _)) (h2.below (hW0.trans (hR.mono hW0.size)) (Nat.le_refl _)) hl2 hval A8 c8 (his ws) _ s8 (by have := Hlh.out; omega) hsh).mono ?_
      rintro e wz ⟨rfl, hwz⟩
      first | exact ⟨rfl, hR.trans (hwz.mono hR.size), hwz⟩ | exact ⟨⟨rfl, fun h => absurd h (by decide)⟩, hR.trans (hwz.mono hR.size), hwz⟩
    | 5, _, ho =>
      cases ho
      have e2 : ev (.tmp 2) = .pointer (some ⟨w.heap.size, 0, none⟩) := hs 2 (by kernel_rfl)
      have m4 := (hb0.below hR hb0.lt).cell
      go_simp
      first | exact ⟨rfl, hR, Below.refl _ _⟩ | exact ⟨⟨rfl, fun h => absurd h (by decide)⟩, hR, Below.refl _ _⟩
    | 6, _, ho =>
      cases ho
      have e1 : ev (.tmp 1) = .slice B sts.length d := hs 1 (by kernel_rfl)
      go_simp
      first | exact ⟨rfl, hR, Below.refl _ _⟩ | exact ⟨⟨rfl, fun h => absurd h (by decide)⟩, hR, Below.refl _ _⟩
    | 7, _, ho =>
      cases ho
      have e2 : ev (.tmp 2) = .pointer (some ⟨w.heap.size, 0, none⟩) := hs 2 (by kernel_rfl)
      have m4 := (hb0.below hR hb0.lt).cell
      go_simp
      first | exact ⟨rfl, hR, Below.refl _ _⟩ | exact ⟨⟨rfl, fun h => absurd h (by decide)⟩, hR, Below.refl _ _⟩
    | 8, _, ho =>
      cases ho
      have e12 : ev (.tmp 12) = .agg #[I r, .slice A ws.length c] := hd 7 12 (by kernel_rfl)
      go_simp
      refine (slow_c r A c ws T1 _ (h1.below (hW0.trans (hR.mono hW0.size)) (Nat.le_refl _)) (by omega)).mono ?_
      rintro e wz ⟨B8, c8, rfl, hs8, hwz⟩
      first | exact ⟨⟨B8, c8, rfl, hs8⟩, hR.trans (hwz.mono hR.size), hwz⟩ | exact ⟨⟨⟨B8, c8, rfl, hs8⟩, fun h => absurd h (by decide)⟩, hR.trans (hwz.mono hR.size), hwz⟩
    | 9, _, ho =>
      cases ho
      have e10 : ev (.tmp 10) = .agg #[I r, .slice A ws.length c] := hd 5 10 (by kernel_rfl)
      have e11 : ev (.tmp 11) = .slice B sts.length d := hd 6 11 (by kernel_rfl)
      obtain ⟨A13, c13, e13, s13⟩ := hd 8 13 (by kernel_rfl)
      go_simp
      refine (lasts_c r A B c d ws sts T1 T2 _ (h1.below (hW0.trans (hR.mono hW0.size)) (Nat.le_refl _)) (h2.below (hW0.trans (hR.mono hW0.size)) (Nat.le_refl _)) hl2 hval A13 c13 (los ws) _ s13 (by have := Hll.out; omega) hsl).mono ?_
      rintro e wz ⟨rfl, hwz⟩
      first | exact ⟨rfl, hR.trans (hwz.mono hR.size), hwz⟩ | exact ⟨⟨rfl, fun h => absurd h (by decide)⟩, hR.trans (hwz.mono hR.size), hwz⟩
    | 10, _, ho =>
      cases ho
      have e9 : ev (.tmp 9) = I (lasF r ws sts (his ws)) := hd 4 9 (by kernel_rfl)
      have e14 : ev (.tmp 14) = I (lasF r ws sts (los ws)) := hd 9 14 (by kernel_rfl)
      go_simp
      first | exact ⟨rfl, hR, Below.refl _ _⟩ | exact ⟨⟨rfl, fun h => absurd h (by decide)⟩, hR, Below.refl _ _⟩
    | n + 11, hi, _ => exact absurd hi (by simp)
  · intro ρ wE hR hρ hne K hK
    have p10 : ρ 10 = Sp (lasF r ws sts (his ws)) (lasF r ws sts (los ws)) := hρ 10 (by simp)
    have hbx := hb4.below hR hb4.lt
    have hWE := hW0.trans (hR.mono hW0.size)
    clear hρ hne
    show K (putAll _ _ ρ 11) _
    simp only [putAll, dOf, List.getElem?_toArray, List.getElem?_cons_zero, List.getElem?_cons_succ, Option.bind_some, Act.put, List.setIfInBounds_toArray, List.set_cons_zero, List.set_cons_succ]
    rw [p10]
    refine hK _ _ ?_
    change wpList _ _ _ [_] _ _
    clear hK K p10
    have fx := hbx.free
    have cx := hbx.cell
    have hb9 := (hbx.set_ 0 (I (lasF r ws sts (his ws)))).set_ 1 (I (lasF r ws sts (los ws)))
    have hc9 := hb9.cell
    go_wp2
    refine bodyPost_ret (v := Sp (lasF r ws sts (his ws)) (lasF r ws sts (los ws))) (by simp [results, Try.results79, go_sem, hc9]) rfl ⟨rfl, ?_⟩
    repeat (refine Below.setCell ?_ (by simp only []; omega) _)
    exact hWE
end

section
variable (r : Int) (A B : Option Addr) (c d : Nat) (ws : List Wg) (sts : List Int) (T1 T2 : TypeId) (w : World) (h1 : SlW w T1 A ws) (h2 : SlI w T2 B sts) (hf : Fit ws) (hl1 : ws.length ≤ maxLen) (hc : ws.length ≤ c) (hl2 : sts.length ≤ maxLen) (hd : sts.length ≤ d)
include h1 h2 hf hl1 hc hl2 hd

set_option maxRecDepth 100000 in
set_option maxHeartbeats 2000000 in
theorem whereR_c (wing t : Int) :
    Calls Try.prog 31 #[.agg #[I r, .slice A ws.length c], .slice B sts.length d, I wing, I t] w fun e w' => e = .returned (.tuple #[Sp (whLo r ws sts wing t) (whHi r ws sts wing t), I (mom r ws sts wing t)]) ∧ Below w.heap.size w w' := by
  have hb0 := Bx.new w 24 #[I r, .slice A ws.length c]
  have hb8 : Bx ((w.alloc (.cells #[I r, .slice A ws.length c] 24)).alloc (.cells #[I 0, I 0] 27)) (w.heap.size + 1) 27 #[I 0, I 0] := Bx.new' _ _ _ _ (by simp)
  have hW0 : Below w.heap.size w ((w.alloc (.cells #[I r, .slice A ws.length c] 24)).alloc (.cells #[I 0, I 0] 27)) := ((Below.refl _ _).alloc (Nat.le_refl _) _).alloc (by simp) _
  have hcb := hb0.cell
  go_enter Try.func31, Try.ntmps31
  go_wp2_with fail
  refine (checkWhere_c r _ B c d ws sts T1 T2 _ (h1.below hW0 (Nat.le_refl _)) (h2.below hW0 (Nat.le_refl _)) hf hl1 hc hl2 hd _ _).mono ?_
  rintro e w1 ⟨rfl, hbw1⟩
  have hWb := hW0.trans (hbw1.mono hW0.size)
  have hb01 := (hb0.alloc (.cells #[I 0, I 0] 27)).below hbw1 (by simp; omega)
  have hb81 := hb8.below hbw1 (by simp)
  clear hcb hb0 hb8
  have hc0 := hb01.cell
  have hc8 := hb81.cell
  have hf8 := hb81.free
  by_cases a1 : mom r ws sts wing t = 0
  · have hz : (mom r ws sts wing t != 0) = false := by simp [a1]
    obtain ⟨a2, a3, a4⟩ := mom_val a1
    obtain ⟨a5, a6⟩ := wngE_val a2
    have hval := cst_val a5
    have hl8 := hval.n2
    have hlen := hval.len
    obtain ⟨k, rfl⟩ : ∃ k : Nat, wing = (k : Int) := ⟨wing.toNat, by omega⟩
    rw [Int.toNat_natCast] at a3
    have hst := hval.bd k (by omega)
    have hsl : Sm ws sts (los ws) k := hval.smLo (i := k) (by omega) (by omega) (fun j hj => hval.bd j (by omega))
    have hsh : Sm ws sts (his ws) k := hval.smHi (i := k) (by omega) (by omega) (fun j hj => hval.bd j (by omega))
    have Hlen := Lib.hid hlen
    have Hll := Lib.hid (los_length ws)
    have Hlh := Lib.hid (his_length ws)
    clear hlen
    have A1 := Lib.hid a1
    clear a1 a2 a5
    go_wp2_with fail
    refine wp_region_list_fr (by kernel_rfl) (R := RB (w1.heap.size) w1) (F := FB) []
        [As.is _ _ (.agg #[I r, .slice A ws.length c]),
        As.is _ _ (.slice B sts.length d),
        As.is _ _ (.agg #[I r, .slice A ws.length c]),
        As.sli _ _ 3 (los ws),
        As.is _ _ (I k),
        As.is _ _ (I t),
        As.is _ _ (I (front ws sts (los ws) t k)),
        As.is _ _ (.agg #[I r, .slice A ws.length c]),
        As.is _ _ (.slice B sts.length d),
        As.is _ _ (.agg #[I r, .slice A ws.length c]),
        As.sli _ _ 3 (his ws),
        As.is _ _ (I k),
        As.is _ _ (I t),
        As.is _ _ (I (front ws sts (his ws) t k)),
        As.is _ _ (Sp (front ws sts (los ws) t k) (front ws sts (his ws) t k))] 35 (by kernel_rfl) rfl ((Below.refl _ _).drew) ?_ ?_
    · intro i hi o ho ev w' hR hc hf hg hs hd
      match i, hi, ho with
      | 0, _, ho =>
        cases ho
        have e4 : ev (.tmp 4) = .pointer (some ⟨w.heap.size, 0, none⟩) := hs 4 (by kernel_rfl)
        have m4 := (hb01.below hR hb01.lt).cell
        go_simp
        first | exact ⟨rfl, hR, Below.refl _ _⟩ | exact ⟨⟨rfl, fun h => absurd h (by decide)⟩, hR, Below.refl _ _⟩
      | 1, _, ho =>
        cases ho
        have e1 : ev (.tmp 1) = .slice B sts.length d := hs 1 (by kernel_rfl)
        go_simp
        first | exact ⟨rfl, hR, Below.refl _ _⟩ | exact ⟨⟨rfl, fun h => absurd h (by decide)⟩, hR, Below.refl _ _⟩
      | 2, _, ho =>
        cases ho
        have e4 : ev (.tmp 4) = .pointer (some ⟨w.heap.size, 0, none⟩) := hs 4 (by kernel_rfl)
        have m4 := (hb01.below hR hb01.lt).cell
        go_simp
        first | exact ⟨rfl, hR, Below.refl _ _⟩ | exact ⟨⟨rfl, fun h => absurd h (by decide)⟩, hR, Below.refl _ _⟩
      | 3, _, ho =>
        cases ho
        have e22 : ev (.tmp 22) = .agg #[I r, .slice A ws.length c] := hd 2 22 (by kernel_rfl)
        go_simp
        refine (slow_c r A c ws T1 _ (h1.below (hWb.trans (hR.mono hWb.size)) (Nat.le_refl _)) (by omega)).mono ?_
        rintro e wz ⟨B3, c3, rfl, hs3, hwz⟩
        first | exact ⟨⟨B3, c3, rfl, hs3⟩, hR.trans (hwz.mono hR.size), hwz⟩ | exact ⟨⟨⟨B3, c3, rfl, hs3⟩, fun h => absurd h (by decide)⟩, hR.trans (hwz.mono hR.size), hwz⟩
      | 4, _, ho =>
        cases ho
        have e2 : ev (.tmp 2) = I k := hs 2 (by kernel_rfl)
        go_simp
        first | exact ⟨rfl, hR, Below.refl _ _⟩ | exact ⟨⟨rfl, fun h => absurd h (by decide)⟩, hR, Below.refl _ _⟩
      | 5, _, ho =>
        cases ho
        have e3 : ev (.tmp 3) = I t := hs 3 (by kernel_rfl)
        go_simp
        first | exact ⟨rfl, hR, Below.refl _ _⟩ | exact ⟨⟨rfl, fun h => absurd h (by decide)⟩, hR, Below.refl _ _⟩
      | 6, _, ho =>
        cases ho
        have e20 : ev (.tmp 20) = .agg #[I r, .slice A ws.length c] := hd 0 20 (by kernel_rfl)
        have e21 : ev (.tmp 21) = .slice B sts.length d := hd 1 21 (by kernel_rfl)
        obtain ⟨A23, c23, e23, s23⟩ := hd 3 23 (by kernel_rfl)
        have e24 : ev (.tmp 24) = I k := hd 4 24 (by kernel_rfl)
        have e25 : ev (.tmp 25) = I t := hd 5 25 (by kernel_rfl)
        go_simp
        refine (front_c r A B A23 c d c23 ws sts (los ws) k _ T1 T2 _ _ (h1.below (hWb.trans (hR.mono hWb.size)) (Nat.le_refl _)) (h2.below (hWb.trans (hR.mono hWb.size)) (Nat.le_refl _)) s23 hsl (by omega) (by omega) (by omega) hl2 (by have := Hll.out; omega)).mono ?_
        rintro e wz ⟨rfl, hwz⟩
        first | exact ⟨rfl, hR.trans (hwz.mono hR.size), hwz⟩ | exact ⟨⟨rfl, fun h => absurd h (by decide)⟩, hR.trans (hwz.mono hR.size), hwz⟩
      | 7, _, ho =>
        cases ho
        have e4 : ev (.tmp 4) = .pointer (some ⟨w.heap.size, 0, none⟩) := hs 4 (by kernel_rfl)
        have m4 := (hb01.below hR hb01.lt).cell
        go_simp
        first | exact ⟨rfl, hR, Below.refl _ _⟩ | exact ⟨⟨rfl, fun h => absurd h (by decide)⟩, hR, Below.refl _ _⟩
      | 8, _, ho =>
        cases ho
        have e1 : ev (.tmp 1) = .slice B sts.length d := hs 1 (by kernel_rfl)
        go_simp
        first | exact ⟨rfl, hR, Below.refl _ _⟩ | exact ⟨⟨rfl, fun h => absurd h (by decide)⟩, hR, Below.refl _ _⟩
      | 9, _, ho =>
        cases ho
        have e4 : ev (.tmp 4) = .pointer (some ⟨w.heap.size, 0, none⟩) := hs 4 (by kernel_rfl)
        have m4 := (hb01.below hR hb01.lt).cell
        go_simp
        first | exact ⟨rfl, hR, Below.refl _ _⟩ | exact ⟨⟨rfl, fun h => absurd h (by decide)⟩, hR, Below.refl _ _⟩
      | 10, _, ho =>
        cases ho
        have e29 : ev (.tmp 29) = .agg #[I r, .slice A ws.length c] := hd 9 29 (by kernel_rfl)
        go_simp
        refine (fast_c r A c ws T1 _ (h1.below (hWb.trans (hR.mono hWb.size)) (Nat.le_refl _)) (by omega)).mono ?_
        rintro e wz ⟨B10, c10, rfl, hs10, hwz⟩
        first | exact ⟨⟨B10, c10, rfl, hs10⟩, hR.trans (hwz.mono hR.size), hwz⟩ | exact ⟨⟨⟨B10, c10, rfl, hs10⟩, fun h => absurd h (by decide)⟩, hR.trans (hwz.mono hR.size), hwz⟩
      | 11, _, ho =>
        cases ho
        have e2 : ev (.tmp 2) = I k := hs 2 (by kernel_rfl)
        go_simp
        first | exact ⟨rfl, hR, Below.refl _ _⟩ | exact ⟨⟨rfl, fun h => absurd h (by decide)⟩, hR, Below.refl _ _⟩
      | 12, _, ho =>
        cases ho
        have e3 : ev (.tmp 3) = I t := hs 3 (by kernel_rfl)
        go_simp
        first | exact ⟨rfl, hR, Below.refl _ _⟩ | exact ⟨⟨rfl, fun h => absurd h (by decide)⟩, hR, Below.refl _ _⟩
      | 13, _, ho =>
        cases ho
        have e27 : ev (.tmp 27) = .agg #[I r, .slice A ws.length c] := hd 7 27 (by kernel_rfl)
        have e28 : ev (.tmp 28) = .slice B sts.length d := hd 8 28 (by kernel_rfl)
        obtain ⟨A30, c30, e30, s30⟩ := hd 10 30 (by kernel_rfl)
        have e31 : ev (.tmp 31) = I k := hd 11 31 (by kernel_rfl)
        have e32 : ev (.tmp 32) = I t := hd 12 32 (by kernel_rfl)
        go_simp
        refine (front_c r A B A30 c d c30 ws sts (his ws) k _ T1 T2 _ _ (h1.below (hWb.trans (hR.mono hWb.size)) (Nat.le_refl _)) (h2.below (hWb.trans (hR.mono hWb.size)) (Nat.le_refl _)) s30 hsh (by omega) (by omega) (by omega) hl2 (by have := Hlh.out; omega)).mono ?_
        rintro e wz ⟨rfl, hwz⟩
        first | exact ⟨rfl, hR.trans (hwz.mono hR.size), hwz⟩ | exact ⟨⟨rfl, fun h => absurd h (by decide)⟩, hR.trans (hwz.mono hR.size), hwz⟩
      | 14, _, ho =>
        cases ho
        have e26 : ev (.tmp 26) = I (front ws sts (los ws) t k) := hd 6 26 (by kernel_rfl)
        have e33 : ev (.tmp 33) = I (front ws sts (his ws) t k) := hd 13 33 (by kernel_rfl)
        go_simp
        first | exact ⟨rfl, hR, Below.refl _ _⟩ | exact ⟨⟨rfl, fun h => absurd h (by decide)⟩, hR, Below.refl _ _⟩
      | n + 15, hi, _ => exact absurd hi (by simp)
    · intro ρ wE hR hρ hne K hK
      have p14 : ρ 14 = Sp (front ws sts (los ws) t k) (front ws sts (his ws) t k) := hρ 14 (by simp)
      have hbx := hb81.below hR hb81.lt
      have hWE := hWb.trans (hR.mono hWb.size)
      clear hρ hne
      show K (putAll _ _ ρ 15) _
      simp only [putAll, dOf, List.getElem?_toArray, List.getElem?_cons_zero, List.getElem?_cons_succ, Option.bind_some, Act.put, List.setIfInBounds_toArray, List.set_cons_zero, List.set_cons_succ]
      rw [p14]
      refine hK _ _ ?_
      change wpList _ _ _ [_, _] _ _
      clear hK K p14 hc8 hf8
      have fx := hbx.free
      have cx := hbx.cell
      have hb9 := (hbx.set_ 0 (I (front ws sts (los ws) t k))).set_ 1 (I (front ws sts (his ws) t k))
      have hc9 := hb9.cell
      go_wp2
      refine bodyPost_ret (v := .tuple #[Sp (front ws sts (los ws) t k) (front ws sts (his ws) t k), I 0]) (by simp [results, Try.results31, go_sem, hc9]) rfl ⟨?_, ?_⟩
      · rw [A1.out]
        unfold whLo whHi
        rw [if_pos A1.out, if_pos A1.out, Int.toNat_natCast]
      · repeat (refine Below.setCell ?_ (by simp only []; omega) _)
        exact hWE
  · have hz : (mom r ws sts wing t != 0) = true := by simp [a1]
    have A1 := Lib.hid a1
    clear a1
    go_wp2
    have hb9 := (hb81.set_ 0 (I 0)).set_ 1 (I 0)
    have hc9 := hb9.cell
    refine bodyPost_ret (v := .tuple #[Sp 0 0, I (mom r ws sts wing t)]) (by simp [results, Try.results31, go_sem, hc9]) rfl ⟨?_, ?_⟩
    · unfold whLo whHi
      rw [if_neg A1.out, if_neg A1.out]
    · repeat (refine Below.setCell ?_ (by simp only []; omega) _)
      exact hWb

set_option maxRecDepth 100000 in
set_option maxHeartbeats 2000000 in
theorem passesR_c (wing place : Int) :
    Calls Try.prog 33 #[.agg #[I r, .slice A ws.length c], .slice B sts.length d, I wing, I place] w fun e w' => e = .returned (.tuple #[Sp (paLo r ws sts wing place) (paHi r ws sts wing place), I (paE r ws sts wing place)]) ∧ Below w.heap.size w w' := by
  have hb0 := Bx.new w 24 #[I r, .slice A ws.length c]
  have hb8 : Bx ((w.alloc (.cells #[I r, .slice A ws.length c] 24)).alloc (.cells #[I 0, I 0] 27)) (w.heap.size + 1) 27 #[I 0, I 0] := Bx.new' _ _ _ _ (by simp)
  have hW0 : Below w.heap.size w ((w.alloc (.cells #[I r, .slice A ws.length c] 24)).alloc (.cells #[I 0, I 0] 27)) := ((Below.refl _ _).alloc (Nat.le_refl _) _).alloc (by simp) _
  have hcb := hb0.cell
  go_enter Try.func33, Try.ntmps33
  go_wp2_with fail
  refine (checkWing2_c r _ B c d ws sts T1 T2 _ (h1.below hW0 (Nat.le_refl _)) (h2.below hW0 (Nat.le_refl _)) hf hl1 hc hl2 hd _).mono ?_
  rintro e w1 ⟨rfl, hbw1⟩
  have hWb := hW0.trans (hbw1.mono hW0.size)
  have hb01 := (hb0.alloc (.cells #[I 0, I 0] 27)).below hbw1 (by simp; omega)
  have hb81 := hb8.below hbw1 (by simp)
  clear hcb hb0 hb8
  have hc0 := hb01.cell
  have hc8 := hb81.cell
  have hf8 := hb81.free
  by_cases a2 : wngE r ws sts wing = 0
  · have hz : (wngE r ws sts wing != 0) = false := by simp [a2]
    obtain ⟨a5, a6⟩ := wngE_val a2
    have hval := cst_val a5
    have hl8 := hval.n2
    have hlen := hval.len
    obtain ⟨k, rfl⟩ : ∃ k : Nat, wing = (k : Int) := ⟨wing.toNat, by omega⟩
    have hst := hval.bd k (by omega)
    have hsl : Sm ws sts (los ws) k := hval.smLo (i := k) (by omega) (by omega) (fun j hj => hval.bd j (by omega))
    have hsh : Sm ws sts (his ws) k := hval.smHi (i := k) (by omega) (by omega) (fun j hj => hval.bd j (by omega))
    have Hlen := Lib.hid hlen
    have Hll := Lib.hid (los_length ws)
    have Hlh := Lib.hid (his_length ws)
    clear hlen
    have A2 := Lib.hid a2
    clear a2 a5
    by_cases a3 : 0 ≤ place ∧ place ≤ 100000
    · have b3 := inB_yes (l := 0) (n := place) (m := 100000) (by omega)
      have A1 := Lib.hid (paE_ok A2.out a3)
      go_wp2_with fail
      refine (withinR_c _ _ _ _).mono ?_
      rintro e w2 ⟨rfl, rfl⟩
      go_wp2_with fail
      refine wp_region_list_fr (by kernel_rfl) (R := RB (w1.heap.size) w1) (F := FB) []
          [As.is _ _ (.agg #[I r, .slice A ws.length c]),
          As.is _ _ (.slice B sts.length d),
          As.is _ _ (.agg #[I r, .slice A ws.length c]),
          As.sli _ _ 3 (his ws),
          As.is _ _ (I k),
          As.is _ _ (I place),
          As.is _ _ (I (passed ws sts (his ws) k place)),
          As.is _ _ (.agg #[I r, .slice A ws.length c]),
          As.is _ _ (.slice B sts.length d),
          As.is _ _ (.agg #[I r, .slice A ws.length c]),
          As.sli _ _ 3 (los ws),
          As.is _ _ (I k),
          As.is _ _ (I place),
          As.is _ _ (I (passed ws sts (los ws) k place)),
          As.is _ _ (Sp (passed ws sts (his ws) k place) (passed ws sts (los ws) k place))] 38 (by kernel_rfl) rfl ((Below.refl _ _).drew) ?_ ?_
      · intro i hi o ho ev w' hR hc hf hg hs hd
        match i, hi, ho with
        | 0, _, ho =>
          cases ho
          have e4 : ev (.tmp 4) = .pointer (some ⟨w.heap.size, 0, none⟩) := hs 4 (by kernel_rfl)
          have m4 := (hb01.below hR hb01.lt).cell
          go_simp
          first | exact ⟨rfl, hR, Below.refl _ _⟩ | exact ⟨⟨rfl, fun h => absurd h (by decide)⟩, hR, Below.refl _ _⟩
        | 1, _, ho =>
          cases ho
          have e1 : ev (.tmp 1) = .slice B sts.length d := hs 1 (by kernel_rfl)
          go_simp
          first | exact ⟨rfl, hR, Below.refl _ _⟩ | exact ⟨⟨rfl, fun h => absurd h (by decide)⟩, hR, Below.refl _ _⟩
        | 2, _, ho =>
          cases ho
          have e4 : ev (.tmp 4) = .pointer (some ⟨w.heap.size, 0, none⟩) := hs 4 (by kernel_rfl)
          have m4 := (hb01.below hR hb01.lt).cell
          go_simp
          first | exact ⟨rfl, hR, Below.refl _ _⟩ | exact ⟨⟨rfl, fun h => absurd h (by decide)⟩, hR, Below.refl _ _⟩
        | 3, _, ho =>
          cases ho
          have e25 : ev (.tmp 25) = .agg #[I r, .slice A ws.length c] := hd 2 25 (by kernel_rfl)
          go_simp
          refine (fast_c r A c ws T1 _ (h1.below (hWb.trans (hR.mono hWb.size)) (Nat.le_refl _)) (by omega)).mono ?_
          rintro e wz ⟨B3, c3, rfl, hs3, hwz⟩
          first | exact ⟨⟨B3, c3, rfl, hs3⟩, hR.trans (hwz.mono hR.size), hwz⟩ | exact ⟨⟨⟨B3, c3, rfl, hs3⟩, fun h => absurd h (by decide)⟩, hR.trans (hwz.mono hR.size), hwz⟩
        | 4, _, ho =>
          cases ho
          have e2 : ev (.tmp 2) = I k := hs 2 (by kernel_rfl)
          go_simp
          first | exact ⟨rfl, hR, Below.refl _ _⟩ | exact ⟨⟨rfl, fun h => absurd h (by decide)⟩, hR, Below.refl _ _⟩
        | 5, _, ho =>
          cases ho
          have e3 : ev (.tmp 3) = I place := hs 3 (by kernel_rfl)
          go_simp
          first | exact ⟨rfl, hR, Below.refl _ _⟩ | exact ⟨⟨rfl, fun h => absurd h (by decide)⟩, hR, Below.refl _ _⟩
        | 6, _, ho =>
          cases ho
          have e23 : ev (.tmp 23) = .agg #[I r, .slice A ws.length c] := hd 0 23 (by kernel_rfl)
          have e24 : ev (.tmp 24) = .slice B sts.length d := hd 1 24 (by kernel_rfl)
          obtain ⟨A26, c26, e26, s26⟩ := hd 3 26 (by kernel_rfl)
          have e27 : ev (.tmp 27) = I k := hd 4 27 (by kernel_rfl)
          have e28 : ev (.tmp 28) = I place := hd 5 28 (by kernel_rfl)
          go_simp
          refine (passed_c r A B A26 c d c26 ws sts (his ws) k _ T1 T2 _ _ (h1.below (hWb.trans (hR.mono hWb.size)) (Nat.le_refl _)) (h2.below (hWb.trans (hR.mono hWb.size)) (Nat.le_refl _)) s26 hsh (by omega) (by omega) (by omega) hl2 (by have := Hlh.out; omega)).mono ?_
          rintro e wz ⟨rfl, hwz⟩
          first | exact ⟨rfl, hR.trans (hwz.mono hR.size), hwz⟩ | exact ⟨⟨rfl, fun h => absurd h (by decide)⟩, hR.trans (hwz.mono hR.size), hwz⟩
        | 7, _, ho =>
          cases ho
          have e4 : ev (.tmp 4) = .pointer (some ⟨w.heap.size, 0, none⟩) := hs 4 (by kernel_rfl)
          have m4 := (hb01.below hR hb01.lt).cell
          go_simp
          first | exact ⟨rfl, hR, Below.refl _ _⟩ | exact ⟨⟨rfl, fun h => absurd h (by decide)⟩, hR, Below.refl _ _⟩
        | 8, _, ho =>
          cases ho
          have e1 : ev (.tmp 1) = .slice B sts.length d := hs 1 (by kernel_rfl)
          go_simp
          first | exact ⟨rfl, hR, Below.refl _ _⟩ | exact ⟨⟨rfl, fun h => absurd h (by decide)⟩, hR, Below.refl _ _⟩
        | 9, _, ho =>
          cases ho
          have e4 : ev (.tmp 4) = .pointer (some ⟨w.heap.size, 0, none⟩) := hs 4 (by kernel_rfl)
          have m4 := (hb01.below hR hb01.lt).cell
          go_simp
          first | exact ⟨rfl, hR, Below.refl _ _⟩ | exact ⟨⟨rfl, fun h => absurd h (by decide)⟩, hR, Below.refl _ _⟩
        | 10, _, ho =>
          cases ho
          have e32 : ev (.tmp 32) = .agg #[I r, .slice A ws.length c] := hd 9 32 (by kernel_rfl)
          go_simp
          refine (slow_c r A c ws T1 _ (h1.below (hWb.trans (hR.mono hWb.size)) (Nat.le_refl _)) (by omega)).mono ?_
          rintro e wz ⟨B10, c10, rfl, hs10, hwz⟩
          first | exact ⟨⟨B10, c10, rfl, hs10⟩, hR.trans (hwz.mono hR.size), hwz⟩ | exact ⟨⟨⟨B10, c10, rfl, hs10⟩, fun h => absurd h (by decide)⟩, hR.trans (hwz.mono hR.size), hwz⟩
        | 11, _, ho =>
          cases ho
          have e2 : ev (.tmp 2) = I k := hs 2 (by kernel_rfl)
          go_simp
          first | exact ⟨rfl, hR, Below.refl _ _⟩ | exact ⟨⟨rfl, fun h => absurd h (by decide)⟩, hR, Below.refl _ _⟩
        | 12, _, ho =>
          cases ho
          have e3 : ev (.tmp 3) = I place := hs 3 (by kernel_rfl)
          go_simp
          first | exact ⟨rfl, hR, Below.refl _ _⟩ | exact ⟨⟨rfl, fun h => absurd h (by decide)⟩, hR, Below.refl _ _⟩
        | 13, _, ho =>
          cases ho
          have e30 : ev (.tmp 30) = .agg #[I r, .slice A ws.length c] := hd 7 30 (by kernel_rfl)
          have e31 : ev (.tmp 31) = .slice B sts.length d := hd 8 31 (by kernel_rfl)
          obtain ⟨A33, c33, e33, s33⟩ := hd 10 33 (by kernel_rfl)
          have e34 : ev (.tmp 34) = I k := hd 11 34 (by kernel_rfl)
          have e35 : ev (.tmp 35) = I place := hd 12 35 (by kernel_rfl)
          go_simp
          refine (passed_c r A B A33 c d c33 ws sts (los ws) k _ T1 T2 _ _ (h1.below (hWb.trans (hR.mono hWb.size)) (Nat.le_refl _)) (h2.below (hWb.trans (hR.mono hWb.size)) (Nat.le_refl _)) s33 hsl (by omega) (by omega) (by omega) hl2 (by have := Hll.out; omega)).mono ?_
          rintro e wz ⟨rfl, hwz⟩
          first | exact ⟨rfl, hR.trans (hwz.mono hR.size), hwz⟩ | exact ⟨⟨rfl, fun h => absurd h (by decide)⟩, hR.trans (hwz.mono hR.size), hwz⟩
        | 14, _, ho =>
          cases ho
          have e29 : ev (.tmp 29) = I (passed ws sts (his ws) k place) := hd 6 29 (by kernel_rfl)
          have e36 : ev (.tmp 36) = I (passed ws sts (los ws) k place) := hd 13 36 (by kernel_rfl)
          go_simp
          first | exact ⟨rfl, hR, Below.refl _ _⟩ | exact ⟨⟨rfl, fun h => absurd h (by decide)⟩, hR, Below.refl _ _⟩
        | n + 15, hi, _ => exact absurd hi (by simp)
      · intro ρ wE hR hρ hne K hK
        have p14 : ρ 14 = Sp (passed ws sts (his ws) k place) (passed ws sts (los ws) k place) := hρ 14 (by simp)
        have hbx := hb81.below hR hb81.lt
        have hWE := hWb.trans (hR.mono hWb.size)
        clear hρ hne
        show K (putAll _ _ ρ 15) _
        simp only [putAll, dOf, List.getElem?_toArray, List.getElem?_cons_zero, List.getElem?_cons_succ, Option.bind_some, Act.put, List.setIfInBounds_toArray, List.set_cons_zero, List.set_cons_succ]
        rw [p14]
        refine hK _ _ ?_
        change wpList _ _ _ [_, _] _ _
        clear hK K p14 hc8 hf8
        have fx := hbx.free
        have cx := hbx.cell
        have hb9 := (hbx.set_ 0 (I (passed ws sts (his ws) k place))).set_ 1 (I (passed ws sts (los ws) k place))
        have hc9 := hb9.cell
        go_wp2
        refine bodyPost_ret (v := .tuple #[Sp (passed ws sts (his ws) k place) (passed ws sts (los ws) k place), I 0]) (by simp [results, Try.results33, go_sem, hc9]) rfl ⟨?_, ?_⟩
        · rw [A1.out]
          unfold paLo paHi
          rw [if_pos A1.out, if_pos A1.out, Int.toNat_natCast]
        · repeat (refine Below.setCell ?_ (by simp only []; omega) _)
          exact hWE
    · have b3 := inB_no (l := 0) (n := place) (m := 100000) (by omega)
      have A1 := Lib.hid (paE_no A2.out a3)
      clear a3
      go_wp2_with fail
      refine (withinR_c _ _ _ _).mono ?_
      rintro e w2 ⟨rfl, rfl⟩
      go_wp2
      have hb9 := (hb81.set_ 0 (I 0)).set_ 1 (I 0)
      have hc9 := hb9.cell
      refine bodyPost_ret (v := .tuple #[Sp 0 0, I (2)]) (by simp [results, Try.results33, go_sem, hc9]) rfl ⟨?_, ?_⟩
      · unfold paLo paHi
        rw [if_neg (by rw [A1.out]; decide), if_neg (by rw [A1.out]; decide), A1.out]
      · repeat (refine Below.setCell ?_ (by simp only []; omega) _)
        exact hWb

  · have hz : (wngE r ws sts wing != 0) = true := by simp [a2]
    have A2 := Lib.hid a2
    have A1 := Lib.hid (show paE r ws sts wing place = wngE r ws sts wing from paE_w a2)
    clear a2
    go_wp2
    have hb9 := (hb81.set_ 0 (I 0)).set_ 1 (I 0)
    have hc9 := hb9.cell
    refine bodyPost_ret (v := .tuple #[Sp 0 0, I (wngE r ws sts wing)]) (by simp [results, Try.results33, go_sem, hc9]) rfl ⟨?_, ?_⟩
    · unfold paLo paHi
      rw [if_neg (by rw [A1.out]; exact A2.out), if_neg (by rw [A1.out]; exact A2.out), A1.out]
    · repeat (refine Below.setCell ?_ (by simp only []; omega) _)
      exact hWb

end
end Go.Proofs.Ytnihkgdkdinliaa
