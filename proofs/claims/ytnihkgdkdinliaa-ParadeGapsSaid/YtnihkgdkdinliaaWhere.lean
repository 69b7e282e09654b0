/- Where, Passes, Lasts: the program. Own work; imports no translation. -/
import Derived.Test.YtnihkgdkdinliaaMoment
import Derived.Test.YtnihkgdkdinliaaRegionB
namespace Go.Proofs.Ytnihkgdkdinliaa
open Go.RowKit
set_option linter.unusedVariables false
set_option linter.unusedSimpArgs false

def whLo (r : Int) (ws : List Wg) (sts : List Int) (wing t : Int) : Int := if mom r ws sts wing t = 0 then front ws sts (los ws) t wing.toNat else 0
def whHi (r : Int) (ws : List Wg) (sts : List Int) (wing t : Int) : Int := if mom r ws sts wing t = 0 then front ws sts (his ws) t wing.toNat else 0

theorem calls_gen {P : Program} {f : FuncId} {args : Array Value} {W : World} {φ : Ending → World → Prop} (p : World → Prop) (hp : p W) (h : ∀ W', p W' → Calls P f args W' φ) : Calls P f args W φ := h W hp

section
variable (r : Int) (A B : Option Addr) (c d : Nat) (ws : List Wg) (sts : List Int) (T1 T2 : TypeId) (w : World) (h1 : SlW w T1 A ws) (h2 : SlI w T2 B sts) (hf : Fit ws) (hl1 : ws.length ≤ maxLen) (hc : ws.length ≤ c) (hl2 : sts.length ≤ maxLen) (hd : sts.length ≤ d)
include h1 h2 hf hl1 hc hl2 hd

set_option maxRecDepth 100000 in
set_option maxHeartbeats 1000000 in
theorem where_c (wing t : Int) :
    Calls Try.prog 30 #[.agg #[I r, .slice A ws.length c], .slice B sts.length d, I wing, I t] w fun e w' => e = .returned (.tuple #[Sp (whLo r ws sts wing t) (whHi r ws sts wing t), I (mom r ws sts wing t)]) ∧ Below w.heap.size w w' := by
  have hb0 := Bx.new w 24 #[I r, .slice A ws.length c]
  have hb8 : Bx ((w.alloc (.cells #[I r, .slice A ws.length c] 24)).alloc (.cells #[I 0, I 0] 27)) (w.heap.size + 1) 27 #[I 0, I 0] := Bx.new' _ _ _ _ (by simp)
  have hW0 : Below w.heap.size w ((w.alloc (.cells #[I r, .slice A ws.length c] 24)).alloc (.cells #[I 0, I 0] 27)) := ((Below.refl _ _).alloc (Nat.le_refl _) _).alloc (by simp) _
  have hcb := hb0.cell
  go_enter Try.func30, Try.ntmps30
  go_wp2_with fail
  refine (checkMoment_c r _ B c d ws sts T1 T2 _ (h1.below hW0 (Nat.le_refl _)) (h2.below hW0 (Nat.le_refl _)) hf hl1 hc hl2 hd _ _).mono ?_
  rintro e w1 ⟨rfl, hbw1⟩
  have hWb := hW0.trans (hbw1.mono hW0.size)
  have hb01 := (hb0.alloc (.cells #[I 0, I 0] 27)).below hbw1 (by simp; omega)
  have hb81 := hb8.below hbw1 (by simp)
  clear hcb hb0 hb8
  have hc0 := hb01.cell
  have hc8 := hb81.cell
  have hf8 := hb81.free
  by_cases a1 : mom r ws sts wing t = 0
  · have hz : (mom r ws sts wing t != 0) = false := by simp [a1]
    obtain ⟨a2, a3, a4⟩ := mom_val a1
    obtain ⟨a5, a6⟩ := wngE_val a2
    have hval := cst_val a5
    have hl8 := hval.n2
    have hlen := hval.len
    obtain ⟨k, rfl⟩ : ∃ k : Nat, wing = (k : Int) := ⟨wing.toNat, by omega⟩
    rw [Int.toNat_natCast] at a3
    have hst := hval.bd k (by omega)
    have hsl : Sm ws sts (eps ws 0) k := (hval.smLo (i := k) (by omega) (by omega) (fun j hj => hval.bd j (by omega))).congr (by simp [eps]; omega) (fun j hj => (eps_los ws hl8 j (by omega)).symm)
    have hsh : Sm ws sts (eps ws 1) k := (hval.smHi (i := k) (by omega) (by omega) (fun j hj => hval.bd j (by omega))).congr (by simp [eps]; omega) (fun j hj => (eps_his ws hl8 j (by omega)).symm)
    have Hlen := Lib.hid hlen
    clear hlen
    have A1 := Lib.hid a1
    clear a1 a2 a5
    go_wp2_with fail
    refine wp_region_list_fr (by kernel_rfl) (R := RB (w1.heap.size) w1) (F := FB) [6, 7]
        [As.is _ _ (.agg #[I r, .slice A ws.length c]),
        As.is _ _ (.slice B sts.length d),
        As.is _ _ (tv A ws.length c B sts.length d (endp ws 0 0) (endp ws 0 1) (endp ws 0 2) (endp ws 0 3) (endp ws 0 4) (endp ws 0 5) (endp ws 0 6) (endp ws 0 7)),
        As.is _ _ (.agg #[I r, .slice A ws.length c]),
        As.is _ _ (.slice B sts.length d),
        As.is _ _ (tv A ws.length c B sts.length d (endp ws 1 0) (endp ws 1 1) (endp ws 1 2) (endp ws 1 3) (endp ws 1 4) (endp ws 1 5) (endp ws 1 6) (endp ws 1 7)),
        As.new _ _ 97 #[.slice none 0 0, .slice none 0 0, I 0, I 0, I 0, I 0, I 0, I 0, I 0, I 0],
        As.new _ _ 97 #[.slice none 0 0, .slice none 0 0, I 0, I 0, I 0, I 0, I 0, I 0, I 0, I 0]] 35 (by kernel_rfl) rfl ((Below.refl _ _).drew) ?_ ?_
    · intro i hi o ho ev w' hR hc hf hg hs hd
      match i, hi, ho with
      | 0, _, ho =>
        cases ho
        have e4 : ev (.tmp 4) = .pointer (some ⟨w.heap.size, 0, none⟩) := hs 4 (by kernel_rfl)
        have m4 := (hb01.below hR hb01.lt).cell
        go_simp
        first | exact ⟨rfl, hR, Below.refl _ _⟩ | exact ⟨⟨rfl, fun h => absurd h (by decide)⟩, hR, Below.refl _ _⟩
      | 1, _, ho =>
        cases ho
        have e1 : ev (.tmp 1) = .slice B sts.length d := hs 1 (by kernel_rfl)
        go_simp
        first | exact ⟨rfl, hR, Below.refl _ _⟩ | exact ⟨⟨rfl, fun h => absurd h (by decide)⟩, hR, Below.refl _ _⟩
      | 2, _, ho =>
        cases ho
        have e22 : ev (.tmp 22) = .agg #[I r, .slice A ws.length c] := hd 0 22 (by kernel_rfl)
        have e23 : ev (.tmp 23) = .slice B sts.length d := hd 1 23 (by kernel_rfl)
        go_simp
        refine (allAt_c r A B c d ws _ 0 T1 _ (.inl rfl) (h1.below (hWb.trans (hR.mono hWb.size)) (Nat.le_refl _)) hl8).mono ?_
        rintro e wz ⟨rfl, hwz⟩
        first | exact ⟨rfl, hR.trans (hwz.mono hR.size), hwz⟩ | exact ⟨⟨rfl, fun h => absurd h (by decide)⟩, hR.trans (hwz.mono hR.size), hwz⟩
      | 3, _, ho =>
        cases ho
        have e4 : ev (.tmp 4) = .pointer (some ⟨w.heap.size, 0, none⟩) := hs 4 (by kernel_rfl)
        have m4 := (hb01.below hR hb01.lt).cell
        go_simp
        first | exact ⟨rfl, hR, Below.refl _ _⟩ | exact ⟨⟨rfl, fun h => absurd h (by decide)⟩, hR, Below.refl _ _⟩
      | 4, _, ho =>
        cases ho
        have e1 : ev (.tmp 1) = .slice B sts.length d := hs 1 (by kernel_rfl)
        go_simp
        first | exact ⟨rfl, hR, Below.refl _ _⟩ | exact ⟨⟨rfl, fun h => absurd h (by decide)⟩, hR, Below.refl _ _⟩
      | 5, _, ho =>
        cases ho
        have e25 : ev (.tmp 25) = .agg #[I r, .slice A ws.length c] := hd 3 25 (by kernel_rfl)
        have e26 : ev (.tmp 26) = .slice B sts.length d := hd 4 26 (by kernel_rfl)
        go_simp
        refine (allAt_c r A B c d ws _ 1 T1 _ (.inr rfl) (h1.below (hWb.trans (hR.mono hWb.size)) (Nat.le_refl _)) hl8).mono ?_
        rintro e wz ⟨rfl, hwz⟩
        first | exact ⟨rfl, hR.trans (hwz.mono hR.size), hwz⟩ | exact ⟨⟨rfl, fun h => absurd h (by decide)⟩, hR.trans (hwz.mono hR.size), hwz⟩
      | 6, _, ho =>
        cases ho
        go_simp
        refine ⟨⟨⟨_, rfl, hR.size, Bx.new _ _ _⟩, ?_⟩, hR.alloc hR.size _, (Below.refl _ _).alloc (Nat.le_refl _) _⟩
        first | exact fun u hu => NewB.ne hu | exact ⟨fun u hu => NewB.ne hu, fun u hu => NewB.ne hu⟩ | exact ⟨fun u hu => NewB.ne hu, fun u hu => NewB.ne hu, fun u hu => NewB.ne hu⟩
      | 7, _, ho =>
        cases ho
        go_simp
        refine ⟨⟨⟨_, rfl, hR.size, Bx.new _ _ _⟩, ?_⟩, hR.alloc hR.size _, (Below.refl _ _).alloc (Nat.le_refl _) _⟩
        first | exact fun u hu => NewB.ne hu | exact ⟨fun u hu => NewB.ne hu, fun u hu => NewB.ne hu⟩ | exact ⟨fun u hu => NewB.ne hu, fun u hu => NewB.ne hu, fun u hu => NewB.ne hu⟩
      | n + 8, hi, _ => exact absurd hi (by simp)
    · intro ρ wE hR hρ hne K hK
      have p2 : ρ 2 = tv A ws.length c B sts.length d (endp ws 0 0) (endp ws 0 1) (endp ws 0 2) (endp ws 0 3) (endp ws 0 4) (endp ws 0 5) (endp ws 0 6) (endp ws 0 7) := hρ 2 (by simp)
      have p5 : ρ 5 = tv A ws.length c B sts.length d (endp ws 1 0) (endp ws 1 1) (endp ws 1 2) (endp ws 1 3) (endp ws 1 4) (endp ws 1 5) (endp ws 1 6) (endp ws 1 7) := hρ 5 (by simp)
      obtain ⟨ka, pa, la, ba⟩ := hρ 6 (by simp)
      obtain ⟨kb, pb, lb, bb⟩ := hρ 7 (by simp)
      have hk : ka ≠ kb := fun e => hne 6 7 (by simp) (by simp) (by simp) (by simp) (by simp) (by rw [pa, pb, e])
      have hbx := hb01.below hR hb01.lt
      have hWE := hWb.trans (hR.mono hWb.size)
      clear hρ hne
      show K (putAll _ _ ρ 8) _
      simp only [putAll, dOf, List.getElem?_toArray, List.getElem?_cons_zero, List.getElem?_cons_succ, Option.bind_some, Act.put, List.setIfInBounds_toArray, List.set_cons_zero, List.set_cons_succ]
      rw [p2, p5, pa, pb]
      unfold tv
      refine hK _ _ ?_
      change wpList _ _ _ [_, _] _ _
      clear hK K p2 p5 pa pb
      have fa := ba.free
      have ca := ba.cell
      have fb := bb.free
      have cb := bb.cell
      go_wp2_with fail
      refine calls_gen (fun W' => Below w1.heap.size w1 W') (by (repeat (refine Below.setCell ?_ (by simp only []; omega) _)); exact hR) ?_
      intro w5 hw5
      have hW5 := hWb.trans (hw5.mono hWb.size)
      refine (betweenFront_c A B c d (endp ws 0 0) (endp ws 0 1) (endp ws 0 2) (endp ws 0 3) (endp ws 0 4) (endp ws 0 5) (endp ws 0 6) (endp ws 0 7) (endp ws 1 0) (endp ws 1 1) (endp ws 1 2) (endp ws 1 3) (endp ws 1 4) (endp ws 1 5) (endp ws 1 6) (endp ws 1 7) ws sts k t T1 T2 _ (h1.below hW5 (Nat.le_refl _)) (h2.below hW5 (Nat.le_refl _)) hsl hsh (by omega) (by omega) (by omega) hl2).mono ?_
      rintro e w6 ⟨rfl, hbw6⟩
      have hb86 := (hb81.below hw5 (by have := hb81.lt; omega)).below hbw6 (by have := hb81.lt; have := hw5.size; omega)
      have hc86 := hb86.cell
      have hf86 := hb86.free
      clear fa ca fb cb hc0 hc8 hf8
      go_wp2
      have hb9 := (hb86.set_ 0 (I (front ws sts (eps ws 0) t k))).set_ 1 (I (front ws sts (eps ws 1) t k))
      have hc9 := hb9.cell
      unfold eps at hc9
      refine bodyPost_ret (v := .tuple #[Sp (front ws sts (eps ws 0) t k) (front ws sts (eps ws 1) t k), I 0]) (by simp [results, Try.results30, go_sem, hc9, eps]) rfl ⟨?_, ?_⟩
      · rw [A1.out]
        unfold whLo whHi
        rw [if_pos A1.out, if_pos A1.out, Int.toNat_natCast, front_congr t k fun j hj => eps_los ws hl8 j (by omega), front_congr t k fun j hj => eps_his ws hl8 j (by omega)]
      · repeat (refine Below.setCell ?_ (by simp only []; omega) _)
        exact hW5.trans (hbw6.mono hW5.size)
  · have hz : (mom r ws sts wing t != 0) = true := by simp [a1]
    have A1 := Lib.hid a1
    clear a1
    go_wp2
    have hb9 := (hb81.set_ 0 (I 0)).set_ 1 (I 0)
    have hc9 := hb9.cell
    refine bodyPost_ret (v := .tuple #[Sp (whLo r ws sts wing t) (whHi r ws sts wing t), I (mom r ws sts wing t)]) (by simp [results, Try.results30, go_sem, hc9, whLo, whHi, A1.out]) rfl ⟨rfl, ?_⟩
    repeat (refine Below.setCell ?_ (by simp only []; omega) _)
    exact hWb
end
end Go.Proofs.Ytnihkgdkdinliaa
