/- Opens of the reference. Own work. -/
import Derived.Test.YtnihkgdkdinliaaGapS
namespace Go.Proofs.Ytnihkgdkdinliaa
open Go.RowKit
set_option linter.unusedVariables false
set_option linter.unusedSimpArgs false

/-- Both find the same widest gap. -/
theorem wrG_eq {r : Int} {ws : List Wg} {sts : List Int} (hv : VSt r ws sts) {k e : Nat} (hk : k < ws.length) (h0 : k ≠ 0) (he : e = 0 ∨ e = 1) :
    wrG r ws sts (if e = 0 then his ws else los ws) (if e = 0 then (gW ws k).lo else (gW ws k).hi) k = wpG r ws sts k e ∧
    (0 < wpG r ws sts k e → wrT r ws sts (if e = 0 then his ws else los ws) (if e = 0 then (gW ws k).lo else (gW ws k).hi) k = wpS r ws sts k e) := by
  have hp : ∀ j, j ≤ k - 1 → gI (los ws) j ≤ gI (if e = 0 then his ws else los ws) j := fun j hj => by
    have := hv.los1 (show j < ws.length by omega)
    split <;> omega
  have h1 := hv.ah0 hk h0 (if e = 0 then his ws else los ws) (if e = 0 then (gW ws k).lo else (gW ws k).hi) hp
  have hc := pkN_congr (f := gapE ws sts k e) (g := fun t => ahF ws sts (if e = 0 then his ws else los ws) (if e = 0 then (gW ws k).lo else (gW ws k).hi) t k) (unt r ws sts k - 1 - gI sts k).toNat (gI sts k) fun t => pk_iff h1 t
  unfold wrG wpG pkG wrT wpS pkS
  rw [← hc]
  by_cases h : unt r ws sts k ≤ gI sts k
  · rw [if_pos h, if_pos h, if_pos h]
    exact ⟨rfl, fun h => absurd h (by omega)⟩
  · rw [if_neg h, if_neg h, if_neg h]
    exact ⟨rfl, fun _ => rfl⟩

set_option maxRecDepth 100000 in
set_option maxHeartbeats 2000000 in
theorem opensR_c (r : Int) (A B : Option Addr) (c cb : Nat) (ws : List Wg) (sts : List Int) (k : Nat) (g : Int) (T1 T2 : TypeId) (w : World) (h1 : SlW w T1 A ws) (h2 : SlI w T2 B sts) (hv : VSt r ws sts) (hk : k < ws.length) (h0 : k ≠ 0) :
    Calls Try.prog 89 #[.agg #[I r, .slice A ws.length c], .slice B sts.length cb, I (k : Int), I g] w fun e' w' => e' = .returned (I (opnV r ws sts k g)) ∧ Below w.heap.size w w' := by
  have hls := hv.len
  have h8 := hv.n2
  obtain ⟨_, v1, v2, v3, v4, v5, v6, v7⟩ := hv.all k hk
  have hsl1 : Sm ws sts (los ws) (k - 1) := hv.smLo (i := k - 1) (by omega) (by omega) fun j hj => hv.bd j (by omega)
  have hsh1 : Sm ws sts (his ws) (k - 1) := hv.smHi (i := k - 1) (by omega) (by omega) fun j hj => hv.bd j (by omega)
  have e1 := (wrG_eq hv hk h0 (.inr rfl)).1
  have e0 := (wrG_eq hv hk h0 (.inl rfl)).1
  rw [if_neg (by decide), if_neg (by decide)] at e1
  rw [if_pos rfl, if_pos rfl] at e0
  have EV : opnV r ws sts k g = if g < wrG r ws sts (los ws) (gW ws k).hi k then 1 else if g < wrG r ws sts (his ws) (gW ws k).lo k then 3 else 2 := by unfold opnV; rw [e1, e0]
  have EH := Lib.hid EV
  clear EV e1 e0 hls
  obtain ⟨b1, o1, rfl, _⟩ := SlW.some_ h1 hk
  have x0 := Bx.new w 24 #[I r, .slice (some ⟨b1, o1, none⟩) ws.length c]
  have hB := (Below.refl w.heap.size w).alloc (Nat.le_refl _) (.cells #[I r, .slice (some ⟨b1, o1, none⟩) ws.length c] 24)
  have hc0 := x0.cell
  have hkn : (k : Int) < (ws.length : Int) := by omega
  obtain ⟨m4, m5, m6, m7⟩ := SlW.cellG (h1.below hB (Nat.le_refl _)) hk
  have y0 : Bx ((w.alloc (.cells #[I r, .slice (some ⟨b1, o1, none⟩) ws.length c] 24)).alloc (.cells #[I (gW ws k).lo, I (gW ws k).hi] 27)) w.heap.size 24 #[I r, .slice (some ⟨b1, o1, none⟩) ws.length c] := x0.alloc _
  have y1 : Bx ((w.alloc (.cells #[I r, .slice (some ⟨b1, o1, none⟩) ws.length c] 24)).alloc (.cells #[I (gW ws k).lo, I (gW ws k).hi] 27)) (w.heap.size + 1) 27 #[I (gW ws k).lo, I (gW ws k).hi] := Bx.new' _ _ _ _ (by simp)
  have hB2 : Below w.heap.size w ((w.alloc (.cells #[I r, .slice (some ⟨b1, o1, none⟩) ws.length c] 24)).alloc (.cells #[I (gW ws k).lo, I (gW ws k).hi] 27)) := hB.alloc hB.size _
  go_enter Try.func89, Try.ntmps89
  go_wp2_with fail
  clear hc0 x0 m4 m5 m6 m7 hB
  refine wp_region_list_s (by kernel_rfl) (R := (fun w' => Bx w' w.heap.size 24 #[I r, .slice (some ⟨b1, o1, none⟩) ws.length c] ∧ Bx w' (w.heap.size + 1) 27 #[I (gW ws k).lo, I (gW ws k).hi] ∧ Below w.heap.size w w')) (F := FB) [] [] []
      [As.is _ _ (.agg #[I r, .slice (some ⟨b1, o1, none⟩) ws.length c]),
      As.is _ _ (.slice B sts.length cb),
      As.is _ _ (.agg #[I r, .slice (some ⟨b1, o1, none⟩) ws.length c]),
      asIs _ (los ws),
      As.is _ _ (I (k : Int)),
      As.is _ _ (.pointer (some ⟨w.heap.size + 1, 1, none⟩)),
      As.is _ _ (I (gW ws k).hi),
      As.is _ _ (.tuple #[I (wrS r ws sts (los ws) (gW ws k).hi k), I (wrG r ws sts (los ws) (gW ws k).hi k)]),
      As.is _ _ (.tuple #[I (wrS r ws sts (los ws) (gW ws k).hi k), I (wrG r ws sts (los ws) (gW ws k).hi k)]),
      As.is _ _ (I (wrS r ws sts (los ws) (gW ws k).hi k)),
      As.is _ _ (I (wrG r ws sts (los ws) (gW ws k).hi k)),
      As.is _ _ (I (wrS r ws sts (los ws) (gW ws k).hi k)),
      As.is _ _ (I (wrG r ws sts (los ws) (gW ws k).hi k))] 50 (by kernel_rfl) rfl (⟨y0.below (Below.refl _ _).drew y0.lt, y1.below (Below.refl _ _).drew y1.lt, hB2.drew⟩) (by simp) (by simp) ?_ (fun _ => Below.refl _ _) ?_ ?_ ?_
  · intro i' hi' o' ho k' b' hg u w' hR hu
    match i', hi', ho with
    | 0, _, ho => cases ho; cases hg
    | 1, _, ho => cases ho; cases hg
    | 2, _, ho => cases ho; cases hg
    | 3, _, ho => cases ho; cases hg
    | 4, _, ho => cases ho; cases hg
    | 5, _, ho => cases ho; cases hg
    | 6, _, ho => cases ho; cases hg
    | 7, _, ho => cases ho; cases hg
    | 8, _, ho => cases ho; cases hg
    | 9, _, ho => cases ho; cases hg
    | 10, _, ho => cases ho; cases hg
    | 11, _, ho => cases ho; cases hg
    | 12, _, ho => cases ho; cases hg
    | n + 13, hi, _ => exact absurd hi (by simp)
  · intro i' hi' hsk; cases hsk
  · intro i' hi' hsk o' ho ev w' hR hc hf hg hs hd
    match i', hi', ho with
    | 0, _, ho =>
      clear hsk
      cases ho
      have e4 : ev (.tmp 4) = .pointer (some ⟨w.heap.size, 0, none⟩) := hs 4 (by kernel_rfl)
      have m4 := hR.1.cell
      go_simp
      first | exact ⟨rfl, hR, Below.refl _ _⟩ | exact ⟨⟨rfl, rfl⟩, hR, Below.refl _ _⟩ | exact ⟨⟨rfl, fun h => absurd h (by decide)⟩, hR, Below.refl _ _⟩ | exact ⟨⟨rfl, rfl, fun h => absurd h (by decide)⟩, hR, Below.refl _ _⟩
    | 1, _, ho =>
      clear hsk
      cases ho
      have e1 : ev (.tmp 1) = .slice B sts.length cb := hs 1 (by kernel_rfl)
      go_simp
      first | exact ⟨rfl, hR, Below.refl _ _⟩ | exact ⟨⟨rfl, rfl⟩, hR, Below.refl _ _⟩ | exact ⟨⟨rfl, fun h => absurd h (by decide)⟩, hR, Below.refl _ _⟩ | exact ⟨⟨rfl, rfl, fun h => absurd h (by decide)⟩, hR, Below.refl _ _⟩
    | 2, _, ho =>
      clear hsk
      cases ho
      have e4 : ev (.tmp 4) = .pointer (some ⟨w.heap.size, 0, none⟩) := hs 4 (by kernel_rfl)
      have m4 := hR.1.cell
      go_simp
      first | exact ⟨rfl, hR, Below.refl _ _⟩ | exact ⟨⟨rfl, rfl⟩, hR, Below.refl _ _⟩ | exact ⟨⟨rfl, fun h => absurd h (by decide)⟩, hR, Below.refl _ _⟩ | exact ⟨⟨rfl, rfl, fun h => absurd h (by decide)⟩, hR, Below.refl _ _⟩
    | 3, _, ho =>
      clear hsk
      cases ho
      have e23 : ev (.tmp 23) = .agg #[I r, .slice (some ⟨b1, o1, none⟩) ws.length c] := hd 2 23 (by kernel_rfl)
      go_simp
      refine (slow_c r _ c ws _ w' (h1.below hR.2.2 (Nat.le_refl _)) (by omega)).mono ?_
      rintro e wz ⟨B', d', rfl, hsl, hwz⟩
      first | exact ⟨⟨B', d', rfl, hsl⟩, ⟨hR.1.below hwz hR.1.lt, hR.2.1.below hwz hR.2.1.lt, hR.2.2.trans (hwz.mono hR.2.2.size)⟩, hwz⟩ | exact ⟨⟨rfl, ⟨B', d', rfl, hsl⟩⟩, ⟨hR.1.below hwz hR.1.lt, hR.2.1.below hwz hR.2.1.lt, hR.2.2.trans (hwz.mono hR.2.2.size)⟩, hwz⟩ | exact ⟨⟨⟨B', d', rfl, hsl⟩, fun h => absurd h (by decide)⟩, ⟨hR.1.below hwz hR.1.lt, hR.2.1.below hwz hR.2.1.lt, hR.2.2.trans (hwz.mono hR.2.2.size)⟩, hwz⟩ | exact ⟨⟨rfl, ⟨B', d', rfl, hsl⟩, fun h => absurd h (by decide)⟩, ⟨hR.1.below hwz hR.1.lt, hR.2.1.below hwz hR.2.1.lt, hR.2.2.trans (hwz.mono hR.2.2.size)⟩, hwz⟩
    | 4, _, ho =>
      clear hsk
      cases ho
      have e2 : ev (.tmp 2) = I (k : Int) := hs 2 (by kernel_rfl)
      go_simp
      first | exact ⟨rfl, hR, Below.refl _ _⟩ | exact ⟨⟨rfl, rfl⟩, hR, Below.refl _ _⟩ | exact ⟨⟨rfl, fun h => absurd h (by decide)⟩, hR, Below.refl _ _⟩ | exact ⟨⟨rfl, rfl, fun h => absurd h (by decide)⟩, hR, Below.refl _ _⟩
    | 5, _, ho =>
      clear hsk
      cases ho
      have e9 : ev (.tmp 9) = .pointer (some ⟨w.heap.size + 1, 0, none⟩) := hs 9 (by kernel_rfl)
      go_simp
      first | exact ⟨rfl, hR, Below.refl _ _⟩ | exact ⟨⟨rfl, rfl⟩, hR, Below.refl _ _⟩ | exact ⟨⟨rfl, fun h => absurd h (by decide)⟩, hR, Below.refl _ _⟩ | exact ⟨⟨rfl, rfl, fun h => absurd h (by decide)⟩, hR, Below.refl _ _⟩
    | 6, _, ho =>
      clear hsk
      cases ho
      have e26 : ev (.tmp 26) = .pointer (some ⟨w.heap.size + 1, 1, none⟩) := hd 5 26 (by kernel_rfl)
      have m9 := hR.2.1.cell
      go_simp
      first | exact ⟨rfl, hR, Below.refl _ _⟩ | exact ⟨⟨rfl, rfl⟩, hR, Below.refl _ _⟩ | exact ⟨⟨rfl, fun h => absurd h (by decide)⟩, hR, Below.refl _ _⟩ | exact ⟨⟨rfl, rfl, fun h => absurd h (by decide)⟩, hR, Below.refl _ _⟩
    | 7, _, ho =>
      clear hsk
      cases ho
      have e21 : ev (.tmp 21) = .agg #[I r, .slice (some ⟨b1, o1, none⟩) ws.length c] := hd 0 21 (by kernel_rfl)
      have e22 : ev (.tmp 22) = .slice B sts.length cb := hd 1 22 (by kernel_rfl)
      obtain ⟨B', d', e24, hsl⟩ : ∃ B' d', ev (.tmp 24) = .slice B' (los ws).length d' ∧ SlI w' 3 B' (los ws) := hd 3 24 (by kernel_rfl)
      have e25 : ev (.tmp 25) = I (k : Int) := hd 4 25 (by kernel_rfl)
      have e27 : ev (.tmp 27) = I (gW ws k).hi := hd 6 27 (by kernel_rfl)
      go_simp
      refine (widestR_c r (some ⟨b1, o1, none⟩) B B' c cb d' ws sts (los ws) k (gW ws k).hi _ _ _ w' (h1.below hR.2.2 (Nat.le_refl _)) (Sl.below h2 hR.2.2 (Nat.le_refl _)) hsl hsl1 hv hk h0 (los_length ws) (by omega)).mono ?_
      rintro e wz ⟨rfl, hwz⟩
      first | exact ⟨rfl, ⟨hR.1.below hwz hR.1.lt, hR.2.1.below hwz hR.2.1.lt, hR.2.2.trans (hwz.mono hR.2.2.size)⟩, hwz⟩ | exact ⟨⟨rfl, rfl⟩, ⟨hR.1.below hwz hR.1.lt, hR.2.1.below hwz hR.2.1.lt, hR.2.2.trans (hwz.mono hR.2.2.size)⟩, hwz⟩ | exact ⟨⟨rfl, fun h => absurd h (by decide)⟩, ⟨hR.1.below hwz hR.1.lt, hR.2.1.below hwz hR.2.1.lt, hR.2.2.trans (hwz.mono hR.2.2.size)⟩, hwz⟩ | exact ⟨⟨rfl, rfl, fun h => absurd h (by decide)⟩, ⟨hR.1.below hwz hR.1.lt, hR.2.1.below hwz hR.2.1.lt, hR.2.2.trans (hwz.mono hR.2.2.size)⟩, hwz⟩
    | 8, _, ho =>
      clear hsk
      cases ho
      have e28 : ev (.tmp 28) = .tuple #[I (wrS r ws sts (los ws) (gW ws k).hi k), I (wrG r ws sts (los ws) (gW ws k).hi k)] := hd 7 28 (by kernel_rfl)
      go_simp
      first | exact ⟨rfl, hR, Below.refl _ _⟩ | exact ⟨⟨rfl, rfl⟩, hR, Below.refl _ _⟩ | exact ⟨⟨rfl, fun h => absurd h (by decide)⟩, hR, Below.refl _ _⟩ | exact ⟨⟨rfl, rfl, fun h => absurd h (by decide)⟩, hR, Below.refl _ _⟩
    | 9, _, ho =>
      clear hsk
      cases ho
      have e20 : ev (.tmp 20) = .tuple #[I (wrS r ws sts (los ws) (gW ws k).hi k), I (wrG r ws sts (los ws) (gW ws k).hi k)] := hd 8 20 (by kernel_rfl)
      go_simp
      first | exact ⟨rfl, hR, Below.refl _ _⟩ | exact ⟨⟨rfl, rfl⟩, hR, Below.refl _ _⟩ | exact ⟨⟨rfl, fun h => absurd h (by decide)⟩, hR, Below.refl _ _⟩ | exact ⟨⟨rfl, rfl, fun h => absurd h (by decide)⟩, hR, Below.refl _ _⟩
    | 10, _, ho =>
      clear hsk
      cases ho
      have e20 : ev (.tmp 20) = .tuple #[I (wrS r ws sts (los ws) (gW ws k).hi k), I (wrG r ws sts (los ws) (gW ws k).hi k)] := hd 8 20 (by kernel_rfl)
      go_simp
      first | exact ⟨rfl, hR, Below.refl _ _⟩ | exact ⟨⟨rfl, rfl⟩, hR, Below.refl _ _⟩ | exact ⟨⟨rfl, fun h => absurd h (by decide)⟩, hR, Below.refl _ _⟩ | exact ⟨⟨rfl, rfl, fun h => absurd h (by decide)⟩, hR, Below.refl _ _⟩
    | 11, _, ho =>
      clear hsk
      cases ho
      have e29 : ev (.tmp 29) = I (wrS r ws sts (los ws) (gW ws k).hi k) := hd 9 29 (by kernel_rfl)
      go_simp
      first | exact ⟨rfl, hR, Below.refl _ _⟩ | exact ⟨⟨rfl, rfl⟩, hR, Below.refl _ _⟩ | exact ⟨⟨rfl, fun h => absurd h (by decide)⟩, hR, Below.refl _ _⟩ | exact ⟨⟨rfl, rfl, fun h => absurd h (by decide)⟩, hR, Below.refl _ _⟩
    | 12, _, ho =>
      clear hsk
      cases ho
      have e30 : ev (.tmp 30) = I (wrG r ws sts (los ws) (gW ws k).hi k) := hd 10 30 (by kernel_rfl)
      go_simp
      first | exact ⟨rfl, hR, Below.refl _ _⟩ | exact ⟨⟨rfl, rfl⟩, hR, Below.refl _ _⟩ | exact ⟨⟨rfl, fun h => absurd h (by decide)⟩, hR, Below.refl _ _⟩ | exact ⟨⟨rfl, rfl, fun h => absurd h (by decide)⟩, hR, Below.refl _ _⟩
    | n + 13, hi, _ => exact absurd hi (by simp)
  intro ρ w1 hR hρ hne K hK
  have p11 : ρ 11 = I (wrS r ws sts (los ws) (gW ws k).hi k) := hρ 11 (by simp)
  have p12 : ρ 12 = I (wrG r ws sts (los ws) (gW ws k).hi k) := hρ 12 (by simp)
  show K (putAll _ _ ρ 13) _
  simp only [putAll, dOf, List.getElem?_toArray, List.getElem?_cons_zero, List.getElem?_cons_succ, Option.bind_some, Act.put, List.setIfInBounds_toArray, List.set_cons_zero, List.set_cons_succ]
  rw [p11, p12]
  refine hK _ _ ?_
  change wpList _ _ _ [] _ _
  obtain ⟨x0, x1, hB⟩ := hR
  clear hK K p11 p12 hρ hne
  clear y0 y1 hB2
  go_wp2_with fail
  refine wp_region_list_s (by kernel_rfl) (R := (fun w' => Bx w' w.heap.size 24 #[I r, .slice (some ⟨b1, o1, none⟩) ws.length c] ∧ Bx w' (w.heap.size + 1) 27 #[I (gW ws k).lo, I (gW ws k).hi] ∧ Below w.heap.size w w')) (F := FB) [] [] []
      [As.is _ _ (.agg #[I r, .slice (some ⟨b1, o1, none⟩) ws.length c]),
      As.is _ _ (.slice B sts.length cb),
      As.is _ _ (.agg #[I r, .slice (some ⟨b1, o1, none⟩) ws.length c]),
      asIs _ (his ws),
      As.is _ _ (I (k : Int)),
      As.is _ _ (.pointer (some ⟨w.heap.size + 1, 0, none⟩)),
      As.is _ _ (I (gW ws k).lo),
      As.is _ _ (.tuple #[I (wrS r ws sts (his ws) (gW ws k).lo k), I (wrG r ws sts (his ws) (gW ws k).lo k)]),
      As.is _ _ (.tuple #[I (wrS r ws sts (his ws) (gW ws k).lo k), I (wrG r ws sts (his ws) (gW ws k).lo k)]),
      As.is _ _ (I (wrS r ws sts (his ws) (gW ws k).lo k)),
      As.is _ _ (I (wrG r ws sts (his ws) (gW ws k).lo k)),
      As.is _ _ (I (wrS r ws sts (his ws) (gW ws k).lo k)),
      As.is _ _ (I (wrG r ws sts (his ws) (gW ws k).lo k))] 50 (by kernel_rfl) rfl (⟨x0.below (Below.refl _ _).drew x0.lt, x1.below (Below.refl _ _).drew x1.lt, hB.drew⟩) (by simp) (by simp) ?_ (fun _ => Below.refl _ _) ?_ ?_ ?_
  · intro i' hi' o' ho k' b' hg u w' hR hu
    match i', hi', ho with
    | 0, _, ho => cases ho; cases hg
    | 1, _, ho => cases ho; cases hg
    | 2, _, ho => cases ho; cases hg
    | 3, _, ho => cases ho; cases hg
    | 4, _, ho => cases ho; cases hg
    | 5, _, ho => cases ho; cases hg
    | 6, _, ho => cases ho; cases hg
    | 7, _, ho => cases ho; cases hg
    | 8, _, ho => cases ho; cases hg
    | 9, _, ho => cases ho; cases hg
    | 10, _, ho => cases ho; cases hg
    | 11, _, ho => cases ho; cases hg
    | 12, _, ho => cases ho; cases hg
    | n + 13, hi, _ => exact absurd hi (by simp)
  · intro i' hi' hsk; cases hsk
  · intro i' hi' hsk o' ho ev w' hR hc hf hg hs hd
    match i', hi', ho with
    | 0, _, ho =>
      clear hsk
      cases ho
      have e4 : ev (.tmp 4) = .pointer (some ⟨w.heap.size, 0, none⟩) := hs 4 (by kernel_rfl)
      have m4 := hR.1.cell
      go_simp
      first | exact ⟨rfl, hR, Below.refl _ _⟩ | exact ⟨⟨rfl, rfl⟩, hR, Below.refl _ _⟩ | exact ⟨⟨rfl, fun h => absurd h (by decide)⟩, hR, Below.refl _ _⟩ | exact ⟨⟨rfl, rfl, fun h => absurd h (by decide)⟩, hR, Below.refl _ _⟩
    | 1, _, ho =>
      clear hsk
      cases ho
      have e1 : ev (.tmp 1) = .slice B sts.length cb := hs 1 (by kernel_rfl)
      go_simp
      first | exact ⟨rfl, hR, Below.refl _ _⟩ | exact ⟨⟨rfl, rfl⟩, hR, Below.refl _ _⟩ | exact ⟨⟨rfl, fun h => absurd h (by decide)⟩, hR, Below.refl _ _⟩ | exact ⟨⟨rfl, rfl, fun h => absurd h (by decide)⟩, hR, Below.refl _ _⟩
    | 2, _, ho =>
      clear hsk
      cases ho
      have e4 : ev (.tmp 4) = .pointer (some ⟨w.heap.size, 0, none⟩) := hs 4 (by kernel_rfl)
      have m4 := hR.1.cell
      go_simp
      first | exact ⟨rfl, hR, Below.refl _ _⟩ | exact ⟨⟨rfl, rfl⟩, hR, Below.refl _ _⟩ | exact ⟨⟨rfl, fun h => absurd h (by decide)⟩, hR, Below.refl _ _⟩ | exact ⟨⟨rfl, rfl, fun h => absurd h (by decide)⟩, hR, Below.refl _ _⟩
    | 3, _, ho =>
      clear hsk
      cases ho
      have e34 : ev (.tmp 34) = .agg #[I r, .slice (some ⟨b1, o1, none⟩) ws.length c] := hd 2 34 (by kernel_rfl)
      go_simp
      refine (fast_c r _ c ws _ w' (h1.below hR.2.2 (Nat.le_refl _)) (by omega)).mono ?_
      rintro e wz ⟨B', d', rfl, hsl, hwz⟩
      first | exact ⟨⟨B', d', rfl, hsl⟩, ⟨hR.1.below hwz hR.1.lt, hR.2.1.below hwz hR.2.1.lt, hR.2.2.trans (hwz.mono hR.2.2.size)⟩, hwz⟩ | exact ⟨⟨rfl, ⟨B', d', rfl, hsl⟩⟩, ⟨hR.1.below hwz hR.1.lt, hR.2.1.below hwz hR.2.1.lt, hR.2.2.trans (hwz.mono hR.2.2.size)⟩, hwz⟩ | exact ⟨⟨⟨B', d', rfl, hsl⟩, fun h => absurd h (by decide)⟩, ⟨hR.1.below hwz hR.1.lt, hR.2.1.below hwz hR.2.1.lt, hR.2.2.trans (hwz.mono hR.2.2.size)⟩, hwz⟩ | exact ⟨⟨rfl, ⟨B', d', rfl, hsl⟩, fun h => absurd h (by decide)⟩, ⟨hR.1.below hwz hR.1.lt, hR.2.1.below hwz hR.2.1.lt, hR.2.2.trans (hwz.mono hR.2.2.size)⟩, hwz⟩
    | 4, _, ho =>
      clear hsk
      cases ho
      have e2 : ev (.tmp 2) = I (k : Int) := hs 2 (by kernel_rfl)
      go_simp
      first | exact ⟨rfl, hR, Below.refl _ _⟩ | exact ⟨⟨rfl, rfl⟩, hR, Below.refl _ _⟩ | exact ⟨⟨rfl, fun h => absurd h (by decide)⟩, hR, Below.refl _ _⟩ | exact ⟨⟨rfl, rfl, fun h => absurd h (by decide)⟩, hR, Below.refl _ _⟩
    | 5, _, ho =>
      clear hsk
      cases ho
      have e9 : ev (.tmp 9) = .pointer (some ⟨w.heap.size + 1, 0, none⟩) := hs 9 (by kernel_rfl)
      go_simp
      first | exact ⟨rfl, hR, Below.refl _ _⟩ | exact ⟨⟨rfl, rfl⟩, hR, Below.refl _ _⟩ | exact ⟨⟨rfl, fun h => absurd h (by decide)⟩, hR, Below.refl _ _⟩ | exact ⟨⟨rfl, rfl, fun h => absurd h (by decide)⟩, hR, Below.refl _ _⟩
    | 6, _, ho =>
      clear hsk
      cases ho
      have e37 : ev (.tmp 37) = .pointer (some ⟨w.heap.size + 1, 0, none⟩) := hd 5 37 (by kernel_rfl)
      have m9 := hR.2.1.cell
      go_simp
      first | exact ⟨rfl, hR, Below.refl _ _⟩ | exact ⟨⟨rfl, rfl⟩, hR, Below.refl _ _⟩ | exact ⟨⟨rfl, fun h => absurd h (by decide)⟩, hR, Below.refl _ _⟩ | exact ⟨⟨rfl, rfl, fun h => absurd h (by decide)⟩, hR, Below.refl _ _⟩
    | 7, _, ho =>
      clear hsk
      cases ho
      have e32 : ev (.tmp 32) = .agg #[I r, .slice (some ⟨b1, o1, none⟩) ws.length c] := hd 0 32 (by kernel_rfl)
      have e33 : ev (.tmp 33) = .slice B sts.length cb := hd 1 33 (by kernel_rfl)
      obtain ⟨B', d', e35, hsl⟩ : ∃ B' d', ev (.tmp 35) = .slice B' (his ws).length d' ∧ SlI w' 3 B' (his ws) := hd 3 35 (by kernel_rfl)
      have e36 : ev (.tmp 36) = I (k : Int) := hd 4 36 (by kernel_rfl)
      have e38 : ev (.tmp 38) = I (gW ws k).lo := hd 6 38 (by kernel_rfl)
      go_simp
      refine (widestR_c r (some ⟨b1, o1, none⟩) B B' c cb d' ws sts (his ws) k (gW ws k).lo _ _ _ w' (h1.below hR.2.2 (Nat.le_refl _)) (Sl.below h2 hR.2.2 (Nat.le_refl _)) hsl hsh1 hv hk h0 (his_length ws) (by omega)).mono ?_
      rintro e wz ⟨rfl, hwz⟩
      first | exact ⟨rfl, ⟨hR.1.below hwz hR.1.lt, hR.2.1.below hwz hR.2.1.lt, hR.2.2.trans (hwz.mono hR.2.2.size)⟩, hwz⟩ | exact ⟨⟨rfl, rfl⟩, ⟨hR.1.below hwz hR.1.lt, hR.2.1.below hwz hR.2.1.lt, hR.2.2.trans (hwz.mono hR.2.2.size)⟩, hwz⟩ | exact ⟨⟨rfl, fun h => absurd h (by decide)⟩, ⟨hR.1.below hwz hR.1.lt, hR.2.1.below hwz hR.2.1.lt, hR.2.2.trans (hwz.mono hR.2.2.size)⟩, hwz⟩ | exact ⟨⟨rfl, rfl, fun h => absurd h (by decide)⟩, ⟨hR.1.below hwz hR.1.lt, hR.2.1.below hwz hR.2.1.lt, hR.2.2.trans (hwz.mono hR.2.2.size)⟩, hwz⟩
    | 8, _, ho =>
      clear hsk
      cases ho
      have e39 : ev (.tmp 39) = .tuple #[I (wrS r ws sts (his ws) (gW ws k).lo k), I (wrG r ws sts (his ws) (gW ws k).lo k)] := hd 7 39 (by kernel_rfl)
      go_simp
      first | exact ⟨rfl, hR, Below.refl _ _⟩ | exact ⟨⟨rfl, rfl⟩, hR, Below.refl _ _⟩ | exact ⟨⟨rfl, fun h => absurd h (by decide)⟩, hR, Below.refl _ _⟩ | exact ⟨⟨rfl, rfl, fun h => absurd h (by decide)⟩, hR, Below.refl _ _⟩
    | 9, _, ho =>
      clear hsk
      cases ho
      have e31 : ev (.tmp 31) = .tuple #[I (wrS r ws sts (his ws) (gW ws k).lo k), I (wrG r ws sts (his ws) (gW ws k).lo k)] := hd 8 31 (by kernel_rfl)
      go_simp
      first | exact ⟨rfl, hR, Below.refl _ _⟩ | exact ⟨⟨rfl, rfl⟩, hR, Below.refl _ _⟩ | exact ⟨⟨rfl, fun h => absurd h (by decide)⟩, hR, Below.refl _ _⟩ | exact ⟨⟨rfl, rfl, fun h => absurd h (by decide)⟩, hR, Below.refl _ _⟩
    | 10, _, ho =>
      clear hsk
      cases ho
      have e31 : ev (.tmp 31) = .tuple #[I (wrS r ws sts (his ws) (gW ws k).lo k), I (wrG r ws sts (his ws) (gW ws k).lo k)] := hd 8 31 (by kernel_rfl)
      go_simp
      first | exact ⟨rfl, hR, Below.refl _ _⟩ | exact ⟨⟨rfl, rfl⟩, hR, Below.refl _ _⟩ | exact ⟨⟨rfl, fun h => absurd h (by decide)⟩, hR, Below.refl _ _⟩ | exact ⟨⟨rfl, rfl, fun h => absurd h (by decide)⟩, hR, Below.refl _ _⟩
    | 11, _, ho =>
      clear hsk
      cases ho
      have e40 : ev (.tmp 40) = I (wrS r ws sts (his ws) (gW ws k).lo k) := hd 9 40 (by kernel_rfl)
      go_simp
      first | exact ⟨rfl, hR, Below.refl _ _⟩ | exact ⟨⟨rfl, rfl⟩, hR, Below.refl _ _⟩ | exact ⟨⟨rfl, fun h => absurd h (by decide)⟩, hR, Below.refl _ _⟩ | exact ⟨⟨rfl, rfl, fun h => absurd h (by decide)⟩, hR, Below.refl _ _⟩
    | 12, _, ho =>
      clear hsk
      cases ho
      have e41 : ev (.tmp 41) = I (wrG r ws sts (his ws) (gW ws k).lo k) := hd 10 41 (by kernel_rfl)
      go_simp
      first | exact ⟨rfl, hR, Below.refl _ _⟩ | exact ⟨⟨rfl, rfl⟩, hR, Below.refl _ _⟩ | exact ⟨⟨rfl, fun h => absurd h (by decide)⟩, hR, Below.refl _ _⟩ | exact ⟨⟨rfl, rfl, fun h => absurd h (by decide)⟩, hR, Below.refl _ _⟩
    | n + 13, hi, _ => exact absurd hi (by simp)
  intro ρ w2 hR hρ hne K hK
  have p11 : ρ 11 = I (wrS r ws sts (his ws) (gW ws k).lo k) := hρ 11 (by simp)
  have p12 : ρ 12 = I (wrG r ws sts (his ws) (gW ws k).lo k) := hρ 12 (by simp)
  show K (putAll _ _ ρ 13) _
  simp only [putAll, dOf, List.getElem?_toArray, List.getElem?_cons_zero, List.getElem?_cons_succ, Option.bind_some, Act.put, List.setIfInBounds_toArray, List.set_cons_zero, List.set_cons_succ]
  rw [p11, p12]
  refine hK _ _ ?_
  change wpList _ _ _ [] _ _
  obtain ⟨x0, x1, hB⟩ := hR
  clear hK K p11 p12 hρ hne
  generalize wrG r ws sts (los ws) (gW ws k).hi k = u1 at *
  generalize wrG r ws sts (his ws) (gW ws k).lo k = u0 at *
  by_cases g1 : g < u1
  · go_wp2_with fail
    go_ret
    exact ⟨ret_int (by rw [EH.out, if_pos (by omega)]), hB⟩
  · by_cases g2 : g < u0
    · go_wp2_with fail
      go_ret
      exact ⟨ret_int (by rw [EH.out, if_neg (by omega), if_pos (by omega)]), hB⟩
    · go_wp2_with fail
      go_ret
      exact ⟨ret_int (by rw [EH.out, if_neg (by omega), if_neg (by omega)]), hB⟩

section
variable (r : Int) (A B : Option Addr) (c d : Nat) (ws : List Wg) (sts : List Int) (T1 T2 : TypeId) (w : World) (h1 : SlW w T1 A ws) (h2 : SlI w T2 B sts) (hf : Fit ws) (hl1 : ws.length ≤ maxLen) (hc : ws.length ≤ c) (hl2 : sts.length ≤ maxLen) (hd : sts.length ≤ d)
include h1 h2 hf hl1 hc hl2 hd
set_option maxRecDepth 100000 in
set_option maxHeartbeats 2000000 in
theorem opensRR_c (a b g : Int) :
    Calls Try.prog 43 #[.agg #[I r, .slice A ws.length c], .slice B sts.length d, .agg #[I a, I b, I g]] w fun e w' => ∃ B' d', e = .returned (.tuple #[.slice B' (opR r ws sts a b g).length d', I (laE r ws sts a b g)]) ∧ SlI w' 3 B' (opR r ws sts a b g) ∧ Below w.heap.size w w' := by
  have hb3 := (Bx.new w 24 #[I r, .slice A ws.length c]).alloc (.cells #[I a, I b, I g] 54)
  have hb5 := Bx.new' (w.alloc (.cells #[I r, .slice A ws.length c] 24)) 54 #[I a, I b, I g] (w.heap.size + 1) (by simp)
  have hW0 := ((Below.refl w.heap.size w).alloc (Nat.le_refl _) (.cells #[I r, .slice A ws.length c] 24)).alloc (by simp) (.cells #[I a, I b, I g] 54)
  have hc3 := hb3.cell
  go_enter Try.func43, Try.ntmps43
  go_wp2_with fail
  refine (checkStartsR_c r _ B c d ws sts T1 T2 _ (h1.below hW0 (Nat.le_refl _)) (h2.below hW0 (Nat.le_refl _)) hf hl1 hc hl2 hd).mono ?_
  rintro e w1 ⟨rfl, hbw1⟩
  have hWb := hW0.trans (hbw1.mono hW0.size)
  have hb3 := hb3.below hbw1 hb3.lt
  have hb5 := hb5.below hbw1 hb5.lt
  clear hc3
  have hc3 := hb3.cell
  have hc5 := hb5.cell
  by_cases a1 : cst r ws sts = 0
  · have hz : (cst r ws sts != 0) = false := by simp [a1]
    have hval := cst_val a1
    have E1 := Lib.hid (laE_ok (a := a) (b := b) (g := g) a1)
    clear a1
    go_wp2_with fail
    refine (checkRulesR_c a b g _).mono ?_
    rintro e w2 ⟨rfl, hbw2⟩
    have hWb := hWb.trans (hbw2.mono hWb.size)
    have hb3 := hb3.below hbw2 hb3.lt
    have hb5 := hb5.below hbw2 hb5.lt
    clear hc3 hc5 hbw1 hbw2
    by_cases a2 : rulE a b g = 0
    · have hz2 : (rulE a b g != 0) = false := by simp [a2]
      have A2 := Lib.hid (E1.out.trans a2)
      clear a2
      have hn8 := hval.n2
      have hn1 := hval.n1
      obtain ⟨i0, hi0, hz0, hz1, hz2'⟩ := info_parts infoInt
      have hc3 := hb3.cell
      have hc5 := hb5.cell
      have hown0 : (w2.alloc (.cells #[I 2] 3)).ownsRow w.heap.size 3 1 (.slice (some ⟨w2.heap.size, 0, none⟩) 1 1) 1 ((opL r ws sts g 1).map I) := by
        refine ⟨by simp [opL], .inr ⟨w2.heap.size, 1, #[I 2], rfl, hWb.size, Bx.new _ _ _, by omega, by unfold maxLen; omega, rfl, by simp [opL]⟩⟩
      go_wp2_with fail
      clear hc3 hc5
      go_loopw [10, 11] (fun v i wr => ∃ (k : Nat), i = I k ∧ 1 ≤ k ∧ k ≤ ws.length ∧ wr.ownsRow w.heap.size 3 1 v k ((opL r ws sts g k).map I) ∧ Below w.heap.size w wr ∧ Bx wr w.heap.size 24 #[I r, .slice A ws.length c] ∧ Bx wr (w.heap.size + 1) 54 #[I a, I b, I g])
        (fun _ i _ => ws.length - (intOf i).toNat)
      case atStart => exact ⟨1, rfl, by omega, hn1, hown0, hWb.alloc hWb.size _, hb3.alloc _, hb5.alloc _⟩
      case round =>
        obtain ⟨k, rfl, hk1, hk, hown, hbel, hbx, hbr⟩ := hrel
        clear hown0 hWb hb3 hb5
        have hcb := hbx.cell
        have hcr := hbr.cell
        by_cases hlt : k < ws.length
        · have hsz := hbel.size
          obtain ⟨B0, d0, rfl, hB0, _⟩ := Sl.ofOwn2 hown
          go_wp2_with fail
          refine (opensR_c r A B c d ws sts k g T1 T2 _ (h1.below hbel (Nat.le_refl _)) (Sl.below h2 hbel (Nat.le_refl _)) hval hlt (by omega)).mono ?_
          rintro e w3 ⟨rfl, hb3⟩
          have hown3 := own_below hown hb3
          have hbel3 := hbel.trans (hb3.mono hbel.size)
          have hbx3 := hbx.below hb3 hbx.lt
          have hbr3 := hbr.below hb3 hbr.lt
          have hsz3 := hbel3.size
          clear hown hbel hbx hbr hcb hcr hb3 hB0 hsz
          generalize hov : opnV r ws sts k g = ov at *
          have HOV := Lib.hid hov
          clear hov
          go_wp2_with (at_builtin; refine wpList_append_own _ rfl _ _ 25 rfl w.heap.size 3 i0 _ 1 8 Try.underlying25 hi0 hz0 hz1 hz2' rfl (by decide) _ _ _ rfl (hown3.alloc _) ⟨w3.heap.size, 0, none⟩ 1 1 [I ov] rfl rfl ?c1 ?c2 ?c3 ?c4 ?c5 ?_)
          case c1 => exact (Bx.new w3 3 #[I ov]).news (cs := [I ov])
          case c2 => simp [Value.oneCell']
          case c3 => unfold maxLen; omega
          case c4 => omega
          case c5 => simp; omega
          intro v' w4 hown4 hgrow _
          have hbx' := hbx3.alloc (.cells #[I ov] 3)
          have hbr' := hbr3.alloc (.cells #[I ov] 3)
          have hown' := hown3.alloc (.cells #[I ov] 3)
          have hbx4 := hbx'.grown hgrow (own_ne hown' hbx' (by decide))
          have hbr4 := hbr'.grown hgrow (own_ne hown' hbr' (by decide))
          have hbel4 := below_own (hbel3.alloc hsz3 _) hown' (Nat.le_refl _) (by simp; omega) hgrow
          clear hbx' hbr' hown' hgrow hown3 hbel3 hbx3 hbr3
          obtain ⟨B4, d4, rfl, _, _⟩ := Sl.ofOwn2 hown4
          go_wp2
          go_roundw
          case rel =>
            refine ⟨k + 1, by go_num, by omega, by omega, ?_, hbel4, hbx4, hbr4⟩
            rw [opL_snoc r ws sts g (by omega), flat_snoc, HOV.out]
            exact hown4
          case measure => simp [intOf]; omega
        · obtain ⟨B0, d0, rfl, hB0, _⟩ := Sl.ofOwn2 hown
          go_wp2
          have hkk : k = ws.length := by omega
          subst hkk
          have eR : opR r ws sts a b g = opL r ws sts g ws.length := by unfold opR; rw [if_pos A2.out]
          refine bodyPost_ret (v := .tuple #[.slice B0 ws.length d0, I 0]) (by simp [results, Try.results43, go_sem]) rfl ⟨B0, d0, ?_, by rw [eR]; exact hB0, hbel⟩
          rw [eR, opL_len, A2.out]
    · have hz2 : (rulE a b g != 0) = true := by simp [a2]
      go_wp2_with fail
      have e1 := E1.out
      refine bodyPost_ret (v := .tuple #[.slice none 0 0, I (rulE a b g)]) (by simp [results, Try.results43, go_sem]) rfl ⟨none, 0, ?_, .inl ?_, hWb⟩
      · unfold opR
        rw [e1, if_neg a2]
        rfl
      · unfold opR
        rw [e1, if_neg a2]
        rfl
  · have hz : (cst r ws sts != 0) = true := by simp [a1]
    have e1 := laE_st (a := a) (b := b) (g := g) a1
    have E1 := Lib.hid e1
    have A1 := Lib.hid a1
    clear a1 e1
    go_wp2_with fail
    refine bodyPost_ret (v := .tuple #[.slice none 0 0, I (cst r ws sts)]) (by simp [results, Try.results43, go_sem]) rfl ⟨none, 0, ?_, .inl ?_, hWb⟩
    · unfold opR
      rw [E1.out, if_neg A1.out]
      rfl
    · unfold opR
      rw [E1.out, if_neg A1.out]
      rfl
end
end Go.Proofs.Ytnihkgdkdinliaa
