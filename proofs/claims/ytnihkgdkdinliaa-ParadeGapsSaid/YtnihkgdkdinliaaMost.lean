/- The widest gap of all wings as the reference finds it. Own work. -/
import Derived.Test.YtnihkgdkdinliaaOpensR
namespace Go.Proofs.Ytnihkgdkdinliaa
open Go.RowKit
set_option linter.unusedVariables false
set_option linter.unusedSimpArgs false

/-- The first widest gap of the wings 1 to k, if it is above 0: wing, second, gap. -/
def mo (r : Int) (ws : List Wg) (sts : List Int) : Nat → Int × Int × Int
  | 0 => (-1, -1, 0)
  | k + 1 => if (mo r ws sts k).2.2 < wpG r ws sts (k + 1) 0 then ((k : Int) + 1, wpS r ws sts (k + 1) 0, wpG r ws sts (k + 1) 0) else mo r ws sts k
theorem mo_nn (r : Int) (ws : List Wg) (sts : List Int) : ∀ k, 0 ≤ (mo r ws sts k).2.2 := by
  intro k
  induction k with
  | zero => simp [mo]
  | succ k ih =>
    unfold mo
    split
    · rename_i h; show 0 ≤ wpG r ws sts (k + 1) 0; omega
    · exact ih
/-- What Widest returns. -/
def wiE (r : Int) (ws : List Wg) (sts : List Int) : Int × Int × Int := if cst r ws sts = 0 then mo r ws sts (ws.length - 1) else (0, 0, 0)

set_option maxRecDepth 100000 in
set_option maxHeartbeats 2000000 in
theorem most_c (r : Int) (A B : Option Addr) (c cb : Nat) (ws : List Wg) (sts : List Int) (T1 T2 : TypeId) (w : World) (h1 : SlW w T1 A ws) (h2 : SlI w T2 B sts) (hv : VSt r ws sts) :
    Calls Try.prog 84 #[.agg #[I r, .slice A ws.length c], .slice B sts.length cb] w fun e w' => e = .returned (.tuple #[I (mo r ws sts (ws.length - 1)).1, I (mo r ws sts (ws.length - 1)).2.1, I (mo r ws sts (ws.length - 1)).2.2]) ∧ Below w.heap.size w w' := by
  have HLS := Lib.hid hv.len
  have h8 := hv.n2
  have hn1 := hv.n1
  obtain ⟨b1, o1, rfl, _⟩ := SlW.some_ h1 (show 0 < ws.length by omega)
  have x0 := Bx.new w 24 #[I r, .slice (some ⟨b1, o1, none⟩) ws.length c]
  have hB := (Below.refl w.heap.size w).alloc (Nat.le_refl _) (.cells #[I r, .slice (some ⟨b1, o1, none⟩) ws.length c] 24)
  have hc0 := x0.cell
  go_enter Try.func84, Try.ntmps84
  go_wp2_with fail
  clear hc0
  go_loopw [7, 8, 9, 10] (fun a b g i wr => ∃ j : Nat, i = I ((j : Int) + 1) ∧ j + 1 ≤ ws.length ∧ a = I (mo r ws sts j).1 ∧ b = I (mo r ws sts j).2.1 ∧ g = I (mo r ws sts j).2.2 ∧ Bx wr w.heap.size 24 #[I r, .slice (some ⟨b1, o1, none⟩) ws.length c] ∧ Below w.heap.size w wr)
    (fun _ _ _ i _ => ws.length - (intOf i).toNat)
  case atStart => exact ⟨0, rfl, by omega, rfl, rfl, rfl, x0, hB⟩
  case round =>
    obtain ⟨j, rfl, hj, rfl, rfl, rfl, hbx, hbel⟩ := hrel
    clear x0 hB
    have hcx := hbx.cell
    by_cases hlt' : j + 1 < ws.length
    · obtain ⟨k, hk⟩ : ∃ k, k = j + 1 := ⟨_, rfl⟩
      have ek : (j : Int) + 1 = (k : Int) := by omega
      rw [ek]
      have hlt : k < ws.length := by omega
      obtain ⟨_, v1, v2, v3, v4, v5, v6, v7⟩ := hv.all k hlt
      have hsh1 : Sm ws sts (his ws) (k - 1) := hv.smHi (i := k - 1) (by omega) (by have := HLS.out; omega) fun i hi => hv.bd i (by have := HLS.out; omega)
      have he0 := wrG_eq hv hlt (by omega) (.inl rfl)
      rw [if_pos rfl, if_pos rfl] at he0
      have hk0 : k ≠ 0 := by omega
      have HE := Lib.hid he0
      have HK := Lib.hid hk
      have HEK := Lib.hid ek
      clear he0 hk ek hlt'
      go_wp2_with fail
      clear hcx
      refine wp_region_list_s (by kernel_rfl) (R := (fun w' => Bx w' w.heap.size 24 #[I r, .slice (some ⟨b1, o1, none⟩) ws.length c] ∧ Below w.heap.size w w')) (F := FB) [] [] []
          [As.is _ _ (.agg #[I r, .slice (some ⟨b1, o1, none⟩) ws.length c]),
          As.is _ _ (.slice B sts.length cb),
          As.is _ _ (.agg #[I r, .slice (some ⟨b1, o1, none⟩) ws.length c]),
          asIs _ (his ws),
          As.is _ _ (I (k : Int)),
          As.is _ _ (.pointer (some ⟨w.heap.size, 1, none⟩)),
          As.is _ _ (.slice (some ⟨b1, o1, none⟩) ws.length c),
          As.is _ _ (I (k : Int)),
          As.is _ _ (.pointer (some ⟨b1, o1 + k * 4, none⟩)),
          As.is _ _ (.pointer (some ⟨b1, o1 + k * 4 + 2, none⟩)),
          As.is _ _ (.pointer (some ⟨b1, o1 + k * 4 + 2, none⟩)),
          As.is _ _ (I (gW ws k).lo),
          As.is _ _ (.tuple #[I (wrS r ws sts (his ws) (gW ws k).lo k), I (wrG r ws sts (his ws) (gW ws k).lo k)]),
          As.is _ _ (.tuple #[I (wrS r ws sts (his ws) (gW ws k).lo k), I (wrG r ws sts (his ws) (gW ws k).lo k)]),
          As.is _ _ (I (wrS r ws sts (his ws) (gW ws k).lo k)),
          As.is _ _ (I (wrG r ws sts (his ws) (gW ws k).lo k)),
          As.is _ _ (I (wrS r ws sts (his ws) (gW ws k).lo k)),
          As.is _ _ (I (wrG r ws sts (his ws) (gW ws k).lo k))] 45 (by kernel_rfl) rfl (⟨hbx.below (Below.refl _ _).drew hbx.lt, hbel.drew⟩) (by simp) (by simp) ?_ (fun _ => Below.refl _ _) ?_ ?_ ?_
      · intro i' hi' o' ho k' b' hg u w' hR hu
        match i', hi', ho with
        | 0, _, ho => cases ho; cases hg
        | 1, _, ho => cases ho; cases hg
        | 2, _, ho => cases ho; cases hg
        | 3, _, ho => cases ho; cases hg
        | 4, _, ho => cases ho; cases hg
        | 5, _, ho => cases ho; cases hg
        | 6, _, ho => cases ho; cases hg
        | 7, _, ho => cases ho; cases hg
        | 8, _, ho => cases ho; cases hg
        | 9, _, ho => cases ho; cases hg
        | 10, _, ho => cases ho; cases hg
        | 11, _, ho => cases ho; cases hg
        | 12, _, ho => cases ho; cases hg
        | 13, _, ho => cases ho; cases hg
        | 14, _, ho => cases ho; cases hg
        | 15, _, ho => cases ho; cases hg
        | 16, _, ho => cases ho; cases hg
        | 17, _, ho => cases ho; cases hg
        | n + 18, hi, _ => exact absurd hi (by simp)
      · intro i' hi' hsk; cases hsk
      · intro i' hi' hsk o' ho ev w' hR hc hf hg hs hd
        match i', hi', ho with
        | 0, _, ho =>
          clear hsk
          cases ho
          have e2 : ev (.tmp 2) = .pointer (some ⟨w.heap.size, 0, none⟩) := hs 2 (by kernel_rfl)
          have m4 := hR.1.cell
          go_simp
          first | exact ⟨rfl, hR, Below.refl _ _⟩ | exact ⟨⟨rfl, rfl⟩, hR, Below.refl _ _⟩ | exact ⟨⟨rfl, fun h => absurd h (by decide)⟩, hR, Below.refl _ _⟩ | exact ⟨⟨rfl, rfl, fun h => absurd h (by decide)⟩, hR, Below.refl _ _⟩
        | 1, _, ho =>
          clear hsk
          cases ho
          have e1 : ev (.tmp 1) = .slice B sts.length cb := hs 1 (by kernel_rfl)
          go_simp
          first | exact ⟨rfl, hR, Below.refl _ _⟩ | exact ⟨⟨rfl, rfl⟩, hR, Below.refl _ _⟩ | exact ⟨⟨rfl, fun h => absurd h (by decide)⟩, hR, Below.refl _ _⟩ | exact ⟨⟨rfl, rfl, fun h => absurd h (by decide)⟩, hR, Below.refl _ _⟩
        | 2, _, ho =>
          clear hsk
          cases ho
          have e2 : ev (.tmp 2) = .pointer (some ⟨w.heap.size, 0, none⟩) := hs 2 (by kernel_rfl)
          have m4 := hR.1.cell
          go_simp
          first | exact ⟨rfl, hR, Below.refl _ _⟩ | exact ⟨⟨rfl, rfl⟩, hR, Below.refl _ _⟩ | exact ⟨⟨rfl, fun h => absurd h (by decide)⟩, hR, Below.refl _ _⟩ | exact ⟨⟨rfl, rfl, fun h => absurd h (by decide)⟩, hR, Below.refl _ _⟩
        | 3, _, ho =>
          clear hsk
          cases ho
          have e23 : ev (.tmp 23) = .agg #[I r, .slice (some ⟨b1, o1, none⟩) ws.length c] := hd 2 23 (by kernel_rfl)
          go_simp
          refine (fast_c r _ c ws _ w' (h1.below hR.2 (Nat.le_refl _)) (by omega)).mono ?_
          rintro e wz ⟨B', d', rfl, hsl, hwz⟩
          first | exact ⟨⟨B', d', rfl, hsl⟩, ⟨hR.1.below hwz hR.1.lt, hR.2.trans (hwz.mono hR.2.size)⟩, hwz⟩ | exact ⟨⟨rfl, ⟨B', d', rfl, hsl⟩⟩, ⟨hR.1.below hwz hR.1.lt, hR.2.trans (hwz.mono hR.2.size)⟩, hwz⟩ | exact ⟨⟨⟨B', d', rfl, hsl⟩, fun h => absurd h (by decide)⟩, ⟨hR.1.below hwz hR.1.lt, hR.2.trans (hwz.mono hR.2.size)⟩, hwz⟩ | exact ⟨⟨rfl, ⟨B', d', rfl, hsl⟩, fun h => absurd h (by decide)⟩, ⟨hR.1.below hwz hR.1.lt, hR.2.trans (hwz.mono hR.2.size)⟩, hwz⟩
        | 4, _, ho =>
          clear hsk
          cases ho
          have e10 : ev (.tmp 10) = I (k : Int) := hs 10 (by kernel_rfl)
          go_simp
          first | exact ⟨rfl, hR, Below.refl _ _⟩ | exact ⟨⟨rfl, rfl⟩, hR, Below.refl _ _⟩ | exact ⟨⟨rfl, fun h => absurd h (by decide)⟩, hR, Below.refl _ _⟩ | exact ⟨⟨rfl, rfl, fun h => absurd h (by decide)⟩, hR, Below.refl _ _⟩
        | 5, _, ho =>
          clear hsk
          cases ho
          have e2 : ev (.tmp 2) = .pointer (some ⟨w.heap.size, 0, none⟩) := hs 2 (by kernel_rfl)
          go_simp
          first | exact ⟨rfl, hR, Below.refl _ _⟩ | exact ⟨⟨rfl, rfl⟩, hR, Below.refl _ _⟩ | exact ⟨⟨rfl, fun h => absurd h (by decide)⟩, hR, Below.refl _ _⟩ | exact ⟨⟨rfl, rfl, fun h => absurd h (by decide)⟩, hR, Below.refl _ _⟩
        | 6, _, ho =>
          clear hsk
          cases ho
          have e26 : ev (.tmp 26) = .pointer (some ⟨w.heap.size, 1, none⟩) := hd 5 26 (by kernel_rfl)
          have m4 := hR.1.cell
          go_simp
          first | exact ⟨rfl, hR, Below.refl _ _⟩ | exact ⟨⟨rfl, rfl⟩, hR, Below.refl _ _⟩ | exact ⟨⟨rfl, fun h => absurd h (by decide)⟩, hR, Below.refl _ _⟩ | exact ⟨⟨rfl, rfl, fun h => absurd h (by decide)⟩, hR, Below.refl _ _⟩
        | 7, _, ho =>
          clear hsk
          cases ho
          have e10 : ev (.tmp 10) = I (k : Int) := hs 10 (by kernel_rfl)
          go_simp
          first | exact ⟨rfl, hR, Below.refl _ _⟩ | exact ⟨⟨rfl, rfl⟩, hR, Below.refl _ _⟩ | exact ⟨⟨rfl, fun h => absurd h (by decide)⟩, hR, Below.refl _ _⟩ | exact ⟨⟨rfl, rfl, fun h => absurd h (by decide)⟩, hR, Below.refl _ _⟩
        | 8, _, ho =>
          clear hsk
          cases ho
          have e27 : ev (.tmp 27) = .slice (some ⟨b1, o1, none⟩) ws.length c := hd 6 27 (by kernel_rfl)
          have e28 : ev (.tmp 28) = I (k : Int) := hd 7 28 (by kernel_rfl)
          have hkl : (k : Int) < (ws.length : Int) := by omega
          go_simp
          first | exact ⟨rfl, hR, Below.refl _ _⟩ | exact ⟨⟨rfl, rfl⟩, hR, Below.refl _ _⟩ | exact ⟨⟨rfl, fun h => absurd h (by decide)⟩, hR, Below.refl _ _⟩ | exact ⟨⟨rfl, rfl, fun h => absurd h (by decide)⟩, hR, Below.refl _ _⟩
        | 9, _, ho =>
          clear hsk
          cases ho
          have e29 : ev (.tmp 29) = .pointer (some ⟨b1, o1 + k * 4, none⟩) := hd 8 29 (by kernel_rfl)
          go_simp
          first | exact ⟨rfl, hR, Below.refl _ _⟩ | exact ⟨⟨rfl, rfl⟩, hR, Below.refl _ _⟩ | exact ⟨⟨rfl, fun h => absurd h (by decide)⟩, hR, Below.refl _ _⟩ | exact ⟨⟨rfl, rfl, fun h => absurd h (by decide)⟩, hR, Below.refl _ _⟩
        | 10, _, ho =>
          clear hsk
          cases ho
          have e30 : ev (.tmp 30) = .pointer (some ⟨b1, o1 + k * 4 + 2, none⟩) := hd 9 30 (by kernel_rfl)
          go_simp
          first | exact ⟨rfl, hR, Below.refl _ _⟩ | exact ⟨⟨rfl, rfl⟩, hR, Below.refl _ _⟩ | exact ⟨⟨rfl, fun h => absurd h (by decide)⟩, hR, Below.refl _ _⟩ | exact ⟨⟨rfl, rfl, fun h => absurd h (by decide)⟩, hR, Below.refl _ _⟩
        | 11, _, ho =>
          clear hsk
          cases ho
          have e31 : ev (.tmp 31) = .pointer (some ⟨b1, o1 + k * 4 + 2, none⟩) := hd 10 31 (by kernel_rfl)
          have m6 := (SlW.cellG (h1.below hR.2 (Nat.le_refl _)) hlt).2.2.1
          go_simp
          first | exact ⟨rfl, hR, Below.refl _ _⟩ | exact ⟨⟨rfl, rfl⟩, hR, Below.refl _ _⟩ | exact ⟨⟨rfl, fun h => absurd h (by decide)⟩, hR, Below.refl _ _⟩ | exact ⟨⟨rfl, rfl, fun h => absurd h (by decide)⟩, hR, Below.refl _ _⟩
        | 12, _, ho =>
          clear hsk
          cases ho
          have e21 : ev (.tmp 21) = .agg #[I r, .slice (some ⟨b1, o1, none⟩) ws.length c] := hd 0 21 (by kernel_rfl)
          have e22 : ev (.tmp 22) = .slice B sts.length cb := hd 1 22 (by kernel_rfl)
          obtain ⟨B', d', e24, hsl⟩ : ∃ B' d', ev (.tmp 24) = .slice B' (his ws).length d' ∧ SlI w' 3 B' (his ws) := hd 3 24 (by kernel_rfl)
          have e25 : ev (.tmp 25) = I (k : Int) := hd 4 25 (by kernel_rfl)
          have e32 : ev (.tmp 32) = I (gW ws k).lo := hd 11 32 (by kernel_rfl)
          go_simp
          refine (widestR_c r (some ⟨b1, o1, none⟩) B B' c cb d' ws sts (his ws) k (gW ws k).lo _ _ _ w' (h1.below hR.2 (Nat.le_refl _)) (Sl.below h2 hR.2 (Nat.le_refl _)) hsl hsh1 hv hlt hk0 (his_length ws) (by omega)).mono ?_
          rintro e wz ⟨rfl, hwz⟩
          first | exact ⟨rfl, ⟨hR.1.below hwz hR.1.lt, hR.2.trans (hwz.mono hR.2.size)⟩, hwz⟩ | exact ⟨⟨rfl, rfl⟩, ⟨hR.1.below hwz hR.1.lt, hR.2.trans (hwz.mono hR.2.size)⟩, hwz⟩ | exact ⟨⟨rfl, fun h => absurd h (by decide)⟩, ⟨hR.1.below hwz hR.1.lt, hR.2.trans (hwz.mono hR.2.size)⟩, hwz⟩ | exact ⟨⟨rfl, rfl, fun h => absurd h (by decide)⟩, ⟨hR.1.below hwz hR.1.lt, hR.2.trans (hwz.mono hR.2.size)⟩, hwz⟩
        | 13, _, ho =>
          clear hsk
          cases ho
          have e33 : ev (.tmp 33) = .tuple #[I (wrS r ws sts (his ws) (gW ws k).lo k), I (wrG r ws sts (his ws) (gW ws k).lo k)] := hd 12 33 (by kernel_rfl)
          go_simp
          first | exact ⟨rfl, hR, Below.refl _ _⟩ | exact ⟨⟨rfl, rfl⟩, hR, Below.refl _ _⟩ | exact ⟨⟨rfl, fun h => absurd h (by decide)⟩, hR, Below.refl _ _⟩ | exact ⟨⟨rfl, rfl, fun h => absurd h (by decide)⟩, hR, Below.refl _ _⟩
        | 14, _, ho =>
          clear hsk
          cases ho
          have e20 : ev (.tmp 20) = .tuple #[I (wrS r ws sts (his ws) (gW ws k).lo k), I (wrG r ws sts (his ws) (gW ws k).lo k)] := hd 13 20 (by kernel_rfl)
          go_simp
          first | exact ⟨rfl, hR, Below.refl _ _⟩ | exact ⟨⟨rfl, rfl⟩, hR, Below.refl _ _⟩ | exact ⟨⟨rfl, fun h => absurd h (by decide)⟩, hR, Below.refl _ _⟩ | exact ⟨⟨rfl, rfl, fun h => absurd h (by decide)⟩, hR, Below.refl _ _⟩
        | 15, _, ho =>
          clear hsk
          cases ho
          have e20 : ev (.tmp 20) = .tuple #[I (wrS r ws sts (his ws) (gW ws k).lo k), I (wrG r ws sts (his ws) (gW ws k).lo k)] := hd 13 20 (by kernel_rfl)
          go_simp
          first | exact ⟨rfl, hR, Below.refl _ _⟩ | exact ⟨⟨rfl, rfl⟩, hR, Below.refl _ _⟩ | exact ⟨⟨rfl, fun h => absurd h (by decide)⟩, hR, Below.refl _ _⟩ | exact ⟨⟨rfl, rfl, fun h => absurd h (by decide)⟩, hR, Below.refl _ _⟩
        | 16, _, ho =>
          clear hsk
          cases ho
          have e34 : ev (.tmp 34) = I (wrS r ws sts (his ws) (gW ws k).lo k) := hd 14 34 (by kernel_rfl)
          go_simp
          first | exact ⟨rfl, hR, Below.refl _ _⟩ | exact ⟨⟨rfl, rfl⟩, hR, Below.refl _ _⟩ | exact ⟨⟨rfl, fun h => absurd h (by decide)⟩, hR, Below.refl _ _⟩ | exact ⟨⟨rfl, rfl, fun h => absurd h (by decide)⟩, hR, Below.refl _ _⟩
        | 17, _, ho =>
          clear hsk
          cases ho
          have e35 : ev (.tmp 35) = I (wrG r ws sts (his ws) (gW ws k).lo k) := hd 15 35 (by kernel_rfl)
          go_simp
          first | exact ⟨rfl, hR, Below.refl _ _⟩ | exact ⟨⟨rfl, rfl⟩, hR, Below.refl _ _⟩ | exact ⟨⟨rfl, fun h => absurd h (by decide)⟩, hR, Below.refl _ _⟩ | exact ⟨⟨rfl, rfl, fun h => absurd h (by decide)⟩, hR, Below.refl _ _⟩
        | n + 18, hi, _ => exact absurd hi (by simp)
      intro ρ w2 hR hρ hne K hK
      have p16 : ρ 16 = I (wrS r ws sts (his ws) (gW ws k).lo k) := hρ 16 (by simp)
      have p17 : ρ 17 = I (wrG r ws sts (his ws) (gW ws k).lo k) := hρ 17 (by simp)
      show K (putAll _ _ ρ 18) _
      simp only [putAll, dOf, List.getElem?_toArray, List.getElem?_cons_zero, List.getElem?_cons_succ, Option.bind_some, Act.put, List.setIfInBounds_toArray, List.set_cons_zero, List.set_cons_succ]
      rw [p16, p17]
      refine hK _ _ ?_
      change wpList _ _ _ [] _ _
      obtain ⟨y0, hbel2⟩ := hR
      clear hK K p16 p17 hρ hne hbx hbel
      have hnn := mo_nn r ws sts j
      by_cases hg : (mo r ws sts j).2.2 < wrG r ws sts (his ws) (gW ws k).lo k
      · have eS : wrS r ws sts (his ws) (gW ws k).lo k = wpS r ws sts k 0 := by
          unfold wrS
          rw [if_pos (by omega), HE.out.2 (by rw [← HE.out.1]; omega)]
        have eM : mo r ws sts (j + 1) = ((k : Int), wpS r ws sts k 0, wpG r ws sts k 0) := by
          rw [show mo r ws sts (j + 1) = if (mo r ws sts j).2.2 < wpG r ws sts (j + 1) 0 then ((j : Int) + 1, wpS r ws sts (j + 1) 0, wpG r ws sts (j + 1) 0) else mo r ws sts j from rfl, ← HK.out, ← HE.out.1, if_pos hg, HEK.out]
        have EM := Lib.hid eM
        have ES := Lib.hid eS
        clear eM eS
        generalize wrS r ws sts (his ws) (gW ws k).lo k = sv at *
        generalize hgv : wrG r ws sts (his ws) (gW ws k).lo k = gv at *
        have HGV := Lib.hid hgv
        clear hgv
        go_wp2_with fail
        go_roundw
        case rel =>
          refine ⟨j + 1, ?_, by have := HK.out; omega, ?_, ?_, ?_, y0, hbel2⟩
          · have := HK.out
            show Value.int .i64 _ = Value.int .i64 _
            congr 1
            omega
          · rw [EM.out]
          · rw [EM.out, ES.out]
          · rw [EM.out, ← HE.out.1]
        case measure => have := HK.out; simp [intOf]; omega
      · have eM : mo r ws sts (j + 1) = mo r ws sts j := by
          rw [show mo r ws sts (j + 1) = if (mo r ws sts j).2.2 < wpG r ws sts (j + 1) 0 then ((j : Int) + 1, wpS r ws sts (j + 1) 0, wpG r ws sts (j + 1) 0) else mo r ws sts j from rfl, ← HK.out, ← HE.out.1, if_neg hg]
        have EM := Lib.hid eM
        clear eM
        go_wp2_with fail
        go_roundw
        case rel =>
          refine ⟨j + 1, ?_, by have := HK.out; omega, by rw [EM.out], by rw [EM.out], by rw [EM.out], y0, hbel2⟩
          have := HK.out
          show Value.int .i64 _ = Value.int .i64 _
          congr 1
          omega
        case measure => have := HK.out; simp [intOf]; omega
    · have hlt2 : ¬ ((j : Int) + 1 < (ws.length : Int)) := by omega
      have ej : ws.length - 1 = j := by omega
      have EJ := Lib.hid ej
      clear ej
      go_wp2_with fail
      exact bodyPost_ret (v := .tuple #[I (mo r ws sts j).1, I (mo r ws sts j).2.1, I (mo r ws sts j).2.2]) (by simp [results, Try.results84, go_sem]) rfl ⟨by rw [EJ.out], hbel⟩

section
variable (r : Int) (A B : Option Addr) (c d : Nat) (ws : List Wg) (sts : List Int) (T1 T2 : TypeId) (w : World) (h1 : SlW w T1 A ws) (h2 : SlI w T2 B sts) (hf : Fit ws) (hl1 : ws.length ≤ maxLen) (hc : ws.length ≤ c) (hl2 : sts.length ≤ maxLen) (hd : sts.length ≤ d)
include h1 h2 hf hl1 hc hl2 hd
set_option maxRecDepth 100000 in
set_option maxHeartbeats 1000000 in
theorem widestRR_c :
    Calls Try.prog 39 #[.agg #[I r, .slice A ws.length c], .slice B sts.length d] w fun e w' => e = .returned (.tuple #[I (wiE r ws sts).1, I (wiE r ws sts).2.1, I (wiE r ws sts).2.2, I (cst r ws sts)]) ∧ Below w.heap.size w w' := by
  have x0 := Bx.new w 24 #[I r, .slice A ws.length c]
  have hW0 := (Below.refl w.heap.size w).alloc (Nat.le_refl _) (.cells #[I r, .slice A ws.length c] 24)
  have hc0 := x0.cell
  go_enter Try.func39, Try.ntmps39
  go_wp2_with fail
  refine (checkStartsR_c r _ B c d ws sts T1 T2 _ (h1.below hW0 (Nat.le_refl _)) (h2.below hW0 (Nat.le_refl _)) hf hl1 hc hl2 hd).mono ?_
  rintro e w1 ⟨rfl, hbw1⟩
  have hWb := hW0.trans (hbw1.mono hW0.size)
  have x1 := x0.below hbw1 x0.lt
  clear hc0 x0
  have hc1 := x1.cell
  by_cases a1 : cst r ws sts = 0
  · have hz : (cst r ws sts != 0) = false := by simp [a1]
    have hval := cst_val a1
    have EW := Lib.hid (show wiE r ws sts = mo r ws sts (ws.length - 1) by unfold wiE; rw [if_pos a1])
    have A1 := Lib.hid a1
    clear a1
    go_wp2_with fail
    refine (most_c r A B c d ws sts T1 T2 _ (h1.below hWb (Nat.le_refl _)) (h2.below hWb (Nat.le_refl _)) hval).mono ?_
    rintro e w2 ⟨rfl, hb2⟩
    have hW2 := hWb.trans (hb2.mono hWb.size)
    go_wp2_with fail
    exact bodyPost_ret (v := .tuple #[I (mo r ws sts (ws.length - 1)).1, I (mo r ws sts (ws.length - 1)).2.1, I (mo r ws sts (ws.length - 1)).2.2, I 0]) (by simp [results, Try.results39, go_sem]) rfl ⟨by rw [EW.out, A1.out], hW2⟩
  · have hz : (cst r ws sts != 0) = true := by simp [a1]
    have EW := Lib.hid (show wiE r ws sts = (0, 0, 0) by unfold wiE; rw [if_neg a1])
    have A1 := Lib.hid a1
    clear a1
    go_wp2_with fail
    exact bodyPost_ret (v := .tuple #[I 0, I 0, I 0, I (cst r ws sts)]) (by simp [results, Try.results39, go_sem]) rfl ⟨by rw [EW.out], hWb⟩
end
end Go.Proofs.Ytnihkgdkdinliaa
