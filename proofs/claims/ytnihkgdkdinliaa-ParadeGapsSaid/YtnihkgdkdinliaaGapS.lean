/- The widest gap of a wing as the reference finds it; Opens of the reference. Own work. -/
import Derived.Test.YtnihkgdkdinliaaGapR
namespace Go.Proofs.Ytnihkgdkdinliaa
open Go.RowKit
set_option linter.unusedVariables false
set_option linter.unusedSimpArgs false

/-- The second of the widest gap. -/
def wrT (r : Int) (ws : List Wg) (sts ps : List Int) (p : Int) (k : Nat) : Int := gI sts k + pkN (fun t => ahF ws sts ps p t k) (gI sts k) (unt r ws sts k - 1 - gI sts k).toNat
def wrG (r : Int) (ws : List Wg) (sts ps : List Int) (p : Int) (k : Nat) : Int := if unt r ws sts k ≤ gI sts k then 0 else gapF ws sts ps p (wrT r ws sts ps p k) k
def wrS (r : Int) (ws : List Wg) (sts ps : List Int) (p : Int) (k : Nat) : Int := if 0 < wrG r ws sts ps p k then wrT r ws sts ps p k else -1
theorem gapF_nn (ws : List Wg) (sts ps : List Int) (p t : Int) (k : Nat) : 0 ≤ gapF ws sts ps p t k := by unfold gapF; omega

set_option maxRecDepth 100000 in
set_option maxHeartbeats 4000000 in
theorem widestR_c (r : Int) (A B C : Option Addr) (c cb cc : Nat) (ws : List Wg) (sts ps : List Int) (k : Nat) (p : Int) (T1 T2 T3 : TypeId) (w : World)
    (h1 : SlW w T1 A ws) (h2 : SlI w T2 B sts) (h3 : SlI w T3 C ps) (hsm : Sm ws sts ps (k - 1)) (hv : VSt r ws sts) (hk : k < ws.length) (h0 : k ≠ 0) (hlp : ps.length = ws.length) (hp : 0 ≤ p ∧ p ≤ 1000) :
    Calls Try.prog 101 #[.agg #[I r, .slice A ws.length c], .slice B sts.length cb, .slice C ps.length cc, I (k : Int), I p] w fun e w' => e = .returned (.tuple #[I (wrS r ws sts ps p k), I (wrG r ws sts ps p k)]) ∧ Below w.heap.size w w' := by
  have h8 := hv.n2
  have hu := unt_bd hv hk h0
  have hst := hv.bd k (by have := hv.len; omega)
  obtain ⟨_, v1, v2, _⟩ := hv.all (k - 1) (by omega)
  have hlen : 0 ≤ (gW ws (k - 1)).len ∧ (gW ws (k - 1)).len ≤ 1000000 := by omega
  have x0 := Bx.new w 24 #[I r, .slice A ws.length c]
  have hB := (Below.refl w.heap.size w).alloc (Nat.le_refl _) (.cells #[I r, .slice A ws.length c] 24)
  have HLS := Lib.hid hv.len
  have HLP := Lib.hid hlp
  clear hlp v1 v2
  have hc0 := x0.cell
  go_enter Try.func101, Try.ntmps101
  go_wp2_with fail
  refine (watched_c r A B c cb ws sts k T1 T2 _ (h1.below hB (Nat.le_refl _)) (Sl.below h2 hB (Nat.le_refl _)) hv hk h0).mono ?_
  rintro e w1 ⟨rfl, hb1⟩
  have x1 := x0.below hb1 x0.lt
  have hB1 := hB.trans (hb1.mono hB.size)
  clear x0 hB hc0 hb1
  have hc1 := x1.cell
  generalize hU : unt r ws sts k = U at *
  generalize hS : gI sts k = S at *
  have HU := Lib.hid hU
  have HS := Lib.hid hS
  clear hU hS
  by_cases hle : U ≤ S
  · have eG : wrG r ws sts ps p k = 0 := by unfold wrG; rw [HU.out, HS.out, if_pos hle]
    have eS : wrS r ws sts ps p k = -1 := by unfold wrS; rw [eG, if_neg (by decide)]
    have EG := Lib.hid eG
    have ES := Lib.hid eS
    clear eG eS
    go_wp2_with fail
    exact bodyPost_ret (v := .tuple #[I (-1), I 0]) (by simp [results, Try.results101, go_sem]) rfl ⟨by rw [EG.out, ES.out], hB1⟩
  · obtain ⟨n, hn⟩ : ∃ n : Nat, U - 1 - S = (n : Int) := ⟨(U - 1 - S).toNat, by omega⟩
    have eu : IntKind.i64.wrap (U - 1) = S + (n : Int) := by rw [IntWalk.i64_in _ (by omega)]; omega
    have HN := Lib.hid hn
    have hnb : n ≤ 900000 := by omega
    clear hn
    go_wp2_with fail
    clear hc1
    go_loopw [12, 14] (fun a b wr => ∃ lo hi : Nat, a = I (S + lo) ∧ b = I (S + hi) ∧ lo ≤ hi ∧ hi ≤ n ∧ Hid ((∀ t : Nat, t < lo → ahF ws sts ps p (S + t) k < ahF ws sts ps p (S + t + 1) k) ∧ (∀ t : Nat, hi ≤ t → t < n → ahF ws sts ps p (S + t + 1) k ≤ ahF ws sts ps p (S + t) k)) ∧ Bx wr w.heap.size 24 #[I r, .slice A ws.length c] ∧ Below w.heap.size w wr)
      (fun a b _ => (intOf b - intOf a).toNat)
    case atStart => exact ⟨0, n, by simp, rfl, Nat.zero_le _, Nat.le_refl _, (⟨fun t ht => absurd ht (Nat.not_lt_zero _), fun t h1 h2 => by omega⟩ : (∀ t : Nat, t < 0 → ahF ws sts ps p (S + t) k < ahF ws sts ps p (S + t + 1) k) ∧ (∀ t : Nat, n ≤ t → t < n → ahF ws sts ps p (S + t + 1) k ≤ ahF ws sts ps p (S + t) k)), x1, hB1⟩
    case round =>
      obtain ⟨lo, hi, rfl, rfl, hlh, hin, HI, hbx, hbel⟩ := hrel
      clear x1 hB1
      by_cases hlt : lo < hi
      · have hlt' : S + (lo : Int) < S + (hi : Int) := by omega
        obtain ⟨mm, hm1, hm2, hm3⟩ : ∃ mm : Nat, lo ≤ mm ∧ mm < hi ∧ mm = (lo + hi) / 2 := ⟨(lo + hi) / 2, by omega, by omega, rfl⟩
        have e1 : IntKind.i64.wrap (S + (lo : Int) + (S + (hi : Int))) = S + (lo : Int) + (S + (hi : Int)) := IntWalk.i64_in _ (by omega)
        have e2 : (S + (lo : Int) + (S + (hi : Int))).tdiv 2 = S + (mm : Int) := by rw [Int.tdiv_eq_ediv_of_nonneg (by omega)]; omega
        have e3 : IntKind.i64.wrap (S + (mm : Int)) = S + (mm : Int) := IntWalk.i64_in _ (by omega)
        have hcx := hbx.cell
        have HM := Lib.hid hm3
        clear hm3
        go_wp2_with fail
        clear hcx
        generalize hmm : S + (mm : Int) = m at *
        have hmb : 0 ≤ m ∧ m ≤ 950000 := by omega
        have HMM := Lib.hid hmm
        clear hmm e1 e2 e3
        refine wp_region_list_s (by kernel_rfl) (R := (fun w' => Bx w' w.heap.size 24 #[I r, .slice A ws.length c] ∧ Below w.heap.size w w')) (F := FB) [] [] []
            [As.is _ _ (.agg #[I r, .slice A ws.length c]),
            As.is _ _ (.slice B sts.length cb),
            As.is _ _ (.slice C ps.length cc),
            As.is _ _ (I (k : Int)),
            As.is _ _ (I p),
            As.is _ _ (I m),
            As.is _ _ (I (m + 1)),
            As.is _ _ (I (ahF ws sts ps p (m + 1) k)),
            As.is _ _ (.agg #[I r, .slice A ws.length c]),
            As.is _ _ (.slice B sts.length cb),
            As.is _ _ (.slice C ps.length cc),
            As.is _ _ (I (k : Int)),
            As.is _ _ (I p),
            As.is _ _ (I m),
            As.is _ _ (I (ahF ws sts ps p (m) k)),
            As.is _ _ (.bool (decide (ahF ws sts ps p m k < ahF ws sts ps p (m + 1) k)))] 66 (by kernel_rfl) rfl (⟨hbx.below (Below.refl _ _).drew hbx.lt, hbel.drew⟩) (by simp) (by simp) ?_ (fun _ => Below.refl _ _) ?_ ?_ ?_
        · intro i' hi' o' ho k' b' hg u w' hR hu
          match i', hi', ho with
          | 0, _, ho => cases ho; cases hg
          | 1, _, ho => cases ho; cases hg
          | 2, _, ho => cases ho; cases hg
          | 3, _, ho => cases ho; cases hg
          | 4, _, ho => cases ho; cases hg
          | 5, _, ho => cases ho; cases hg
          | 6, _, ho => cases ho; cases hg
          | 7, _, ho => cases ho; cases hg
          | 8, _, ho => cases ho; cases hg
          | 9, _, ho => cases ho; cases hg
          | 10, _, ho => cases ho; cases hg
          | 11, _, ho => cases ho; cases hg
          | 12, _, ho => cases ho; cases hg
          | 13, _, ho => cases ho; cases hg
          | 14, _, ho => cases ho; cases hg
          | 15, _, ho => cases ho; cases hg
          | n + 16, hi, _ => exact absurd hi (by simp)
        · intro i' hi' hsk; cases hsk
        · intro i' hi' hsk o' ho ev w' hR hc hf hg hs hd
          match i', hi', ho with
          | 0, _, ho =>
            clear hsk
            cases ho
            have e5 : ev (.tmp 5) = .pointer (some ⟨w.heap.size, 0, none⟩) := hs 5 (by kernel_rfl)
            have m4 := hR.1.cell
            go_simp
            first | exact ⟨rfl, hR, Below.refl _ _⟩ | exact ⟨⟨rfl, rfl⟩, hR, Below.refl _ _⟩ | exact ⟨⟨rfl, fun h => absurd h (by decide)⟩, hR, Below.refl _ _⟩ | exact ⟨⟨rfl, rfl, fun h => absurd h (by decide)⟩, hR, Below.refl _ _⟩
          | 1, _, ho =>
            clear hsk
            cases ho
            have e1 : ev (.tmp 1) = .slice B sts.length cb := hs 1 (by kernel_rfl)
            go_simp
            first | exact ⟨rfl, hR, Below.refl _ _⟩ | exact ⟨⟨rfl, rfl⟩, hR, Below.refl _ _⟩ | exact ⟨⟨rfl, fun h => absurd h (by decide)⟩, hR, Below.refl _ _⟩ | exact ⟨⟨rfl, rfl, fun h => absurd h (by decide)⟩, hR, Below.refl _ _⟩
          | 2, _, ho =>
            clear hsk
            cases ho
            have e2 : ev (.tmp 2) = .slice C ps.length cc := hs 2 (by kernel_rfl)
            go_simp
            first | exact ⟨rfl, hR, Below.refl _ _⟩ | exact ⟨⟨rfl, rfl⟩, hR, Below.refl _ _⟩ | exact ⟨⟨rfl, fun h => absurd h (by decide)⟩, hR, Below.refl _ _⟩ | exact ⟨⟨rfl, rfl, fun h => absurd h (by decide)⟩, hR, Below.refl _ _⟩
          | 3, _, ho =>
            clear hsk
            cases ho
            have e3 : ev (.tmp 3) = I (k : Int) := hs 3 (by kernel_rfl)
            go_simp
            first | exact ⟨rfl, hR, Below.refl _ _⟩ | exact ⟨⟨rfl, rfl⟩, hR, Below.refl _ _⟩ | exact ⟨⟨rfl, fun h => absurd h (by decide)⟩, hR, Below.refl _ _⟩ | exact ⟨⟨rfl, rfl, fun h => absurd h (by decide)⟩, hR, Below.refl _ _⟩
          | 4, _, ho =>
            clear hsk
            cases ho
            have e4 : ev (.tmp 4) = I p := hs 4 (by kernel_rfl)
            go_simp
            first | exact ⟨rfl, hR, Below.refl _ _⟩ | exact ⟨⟨rfl, rfl⟩, hR, Below.refl _ _⟩ | exact ⟨⟨rfl, fun h => absurd h (by decide)⟩, hR, Below.refl _ _⟩ | exact ⟨⟨rfl, rfl, fun h => absurd h (by decide)⟩, hR, Below.refl _ _⟩
          | 5, _, ho =>
            clear hsk
            cases ho
            have e15 : ev (.tmp 15) = I m := hs 15 (by kernel_rfl)
            go_simp
            first | exact ⟨rfl, hR, Below.refl _ _⟩ | exact ⟨⟨rfl, rfl⟩, hR, Below.refl _ _⟩ | exact ⟨⟨rfl, fun h => absurd h (by decide)⟩, hR, Below.refl _ _⟩ | exact ⟨⟨rfl, rfl, fun h => absurd h (by decide)⟩, hR, Below.refl _ _⟩
          | 6, _, ho =>
            clear hsk
            cases ho
            have e41 : ev (.tmp 41) = I m := hd 5 41 (by kernel_rfl)
            have ew : IntKind.i64.wrap (m + 1) = m + 1 := IntWalk.i64_in _ (by omega)
            go_simp
            first | exact ⟨rfl, hR, Below.refl _ _⟩ | exact ⟨⟨rfl, rfl⟩, hR, Below.refl _ _⟩ | exact ⟨⟨rfl, fun h => absurd h (by decide)⟩, hR, Below.refl _ _⟩ | exact ⟨⟨rfl, rfl, fun h => absurd h (by decide)⟩, hR, Below.refl _ _⟩
          | 7, _, ho =>
            clear hsk
            cases ho
            have e36 : ev (.tmp 36) = .agg #[I r, .slice A ws.length c] := hd 0 36 (by kernel_rfl)
            have e37 : ev (.tmp 37) = .slice B sts.length cb := hd 1 37 (by kernel_rfl)
            have e38 : ev (.tmp 38) = .slice C ps.length cc := hd 2 38 (by kernel_rfl)
            have e39 : ev (.tmp 39) = I (k : Int) := hd 3 39 (by kernel_rfl)
            have e40 : ev (.tmp 40) = I p := hd 4 40 (by kernel_rfl)
            have e42 : ev (.tmp 42) = I (m + 1) := hd 6 42 (by kernel_rfl)
            go_simp
            refine (ahead_c r A B C c cb cc ws sts ps k p (m + 1) _ _ _ w' (h1.below hR.2 (Nat.le_refl _)) (Sl.below h2 hR.2 (Nat.le_refl _)) (Sl.below h3 hR.2 (Nat.le_refl _)) hsm hk h0 h8 HLS.out HLP.out (by rw [HS.out]; exact hst) hp (by omega) hlen).mono ?_
            rintro e wz ⟨rfl, hwz⟩
            first | exact ⟨rfl, ⟨hR.1.below hwz hR.1.lt, hR.2.trans (hwz.mono hR.2.size)⟩, hwz⟩ | exact ⟨⟨rfl, rfl⟩, ⟨hR.1.below hwz hR.1.lt, hR.2.trans (hwz.mono hR.2.size)⟩, hwz⟩ | exact ⟨⟨rfl, fun h => absurd h (by decide)⟩, ⟨hR.1.below hwz hR.1.lt, hR.2.trans (hwz.mono hR.2.size)⟩, hwz⟩ | exact ⟨⟨rfl, rfl, fun h => absurd h (by decide)⟩, ⟨hR.1.below hwz hR.1.lt, hR.2.trans (hwz.mono hR.2.size)⟩, hwz⟩
          | 8, _, ho =>
            clear hsk
            cases ho
            have e5 : ev (.tmp 5) = .pointer (some ⟨w.heap.size, 0, none⟩) := hs 5 (by kernel_rfl)
            have m4 := hR.1.cell
            go_simp
            first | exact ⟨rfl, hR, Below.refl _ _⟩ | exact ⟨⟨rfl, rfl⟩, hR, Below.refl _ _⟩ | exact ⟨⟨rfl, fun h => absurd h (by decide)⟩, hR, Below.refl _ _⟩ | exact ⟨⟨rfl, rfl, fun h => absurd h (by decide)⟩, hR, Below.refl _ _⟩
          | 9, _, ho =>
            clear hsk
            cases ho
            have e1 : ev (.tmp 1) = .slice B sts.length cb := hs 1 (by kernel_rfl)
            go_simp
            first | exact ⟨rfl, hR, Below.refl _ _⟩ | exact ⟨⟨rfl, rfl⟩, hR, Below.refl _ _⟩ | exact ⟨⟨rfl, fun h => absurd h (by decide)⟩, hR, Below.refl _ _⟩ | exact ⟨⟨rfl, rfl, fun h => absurd h (by decide)⟩, hR, Below.refl _ _⟩
          | 10, _, ho =>
            clear hsk
            cases ho
            have e2 : ev (.tmp 2) = .slice C ps.length cc := hs 2 (by kernel_rfl)
            go_simp
            first | exact ⟨rfl, hR, Below.refl _ _⟩ | exact ⟨⟨rfl, rfl⟩, hR, Below.refl _ _⟩ | exact ⟨⟨rfl, fun h => absurd h (by decide)⟩, hR, Below.refl _ _⟩ | exact ⟨⟨rfl, rfl, fun h => absurd h (by decide)⟩, hR, Below.refl _ _⟩
          | 11, _, ho =>
            clear hsk
            cases ho
            have e3 : ev (.tmp 3) = I (k : Int) := hs 3 (by kernel_rfl)
            go_simp
            first | exact ⟨rfl, hR, Below.refl _ _⟩ | exact ⟨⟨rfl, rfl⟩, hR, Below.refl _ _⟩ | exact ⟨⟨rfl, fun h => absurd h (by decide)⟩, hR, Below.refl _ _⟩ | exact ⟨⟨rfl, rfl, fun h => absurd h (by decide)⟩, hR, Below.refl _ _⟩
          | 12, _, ho =>
            clear hsk
            cases ho
            have e4 : ev (.tmp 4) = I p := hs 4 (by kernel_rfl)
            go_simp
            first | exact ⟨rfl, hR, Below.refl _ _⟩ | exact ⟨⟨rfl, rfl⟩, hR, Below.refl _ _⟩ | exact ⟨⟨rfl, fun h => absurd h (by decide)⟩, hR, Below.refl _ _⟩ | exact ⟨⟨rfl, rfl, fun h => absurd h (by decide)⟩, hR, Below.refl _ _⟩
          | 13, _, ho =>
            clear hsk
            cases ho
            have e15 : ev (.tmp 15) = I m := hs 15 (by kernel_rfl)
            go_simp
            first | exact ⟨rfl, hR, Below.refl _ _⟩ | exact ⟨⟨rfl, rfl⟩, hR, Below.refl _ _⟩ | exact ⟨⟨rfl, fun h => absurd h (by decide)⟩, hR, Below.refl _ _⟩ | exact ⟨⟨rfl, rfl, fun h => absurd h (by decide)⟩, hR, Below.refl _ _⟩
          | 14, _, ho =>
            clear hsk
            cases ho
            have e44 : ev (.tmp 44) = .agg #[I r, .slice A ws.length c] := hd 8 44 (by kernel_rfl)
            have e45 : ev (.tmp 45) = .slice B sts.length cb := hd 9 45 (by kernel_rfl)
            have e46 : ev (.tmp 46) = .slice C ps.length cc := hd 10 46 (by kernel_rfl)
            have e47 : ev (.tmp 47) = I (k : Int) := hd 11 47 (by kernel_rfl)
            have e48 : ev (.tmp 48) = I p := hd 12 48 (by kernel_rfl)
            have e49 : ev (.tmp 49) = I m := hd 13 49 (by kernel_rfl)
            go_simp
            refine (ahead_c r A B C c cb cc ws sts ps k p (m) _ _ _ w' (h1.below hR.2 (Nat.le_refl _)) (Sl.below h2 hR.2 (Nat.le_refl _)) (Sl.below h3 hR.2 (Nat.le_refl _)) hsm hk h0 h8 HLS.out HLP.out (by rw [HS.out]; exact hst) hp (by omega) hlen).mono ?_
            rintro e wz ⟨rfl, hwz⟩
            first | exact ⟨rfl, ⟨hR.1.below hwz hR.1.lt, hR.2.trans (hwz.mono hR.2.size)⟩, hwz⟩ | exact ⟨⟨rfl, rfl⟩, ⟨hR.1.below hwz hR.1.lt, hR.2.trans (hwz.mono hR.2.size)⟩, hwz⟩ | exact ⟨⟨rfl, fun h => absurd h (by decide)⟩, ⟨hR.1.below hwz hR.1.lt, hR.2.trans (hwz.mono hR.2.size)⟩, hwz⟩ | exact ⟨⟨rfl, rfl, fun h => absurd h (by decide)⟩, ⟨hR.1.below hwz hR.1.lt, hR.2.trans (hwz.mono hR.2.size)⟩, hwz⟩
          | 15, _, ho =>
            clear hsk
            cases ho
            have e43 : ev (.tmp 43) = I (ahF ws sts ps p (m + 1) k) := hd 7 43 (by kernel_rfl)
            have e50 : ev (.tmp 50) = I (ahF ws sts ps p (m) k) := hd 14 50 (by kernel_rfl)
            go_simp
            first | exact ⟨rfl, hR, Below.refl _ _⟩ | exact ⟨⟨rfl, rfl⟩, hR, Below.refl _ _⟩ | exact ⟨⟨rfl, fun h => absurd h (by decide)⟩, hR, Below.refl _ _⟩ | exact ⟨⟨rfl, rfl, fun h => absurd h (by decide)⟩, hR, Below.refl _ _⟩
          | n + 16, hi, _ => exact absurd hi (by simp)
        intro ρ w2 hR hρ hne K hK
        have p15 : ρ 15 = .bool (decide (ahF ws sts ps p m k < ahF ws sts ps p (m + 1) k)) := hρ 15 (by simp)
        show K (putAll _ _ ρ 16) _
        simp only [putAll, dOf, List.getElem?_toArray, List.getElem?_cons_zero, List.getElem?_cons_succ, Option.bind_some, Act.put, List.setIfInBounds_toArray, List.set_cons_zero, List.set_cons_succ]
        rw [p15]
        refine hK _ _ ?_
        change wpList _ _ _ [] _ _
        obtain ⟨y1, hbel2⟩ := hR
        clear hK K p15 hρ hne hbx hbel
        by_cases hf : ahF ws sts ps p m k < ahF ws sts ps p (m + 1) k
        · have e4 : IntKind.i64.wrap (m + 1) = m + 1 := IntWalk.i64_in _ (by omega)
          go_wp2_with fail
          go_roundw
          case rel =>
            have hmm := HMM.out
            refine ⟨mm + 1, hi, by go_num, rfl, by omega, hin, ?_, y1, hbel2⟩
            refine ⟨fun t ht => ?_, HI.out.2⟩
            rcases Nat.lt_or_ge (ahF ws sts ps p (S + t) k).toNat 0 with h | _
            · omega
            · by_cases hg : ahF ws sts ps p (S + t + 1) k ≤ ahF ws sts ps p (S + t) k
              · have := ah_after hg (mm - t)
                rw [show S + (t : Int) + ((mm - t : Nat) : Int) = S + mm by omega, hmm] at this
                omega
              · omega
          case measure => have hmm := HMM.out; simp [intOf]; omega
        · go_wp2_with fail
          go_roundw
          case rel =>
            have hmm := HMM.out
            refine ⟨lo, mm, rfl, by go_num, hm1, by omega, ?_, y1, hbel2⟩
            refine ⟨HI.out.1, fun t h5 h6 => ?_⟩
            have hge : ahF ws sts ps p (S + mm + 1) k ≤ ahF ws sts ps p (S + mm) k := by rw [hmm]; omega
            have := ah_after hge (t - mm)
            rw [show S + (mm : Int) + ((t - mm : Nat) : Int) = S + t by omega] at this
            exact this
          case measure => have hmm := HMM.out; simp [intOf]; omega
      · have hlt' : ¬ S + (lo : Int) < S + (hi : Int) := by omega
        obtain rfl : lo = hi := by omega
        have eP : lo = pkN (fun t => ahF ws sts ps p t k) S n := IsPk.eq ⟨hin, HI.out.1, HI.out.2⟩
        have eT : wrT r ws sts ps p k = S + lo := by
          unfold wrT
          rw [HU.out, HS.out, HN.out, Int.toNat_natCast, ← eP]
        have eG : wrG r ws sts ps p k = gapF ws sts ps p (S + lo) k := by unfold wrG; rw [HU.out, HS.out, if_neg (by omega), eT]
        have hnn := gapF_nn ws sts ps p (S + lo) k
        have EP := Lib.hid eP
        clear eP
        have hcx := hbx.cell
        go_wp2_with fail
        refine (apartR_c r A B C c cb cc ws sts ps k p (S + lo) T1 T2 T3 _ (h1.below hbel (Nat.le_refl _)) (Sl.below h2 hbel (Nat.le_refl _)) (Sl.below h3 hbel (Nat.le_refl _)) hsm hk h0 h8 HLS.out HLP.out (by rw [HS.out]; exact hst) hp (by omega) hlen).mono ?_
        rintro e w4 ⟨rfl, hb4⟩
        have hbel4 := hbel.trans (hb4.mono hbel.size)
        generalize hgv : gapF ws sts ps p (S + lo) k = gv at *
        clear hgv
        by_cases hpos : 0 < gv
        · have ES := Lib.hid (show wrS r ws sts ps p k = S + lo by unfold wrS; rw [eG, if_pos hpos, eT])
          have EG := Lib.hid eG
          clear eT eG
          go_wp2_with fail
          exact bodyPost_ret (v := .tuple #[I (S + lo), I gv]) (by simp [results, Try.results101, go_sem]) rfl ⟨by rw [EG.out, ES.out], hbel4⟩
        · have ES := Lib.hid (show wrS r ws sts ps p k = -1 by unfold wrS; rw [eG, if_neg hpos])
          have EG := Lib.hid (show wrG r ws sts ps p k = 0 by omega)
          clear eT eG
          go_wp2_with fail
          exact bodyPost_ret (v := .tuple #[I (-1), I 0]) (by simp [results, Try.results101, go_sem]) rfl ⟨by rw [EG.out, ES.out], hbel4⟩
end Go.Proofs.Ytnihkgdkdinliaa
