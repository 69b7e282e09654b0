/- Gap of the reference. Own work. -/
import Derived.Test.YtnihkgdkdinliaaMost
namespace Go.Proofs.Ytnihkgdkdinliaa
open Go.RowKit
set_option linter.unusedVariables false
set_option linter.unusedSimpArgs false

/-- A slice of numbers stays where a span's box is filled. -/
theorem Sl.fs {row : Option Nat} {n0 : Nat} {P : Int → Int → Prop} {w w' : World} {T : TypeId} {B : Option Addr} {xs : List Value} (h : Sl w T B xs) (hT : T ≠ 27) (hr : row = Option.none) (hf : FS row n0 P w w') : Sl w' T B xs := by
  rcases h with h | ⟨b, o, cs, fz, hA, hh, hc⟩
  · exact .inl h
  · refine .inr ⟨b, o, cs, fz, hA, ?_, hc⟩
    rcases hf.2 b (lt_of_heap hh) (by rw [hr]; simp) with e | ⟨_, ⟨x, y, _, hb⟩, _⟩
    · exact e.trans hh
    · unfold Bx at hb
      rw [hh] at hb
      injection hb with hb
      injection hb with _ ht
      exact absurd ht hT
def asIsS (R : World → Prop) (n0 : Nat) (P : Int → Int → Prop) (zs : List Int) : As R (FS Option.none n0 P) := ⟨fun v w => ∃ B d, v = .slice B zs.length d ∧ SlI w 3 B zs, fun _ _ _ _ _ hF ⟨B, d, e, h⟩ => ⟨B, d, e, Sl.fs h (by decide) rfl hF⟩⟩
def asSpW (R : World → Prop) (n0 : Nat) (P : Int → Int → Prop) (b : Nat) : As R (FS Option.none n0 P) := ⟨fun _ w => SpB P w b, fun _ _ _ _ _ hF h => h.fs1 (by simp) hF⟩

section
variable (r : Int) (A B : Option Addr) (c d : Nat) (ws : List Wg) (sts : List Int) (T1 T2 : TypeId) (w : World) (h1 : SlW w T1 A ws) (h2 : SlI w T2 B sts) (hf : Fit ws) (hl1 : ws.length ≤ maxLen) (hc : ws.length ≤ c) (hl2 : sts.length ≤ maxLen) (hd : sts.length ≤ d)
include h1 h2 hf hl1 hc hl2 hd
set_option maxRecDepth 100000 in
set_option maxHeartbeats 2000000 in
theorem gapRR_c (wing t : Int) :
    Calls Try.prog 41 #[.agg #[I r, .slice A ws.length c], .slice B sts.length d, I wing, I t] w fun e w' => e = .returned (.tuple #[Sp (gaLo r ws sts wing t) (gaHi r ws sts wing t), I (gaE r ws sts wing t)]) ∧ Below w.heap.size w w' := by
  have x0 := (Bx.new w 24 #[I r, .slice A ws.length c]).alloc (.cells #[I 0, I 0] 27)
  have y0 := Bx.new' (w.alloc (.cells #[I r, .slice A ws.length c] 24)) 27 #[I 0, I 0] (w.heap.size + 1) (by simp)
  have hW0 := ((Below.refl w.heap.size w).alloc (Nat.le_refl _) (.cells #[I r, .slice A ws.length c] 24)).alloc (by simp) (.cells #[I 0, I 0] 27)
  have hc0 := x0.cell
  go_enter Try.func41, Try.ntmps41
  go_wp2_with fail
  refine (checkWhere_c r _ B c d ws sts T1 T2 _ (h1.below hW0 (Nat.le_refl _)) (h2.below hW0 (Nat.le_refl _)) hf hl1 hc hl2 hd _ _).mono ?_
  rintro e w1 ⟨rfl, hbw1⟩
  have hWb := hW0.trans (hbw1.mono hW0.size)
  have x1 := x0.below hbw1 x0.lt
  have y1 := y0.below hbw1 y0.lt
  clear hc0 x0 y0
  have hcx := x1.cell
  have hcy := y1.cell
  have hfy := y1.free
  have z1 := (y1.set_ 0 (I 0)).set_ 1 (I 0)
  have hcz := z1.cell
  by_cases a1 : mom r ws sts wing t = 0
  · have hz : (mom r ws sts wing t != 0) = false := by simp [a1]
    obtain ⟨a2, a3, a4⟩ := mom_val a1
    obtain ⟨a5, a6⟩ := wngE_val a2
    have hval := cst_val a5
    have h8 := hval.n2
    obtain ⟨k, rfl⟩ : ∃ k : Nat, wing = (k : Int) := ⟨wing.toNat, by omega⟩
    rw [Int.toNat_natCast] at a3
    have hlen0 := hval.len
    have hst := hval.bd k (by omega)
    by_cases hk0 : k = 0
    · subst hk0
      have E1 := Lib.hid (gaE_z a1 rfl)
      have hzz : (((0 : Nat) : Int) == 0) = true := rfl
      have hz' : (mom r ws sts 0 t != 0) = false := hz
      clear a1 a2 a5 hlen0
      go_wp2_with fail
      refine bodyPost_ret (v := .tuple #[Sp 0 0, I 7]) (by simp [results, Try.results41, go_sem, hcz]) rfl ⟨?_, ?_⟩
      · rw [E1.out]
        unfold gaLo gaHi
        rw [if_neg (by rw [E1.out]; decide), if_neg (by rw [E1.out]; decide)]
      · exact below_put hWb (by omega) _ _
    · have hkl : k < ws.length := by omega
      obtain ⟨_, v1, v2, v3, v4, v5, v6, v7⟩ := hval.all k hkl
      obtain ⟨_, l1, l2, _⟩ := hval.all (k - 1) (by omega)
      have hlen : 0 ≤ (gW ws (k - 1)).len ∧ (gW ws (k - 1)).len ≤ 1000000 := by omega
      have hsl1 : Sm ws sts (los ws) (k - 1) := hval.smLo (i := k - 1) (by omega) (by omega) fun j hj => hval.bd j (by omega)
      have hsh1 : Sm ws sts (his ws) (k - 1) := hval.smHi (i := k - 1) (by omega) (by omega) fun j hj => hval.bd j (by omega)
      have hzz : ((k : Int) == 0) = false := beq_eq_false_iff_ne.2 (by omega)
      have E1 := Lib.hid (gaE_ok a1 (by omega : (k : Int) ≠ 0))
      obtain ⟨b1, o1, rfl, _⟩ := SlW.some_ h1 hkl
      obtain ⟨b2, o2, rfl, _⟩ := SlI.some_ h2 (show k < sts.length by omega)
      obtain ⟨m4, m5, m6, m7⟩ := SlW.cellG (h1.below hWb (Nat.le_refl _)) hkl
      have HLS := Lib.hid hlen0
      have hkn : (k : Int) < (ws.length : Int) := by omega
      clear a1 a2 a5 hlen0 hcz z1
      go_wp2_with fail
      clear hcx hcy hfy m4 m5 m6 m7
      have X := x1.alloc (.cells #[I (gW ws k).lo, I (gW ws k).hi] 27)
      have Y := y1.alloc (.cells #[I (gW ws k).lo, I (gW ws k).hi] 27)
      have Q := Bx.new w1 27 #[I (gW ws k).lo, I (gW ws k).hi]
      have hB2 := hWb.alloc hWb.size (.cells #[I (gW ws k).lo, I (gW ws k).hi] 27)
      have hq8 : w1.heap.size ≠ w.heap.size + 1 := fun e => by have := y1.lt; omega
      clear x1 y1 hWb
      generalize w1.heap.size = q at *
      refine wp_region_list_s (by kernel_rfl) (R := (fun w' => Bx w' w.heap.size 24 #[I r, .slice (some ⟨b1, o1, none⟩) ws.length c] ∧ Bx w' q 27 #[I (gW ws k).lo, I (gW ws k).hi] ∧ SpB (P0 (fun x' y' : Int => x' = gapF ws sts (los ws) (gW ws k).hi t k ∧ y' = gapF ws sts (his ws) (gW ws k).lo t k)) w' (w.heap.size + 1) ∧ Below w.heap.size w w')) (F := FS Option.none (w.heap.size + 1) (fun x' y' : Int => x' = gapF ws sts (los ws) (gW ws k).hi t k ∧ y' = gapF ws sts (his ws) (gW ws k).lo t k)) [] [] [(19, 18)]
          [As.is _ _ (.agg #[I r, .slice (some ⟨b1, o1, none⟩) ws.length c]),
          As.is _ _ (.slice (some ⟨b2, o2, none⟩) sts.length d),
          As.is _ _ (.agg #[I r, .slice (some ⟨b1, o1, none⟩) ws.length c]),
          asIsS _ (w.heap.size + 1) (fun x' y' : Int => x' = gapF ws sts (los ws) (gW ws k).hi t k ∧ y' = gapF ws sts (his ws) (gW ws k).lo t k) (los ws),
          As.is _ _ (I (k : Int)),
          As.is _ _ (.pointer (some ⟨q, 1, none⟩)),
          As.is _ _ (I (gW ws k).hi),
          As.is _ _ (I t),
          As.is _ _ (I (gapF ws sts (los ws) (gW ws k).hi t k)),
          As.is _ _ (.agg #[I r, .slice (some ⟨b1, o1, none⟩) ws.length c]),
          As.is _ _ (.slice (some ⟨b2, o2, none⟩) sts.length d),
          As.is _ _ (.agg #[I r, .slice (some ⟨b1, o1, none⟩) ws.length c]),
          asIsS _ (w.heap.size + 1) (fun x' y' : Int => x' = gapF ws sts (los ws) (gW ws k).hi t k ∧ y' = gapF ws sts (his ws) (gW ws k).lo t k) (his ws),
          As.is _ _ (I (k : Int)),
          As.is _ _ (.pointer (some ⟨q, 0, none⟩)),
          As.is _ _ (I (gW ws k).lo),
          As.is _ _ (I t),
          As.is _ _ (I (gapF ws sts (his ws) (gW ws k).lo t k)),
          As.is _ _ (Sp (gapF ws sts (los ws) (gW ws k).hi t k) (gapF ws sts (his ws) (gW ws k).lo t k)),
          asSpW _ (w.heap.size + 1) (fun x' y' : Int => x' = gapF ws sts (los ws) (gW ws k).hi t k ∧ y' = gapF ws sts (his ws) (gW ws k).lo t k) (w.heap.size + 1),
          As.is _ _ (I 0)] 49 (by kernel_rfl) rfl (⟨X.below (Below.refl _ _).drew X.lt, Q.below (Below.refl _ _).drew Q.lt, ⟨0, 0, .inl ⟨rfl, rfl⟩, Y.below (Below.refl _ _).drew Y.lt⟩, hB2.drew⟩) (by simp) (by simp) ?_ (fun _ => FS.refl _ _ _ _) ?_ ?_ ?_
      · intro i' hi' o' ho k' b' hg u w' hR hu
        match i', hi', ho with
        | 0, _, ho => cases ho; cases hg
        | 1, _, ho => cases ho; cases hg
        | 2, _, ho => cases ho; cases hg
        | 3, _, ho => cases ho; cases hg
        | 4, _, ho => cases ho; cases hg
        | 5, _, ho => cases ho; cases hg
        | 6, _, ho => cases ho; cases hg
        | 7, _, ho => cases ho; cases hg
        | 8, _, ho => cases ho; cases hg
        | 9, _, ho => cases ho; cases hg
        | 10, _, ho => cases ho; cases hg
        | 11, _, ho => cases ho; cases hg
        | 12, _, ho => cases ho; cases hg
        | 13, _, ho => cases ho; cases hg
        | 14, _, ho => cases ho; cases hg
        | 15, _, ho => cases ho; cases hg
        | 16, _, ho => cases ho; cases hg
        | 17, _, ho => cases ho; cases hg
        | 18, _, ho => cases ho; cases hg
        | 19, _, ho => cases ho; cases hg
        | 20, _, ho => cases ho; cases hg
        | n + 21, hi, _ => exact absurd hi (by simp)
      · intro i' hi' hsk; cases hsk
      · intro i' hi' hsk o' ho ev w' hR hc hf hg hs hd
        match i', hi', ho with
        | 0, _, ho =>
          clear hsk
          cases ho
          have e4 : ev (.tmp 4) = .pointer (some ⟨w.heap.size, 0, none⟩) := hs 4 (by kernel_rfl)
          have m4 := hR.1.cell
          go_simp
          first | exact ⟨rfl, hR, FS.refl _ _ _ _⟩ | exact ⟨⟨rfl, rfl⟩, hR, FS.refl _ _ _ _⟩ | exact ⟨⟨rfl, fun h => absurd h (by decide)⟩, hR, FS.refl _ _ _ _⟩ | exact ⟨⟨rfl, rfl, fun h => absurd h (by decide)⟩, hR, FS.refl _ _ _ _⟩
        | 1, _, ho =>
          clear hsk
          cases ho
          have e1 : ev (.tmp 1) = .slice (some ⟨b2, o2, none⟩) sts.length d := hs 1 (by kernel_rfl)
          go_simp
          first | exact ⟨rfl, hR, FS.refl _ _ _ _⟩ | exact ⟨⟨rfl, rfl⟩, hR, FS.refl _ _ _ _⟩ | exact ⟨⟨rfl, fun h => absurd h (by decide)⟩, hR, FS.refl _ _ _ _⟩ | exact ⟨⟨rfl, rfl, fun h => absurd h (by decide)⟩, hR, FS.refl _ _ _ _⟩
        | 2, _, ho =>
          clear hsk
          cases ho
          have e4 : ev (.tmp 4) = .pointer (some ⟨w.heap.size, 0, none⟩) := hs 4 (by kernel_rfl)
          have m4 := hR.1.cell
          go_simp
          first | exact ⟨rfl, hR, FS.refl _ _ _ _⟩ | exact ⟨⟨rfl, rfl⟩, hR, FS.refl _ _ _ _⟩ | exact ⟨⟨rfl, fun h => absurd h (by decide)⟩, hR, FS.refl _ _ _ _⟩ | exact ⟨⟨rfl, rfl, fun h => absurd h (by decide)⟩, hR, FS.refl _ _ _ _⟩
        | 3, _, ho =>
          clear hsk
          cases ho
          have e32 : ev (.tmp 32) = .agg #[I r, .slice (some ⟨b1, o1, none⟩) ws.length c] := hd 2 32 (by kernel_rfl)
          go_simp
          refine (slow_c r _ c ws _ w' (h1.below hR.2.2.2 (Nat.le_refl _)) (by omega)).mono ?_
          rintro e wz ⟨B', d', rfl, hsl, hwz⟩
          first | exact ⟨⟨B', d', rfl, hsl⟩, ⟨hR.1.below hwz hR.1.lt, hR.2.1.below hwz hR.2.1.lt, hR.2.2.1.fs0 (by simp) (FS.below (row := Option.none) (n0 := 0) hwz), hR.2.2.2.trans (hwz.mono hR.2.2.2.size)⟩, FS.below hwz⟩ | exact ⟨⟨rfl, ⟨B', d', rfl, hsl⟩⟩, ⟨hR.1.below hwz hR.1.lt, hR.2.1.below hwz hR.2.1.lt, hR.2.2.1.fs0 (by simp) (FS.below (row := Option.none) (n0 := 0) hwz), hR.2.2.2.trans (hwz.mono hR.2.2.2.size)⟩, FS.below hwz⟩ | exact ⟨⟨⟨B', d', rfl, hsl⟩, fun h => absurd h (by decide)⟩, ⟨hR.1.below hwz hR.1.lt, hR.2.1.below hwz hR.2.1.lt, hR.2.2.1.fs0 (by simp) (FS.below (row := Option.none) (n0 := 0) hwz), hR.2.2.2.trans (hwz.mono hR.2.2.2.size)⟩, FS.below hwz⟩ | exact ⟨⟨rfl, ⟨B', d', rfl, hsl⟩, fun h => absurd h (by decide)⟩, ⟨hR.1.below hwz hR.1.lt, hR.2.1.below hwz hR.2.1.lt, hR.2.2.1.fs0 (by simp) (FS.below (row := Option.none) (n0 := 0) hwz), hR.2.2.2.trans (hwz.mono hR.2.2.2.size)⟩, FS.below hwz⟩
        | 4, _, ho =>
          clear hsk
          cases ho
          have e2 : ev (.tmp 2) = I (k : Int) := hs 2 (by kernel_rfl)
          go_simp
          first | exact ⟨rfl, hR, FS.refl _ _ _ _⟩ | exact ⟨⟨rfl, rfl⟩, hR, FS.refl _ _ _ _⟩ | exact ⟨⟨rfl, fun h => absurd h (by decide)⟩, hR, FS.refl _ _ _ _⟩ | exact ⟨⟨rfl, rfl, fun h => absurd h (by decide)⟩, hR, FS.refl _ _ _ _⟩
        | 5, _, ho =>
          clear hsk
          cases ho
          have e11 : ev (.tmp 11) = .pointer (some ⟨q, 0, none⟩) := hs 11 (by kernel_rfl)
          go_simp
          first | exact ⟨rfl, hR, FS.refl _ _ _ _⟩ | exact ⟨⟨rfl, rfl⟩, hR, FS.refl _ _ _ _⟩ | exact ⟨⟨rfl, fun h => absurd h (by decide)⟩, hR, FS.refl _ _ _ _⟩ | exact ⟨⟨rfl, rfl, fun h => absurd h (by decide)⟩, hR, FS.refl _ _ _ _⟩
        | 6, _, ho =>
          clear hsk
          cases ho
          have e35 : ev (.tmp 35) = .pointer (some ⟨q, 1, none⟩) := hd 5 35 (by kernel_rfl)
          have m9 := hR.2.1.cell
          go_simp
          first | exact ⟨rfl, hR, FS.refl _ _ _ _⟩ | exact ⟨⟨rfl, rfl⟩, hR, FS.refl _ _ _ _⟩ | exact ⟨⟨rfl, fun h => absurd h (by decide)⟩, hR, FS.refl _ _ _ _⟩ | exact ⟨⟨rfl, rfl, fun h => absurd h (by decide)⟩, hR, FS.refl _ _ _ _⟩
        | 7, _, ho =>
          clear hsk
          cases ho
          have e3 : ev (.tmp 3) = I t := hs 3 (by kernel_rfl)
          go_simp
          first | exact ⟨rfl, hR, FS.refl _ _ _ _⟩ | exact ⟨⟨rfl, rfl⟩, hR, FS.refl _ _ _ _⟩ | exact ⟨⟨rfl, fun h => absurd h (by decide)⟩, hR, FS.refl _ _ _ _⟩ | exact ⟨⟨rfl, rfl, fun h => absurd h (by decide)⟩, hR, FS.refl _ _ _ _⟩
        | 8, _, ho =>
          clear hsk
          cases ho
          have e30 : ev (.tmp 30) = .agg #[I r, .slice (some ⟨b1, o1, none⟩) ws.length c] := hd 0 30 (by kernel_rfl)
          have e31 : ev (.tmp 31) = .slice (some ⟨b2, o2, none⟩) sts.length d := hd 1 31 (by kernel_rfl)
          obtain ⟨B', d', e33, hsl⟩ : ∃ B' d', ev (.tmp 33) = .slice B' (los ws).length d' ∧ SlI w' 3 B' (los ws) := hd 3 33 (by kernel_rfl)
          have e34 : ev (.tmp 34) = I (k : Int) := hd 4 34 (by kernel_rfl)
          have e36 : ev (.tmp 36) = I (gW ws k).hi := hd 6 36 (by kernel_rfl)
          have e37 : ev (.tmp 37) = I t := hd 7 37 (by kernel_rfl)
          go_simp
          refine (apartR_c r (some ⟨b1, o1, none⟩) (some ⟨b2, o2, none⟩) B' c d d' ws sts (los ws) k (gW ws k).hi t _ _ _ w' (h1.below hR.2.2.2 (Nat.le_refl _)) (Sl.below h2 hR.2.2.2 (Nat.le_refl _)) hsl hsl1 hkl hk0 h8 HLS.out (los_length ws) hst (by omega) (by omega) hlen).mono ?_
          rintro e wz ⟨rfl, hwz⟩
          first | exact ⟨rfl, ⟨hR.1.below hwz hR.1.lt, hR.2.1.below hwz hR.2.1.lt, hR.2.2.1.fs0 (by simp) (FS.below (row := Option.none) (n0 := 0) hwz), hR.2.2.2.trans (hwz.mono hR.2.2.2.size)⟩, FS.below hwz⟩ | exact ⟨⟨rfl, rfl⟩, ⟨hR.1.below hwz hR.1.lt, hR.2.1.below hwz hR.2.1.lt, hR.2.2.1.fs0 (by simp) (FS.below (row := Option.none) (n0 := 0) hwz), hR.2.2.2.trans (hwz.mono hR.2.2.2.size)⟩, FS.below hwz⟩ | exact ⟨⟨rfl, fun h => absurd h (by decide)⟩, ⟨hR.1.below hwz hR.1.lt, hR.2.1.below hwz hR.2.1.lt, hR.2.2.1.fs0 (by simp) (FS.below (row := Option.none) (n0 := 0) hwz), hR.2.2.2.trans (hwz.mono hR.2.2.2.size)⟩, FS.below hwz⟩ | exact ⟨⟨rfl, rfl, fun h => absurd h (by decide)⟩, ⟨hR.1.below hwz hR.1.lt, hR.2.1.below hwz hR.2.1.lt, hR.2.2.1.fs0 (by simp) (FS.below (row := Option.none) (n0 := 0) hwz), hR.2.2.2.trans (hwz.mono hR.2.2.2.size)⟩, FS.below hwz⟩
        | 9, _, ho =>
          clear hsk
          cases ho
          have e4 : ev (.tmp 4) = .pointer (some ⟨w.heap.size, 0, none⟩) := hs 4 (by kernel_rfl)
          have m4 := hR.1.cell
          go_simp
          first | exact ⟨rfl, hR, FS.refl _ _ _ _⟩ | exact ⟨⟨rfl, rfl⟩, hR, FS.refl _ _ _ _⟩ | exact ⟨⟨rfl, fun h => absurd h (by decide)⟩, hR, FS.refl _ _ _ _⟩ | exact ⟨⟨rfl, rfl, fun h => absurd h (by decide)⟩, hR, FS.refl _ _ _ _⟩
        | 10, _, ho =>
          clear hsk
          cases ho
          have e1 : ev (.tmp 1) = .slice (some ⟨b2, o2, none⟩) sts.length d := hs 1 (by kernel_rfl)
          go_simp
          first | exact ⟨rfl, hR, FS.refl _ _ _ _⟩ | exact ⟨⟨rfl, rfl⟩, hR, FS.refl _ _ _ _⟩ | exact ⟨⟨rfl, fun h => absurd h (by decide)⟩, hR, FS.refl _ _ _ _⟩ | exact ⟨⟨rfl, rfl, fun h => absurd h (by decide)⟩, hR, FS.refl _ _ _ _⟩
        | 11, _, ho =>
          clear hsk
          cases ho
          have e4 : ev (.tmp 4) = .pointer (some ⟨w.heap.size, 0, none⟩) := hs 4 (by kernel_rfl)
          have m4 := hR.1.cell
          go_simp
          first | exact ⟨rfl, hR, FS.refl _ _ _ _⟩ | exact ⟨⟨rfl, rfl⟩, hR, FS.refl _ _ _ _⟩ | exact ⟨⟨rfl, fun h => absurd h (by decide)⟩, hR, FS.refl _ _ _ _⟩ | exact ⟨⟨rfl, rfl, fun h => absurd h (by decide)⟩, hR, FS.refl _ _ _ _⟩
        | 12, _, ho =>
          clear hsk
          cases ho
          have e41 : ev (.tmp 41) = .agg #[I r, .slice (some ⟨b1, o1, none⟩) ws.length c] := hd 11 41 (by kernel_rfl)
          go_simp
          refine (fast_c r _ c ws _ w' (h1.below hR.2.2.2 (Nat.le_refl _)) (by omega)).mono ?_
          rintro e wz ⟨B', d', rfl, hsl, hwz⟩
          first | exact ⟨⟨B', d', rfl, hsl⟩, ⟨hR.1.below hwz hR.1.lt, hR.2.1.below hwz hR.2.1.lt, hR.2.2.1.fs0 (by simp) (FS.below (row := Option.none) (n0 := 0) hwz), hR.2.2.2.trans (hwz.mono hR.2.2.2.size)⟩, FS.below hwz⟩ | exact ⟨⟨rfl, ⟨B', d', rfl, hsl⟩⟩, ⟨hR.1.below hwz hR.1.lt, hR.2.1.below hwz hR.2.1.lt, hR.2.2.1.fs0 (by simp) (FS.below (row := Option.none) (n0 := 0) hwz), hR.2.2.2.trans (hwz.mono hR.2.2.2.size)⟩, FS.below hwz⟩ | exact ⟨⟨⟨B', d', rfl, hsl⟩, fun h => absurd h (by decide)⟩, ⟨hR.1.below hwz hR.1.lt, hR.2.1.below hwz hR.2.1.lt, hR.2.2.1.fs0 (by simp) (FS.below (row := Option.none) (n0 := 0) hwz), hR.2.2.2.trans (hwz.mono hR.2.2.2.size)⟩, FS.below hwz⟩ | exact ⟨⟨rfl, ⟨B', d', rfl, hsl⟩, fun h => absurd h (by decide)⟩, ⟨hR.1.below hwz hR.1.lt, hR.2.1.below hwz hR.2.1.lt, hR.2.2.1.fs0 (by simp) (FS.below (row := Option.none) (n0 := 0) hwz), hR.2.2.2.trans (hwz.mono hR.2.2.2.size)⟩, FS.below hwz⟩
        | 13, _, ho =>
          clear hsk
          cases ho
          have e2 : ev (.tmp 2) = I (k : Int) := hs 2 (by kernel_rfl)
          go_simp
          first | exact ⟨rfl, hR, FS.refl _ _ _ _⟩ | exact ⟨⟨rfl, rfl⟩, hR, FS.refl _ _ _ _⟩ | exact ⟨⟨rfl, fun h => absurd h (by decide)⟩, hR, FS.refl _ _ _ _⟩ | exact ⟨⟨rfl, rfl, fun h => absurd h (by decide)⟩, hR, FS.refl _ _ _ _⟩
        | 14, _, ho =>
          clear hsk
          cases ho
          have e11 : ev (.tmp 11) = .pointer (some ⟨q, 0, none⟩) := hs 11 (by kernel_rfl)
          go_simp
          first | exact ⟨rfl, hR, FS.refl _ _ _ _⟩ | exact ⟨⟨rfl, rfl⟩, hR, FS.refl _ _ _ _⟩ | exact ⟨⟨rfl, fun h => absurd h (by decide)⟩, hR, FS.refl _ _ _ _⟩ | exact ⟨⟨rfl, rfl, fun h => absurd h (by decide)⟩, hR, FS.refl _ _ _ _⟩
        | 15, _, ho =>
          clear hsk
          cases ho
          have e44 : ev (.tmp 44) = .pointer (some ⟨q, 0, none⟩) := hd 14 44 (by kernel_rfl)
          have m9 := hR.2.1.cell
          go_simp
          first | exact ⟨rfl, hR, FS.refl _ _ _ _⟩ | exact ⟨⟨rfl, rfl⟩, hR, FS.refl _ _ _ _⟩ | exact ⟨⟨rfl, fun h => absurd h (by decide)⟩, hR, FS.refl _ _ _ _⟩ | exact ⟨⟨rfl, rfl, fun h => absurd h (by decide)⟩, hR, FS.refl _ _ _ _⟩
        | 16, _, ho =>
          clear hsk
          cases ho
          have e3 : ev (.tmp 3) = I t := hs 3 (by kernel_rfl)
          go_simp
          first | exact ⟨rfl, hR, FS.refl _ _ _ _⟩ | exact ⟨⟨rfl, rfl⟩, hR, FS.refl _ _ _ _⟩ | exact ⟨⟨rfl, fun h => absurd h (by decide)⟩, hR, FS.refl _ _ _ _⟩ | exact ⟨⟨rfl, rfl, fun h => absurd h (by decide)⟩, hR, FS.refl _ _ _ _⟩
        | 17, _, ho =>
          clear hsk
          cases ho
          have e39 : ev (.tmp 39) = .agg #[I r, .slice (some ⟨b1, o1, none⟩) ws.length c] := hd 9 39 (by kernel_rfl)
          have e40 : ev (.tmp 40) = .slice (some ⟨b2, o2, none⟩) sts.length d := hd 10 40 (by kernel_rfl)
          obtain ⟨B', d', e42, hsl⟩ : ∃ B' d', ev (.tmp 42) = .slice B' (his ws).length d' ∧ SlI w' 3 B' (his ws) := hd 12 42 (by kernel_rfl)
          have e43 : ev (.tmp 43) = I (k : Int) := hd 13 43 (by kernel_rfl)
          have e45 : ev (.tmp 45) = I (gW ws k).lo := hd 15 45 (by kernel_rfl)
          have e46 : ev (.tmp 46) = I t := hd 16 46 (by kernel_rfl)
          go_simp
          refine (apartR_c r (some ⟨b1, o1, none⟩) (some ⟨b2, o2, none⟩) B' c d d' ws sts (his ws) k (gW ws k).lo t _ _ _ w' (h1.below hR.2.2.2 (Nat.le_refl _)) (Sl.below h2 hR.2.2.2 (Nat.le_refl _)) hsl hsh1 hkl hk0 h8 HLS.out (his_length ws) hst (by omega) (by omega) hlen).mono ?_
          rintro e wz ⟨rfl, hwz⟩
          first | exact ⟨rfl, ⟨hR.1.below hwz hR.1.lt, hR.2.1.below hwz hR.2.1.lt, hR.2.2.1.fs0 (by simp) (FS.below (row := Option.none) (n0 := 0) hwz), hR.2.2.2.trans (hwz.mono hR.2.2.2.size)⟩, FS.below hwz⟩ | exact ⟨⟨rfl, rfl⟩, ⟨hR.1.below hwz hR.1.lt, hR.2.1.below hwz hR.2.1.lt, hR.2.2.1.fs0 (by simp) (FS.below (row := Option.none) (n0 := 0) hwz), hR.2.2.2.trans (hwz.mono hR.2.2.2.size)⟩, FS.below hwz⟩ | exact ⟨⟨rfl, fun h => absurd h (by decide)⟩, ⟨hR.1.below hwz hR.1.lt, hR.2.1.below hwz hR.2.1.lt, hR.2.2.1.fs0 (by simp) (FS.below (row := Option.none) (n0 := 0) hwz), hR.2.2.2.trans (hwz.mono hR.2.2.2.size)⟩, FS.below hwz⟩ | exact ⟨⟨rfl, rfl, fun h => absurd h (by decide)⟩, ⟨hR.1.below hwz hR.1.lt, hR.2.1.below hwz hR.2.1.lt, hR.2.2.1.fs0 (by simp) (FS.below (row := Option.none) (n0 := 0) hwz), hR.2.2.2.trans (hwz.mono hR.2.2.2.size)⟩, FS.below hwz⟩
        | 18, _, ho =>
          clear hsk
          cases ho
          have e38 : ev (.tmp 38) = I (gapF ws sts (los ws) (gW ws k).hi t k) := hd 8 38 (by kernel_rfl)
          have e47 : ev (.tmp 47) = I (gapF ws sts (his ws) (gW ws k).lo t k) := hd 17 47 (by kernel_rfl)
          go_simp
          first | exact ⟨rfl, hR, FS.refl _ _ _ _⟩ | exact ⟨⟨rfl, rfl⟩, hR, FS.refl _ _ _ _⟩ | exact ⟨⟨rfl, fun h => absurd h (by decide)⟩, hR, FS.refl _ _ _ _⟩ | exact ⟨⟨rfl, rfl, fun h => absurd h (by decide)⟩, hR, FS.refl _ _ _ _⟩
        | 19, _, ho =>
          clear hsk
          cases ho
          have e8 : ev (.tmp 8) = .pointer (some ⟨w.heap.size + 1, 0, none⟩) := hs 8 (by kernel_rfl)
          have e48 : ev (.tmp 48) = Sp (gapF ws sts (los ws) (gW ws k).hi t k) (gapF ws sts (his ws) (gW ws k).lo t k) := hd 18 48 (by kernel_rfl)
          have hin := hR.2.2.1
          obtain ⟨x0, y0, _, hbx⟩ := hR.2.2.1
          have hcx := hbx.cell
          have hfx := hbx.free
          have hP : (fun x' y' : Int => x' = gapF ws sts (los ws) (gW ws k).hi t k ∧ y' = gapF ws sts (his ws) (gW ws k).lo t k) (gapF ws sts (los ws) (gW ws k).hi t k) (gapF ws sts (his ws) (gW ws k).lo t k) := ⟨rfl, rfl⟩
          have hput := hin.put hP
          go_simp
          first | exact ⟨⟨rfl, fun t ht => hput⟩, ⟨(hR.1.far (p := ⟨w.heap.size + 1, 0, none⟩) (by simp only []; omega) _).far (p := ⟨w.heap.size + 1, 1, none⟩) (by simp only []; omega) _, (hR.2.1.far (p := ⟨w.heap.size + 1, 0, none⟩) hq8 _).far (p := ⟨w.heap.size + 1, 1, none⟩) hq8 _, hput.now, below_put hR.2.2.2 (by omega) _ _⟩, FS.put (Nat.le_refl _) hin hP⟩ | exact ⟨fun t ht => hput, ⟨(hR.1.far (p := ⟨w.heap.size + 1, 0, none⟩) (by simp only []; omega) _).far (p := ⟨w.heap.size + 1, 1, none⟩) (by simp only []; omega) _, (hR.2.1.far (p := ⟨w.heap.size + 1, 0, none⟩) hq8 _).far (p := ⟨w.heap.size + 1, 1, none⟩) hq8 _, hput.now, below_put hR.2.2.2 (by omega) _ _⟩, FS.put (Nat.le_refl _) hin hP⟩ | exact ⟨hput, ⟨(hR.1.far (p := ⟨w.heap.size + 1, 0, none⟩) (by simp only []; omega) _).far (p := ⟨w.heap.size + 1, 1, none⟩) (by simp only []; omega) _, (hR.2.1.far (p := ⟨w.heap.size + 1, 0, none⟩) hq8 _).far (p := ⟨w.heap.size + 1, 1, none⟩) hq8 _, hput.now, below_put hR.2.2.2 (by omega) _ _⟩, FS.put (Nat.le_refl _) hin hP⟩
        | 20, _, ho =>
          clear hsk
          cases ho
          go_simp
          first | exact ⟨rfl, hR, FS.refl _ _ _ _⟩ | exact ⟨⟨rfl, rfl⟩, hR, FS.refl _ _ _ _⟩ | exact ⟨⟨rfl, fun h => absurd h (by decide)⟩, hR, FS.refl _ _ _ _⟩ | exact ⟨⟨rfl, rfl, fun h => absurd h (by decide)⟩, hR, FS.refl _ _ _ _⟩
        | n + 21, hi, _ => exact absurd hi (by simp)
      intro ρ w2 hR hρ hne K hK
      obtain ⟨_, _, ⟨rfl, rfl⟩, z8⟩ : SpB (fun x' y' : Int => x' = gapF ws sts (los ws) (gW ws k).hi t k ∧ y' = gapF ws sts (his ws) (gW ws k).lo t k) w2 (w.heap.size + 1) := hρ 19 (by simp)
      have p20 : ρ 20 = I 0 := hρ 20 (by simp)
      show K (putAll _ _ ρ 21) _
      simp only [putAll, dOf, List.getElem?_toArray, List.getElem?_cons_zero, List.getElem?_cons_succ, Option.bind_some, Act.put, List.setIfInBounds_toArray, List.set_cons_zero, List.set_cons_succ]
      rw [p20]
      refine hK _ _ ?_
      change wpList _ _ _ [] _ _
      obtain ⟨_, _, _, hB3⟩ := hR
      clear hK K p20 hρ hne X Y Q hB2
      have hcz := z8.cell
      go_wp2_with fail
      refine bodyPost_ret (v := .tuple #[Sp (gapF ws sts (los ws) (gW ws k).hi t k) (gapF ws sts (his ws) (gW ws k).lo t k), I 0]) (by simp [results, Try.results41, go_sem, hcz]) rfl ⟨?_, hB3⟩
      have e1 := E1.out
      unfold gaLo gaHi
      rw [e1, if_pos rfl, if_pos rfl, Int.toNat_natCast]
  · have hz : (mom r ws sts wing t != 0) = true := by simp [a1]
    have E1 := Lib.hid (gaE_m a1)
    have A1 := Lib.hid a1
    clear a1
    go_wp2_with fail
    refine bodyPost_ret (v := .tuple #[Sp 0 0, I (mom r ws sts wing t)]) (by simp [results, Try.results41, go_sem, hcz]) rfl ⟨?_, below_put hWb (by omega) _ _⟩
    unfold gaLo gaHi
    rw [E1.out, if_neg A1.out, if_neg A1.out]
end
end Go.Proofs.Ytnihkgdkdinliaa
