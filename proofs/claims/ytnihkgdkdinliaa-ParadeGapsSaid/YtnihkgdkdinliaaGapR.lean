/- Gaps as the reference finds them. Own work. -/
import Derived.Test.YtnihkgdkdinliaaOpens
import Derived.Test.YtnihkgdkdinliaaRefA
namespace Go.Proofs.Ytnihkgdkdinliaa
open Go.RowKit
set_option linter.unusedVariables false
set_option linter.unusedSimpArgs false

/-- A slice of these numbers. -/
def asIs (R : World → Prop) (zs : List Int) : As R FB := ⟨fun v w => ∃ B d, v = .slice B zs.length d ∧ SlI w 3 B zs, fun _ _ _ _ _ hF ⟨B, d, e, h⟩ => ⟨B, d, e, Sl.below h hF (Nat.le_refl _)⟩⟩
theorem pkN_congr {f g : Int → Int} : ∀ (n : Nat) (s : Int), (∀ t : Nat, f (s + t + 1) ≤ f (s + t) ↔ g (s + t + 1) ≤ g (s + t)) → pkN f s n = pkN g s n := by
  intro n
  induction n with
  | zero => intro s _; rfl
  | succ n ih =>
    intro s h
    have h0 := h 0
    simp at h0
    unfold pkN
    have e := ih (s + 1) fun t => by
      have := h (t + 1)
      rw [show s + ((t + 1 : Nat) : Int) = s + 1 + t by omega] at this
      exact this
    rw [e]
    by_cases c : f (s + 1) ≤ f s
    · rw [if_pos c, if_pos (h0.1 c)]
    · rw [if_neg c, if_neg (fun h => c (h0.2 h))]

set_option maxRecDepth 100000 in
set_option maxHeartbeats 1000000 in
theorem ahead_c (r : Int) (A B C : Option Addr) (c cb cc : Nat) (ws : List Wg) (sts ps : List Int) (k : Nat) (p t : Int) (T1 T2 T3 : TypeId) (w : World)
    (h1 : SlW w T1 A ws) (h2 : SlI w T2 B sts) (h3 : SlI w T3 C ps) (hsm : Sm ws sts ps (k - 1)) (hk : k < ws.length) (h0 : k ≠ 0) (h8 : ws.length ≤ 8) (hls : sts.length = ws.length) (hlp : ps.length = ws.length) (hst : 0 ≤ gI sts k ∧ gI sts k ≤ 20000)
    (hp : 0 ≤ p ∧ p ≤ 1000) (ht : -1000000 ≤ t ∧ t ≤ 1000000) (hlen : 0 ≤ (gW ws (k - 1)).len ∧ (gW ws (k - 1)).len ≤ 1000000) :
    Calls Try.prog 109 #[.agg #[I r, .slice A ws.length c], .slice B sts.length cb, .slice C ps.length cc, I (k : Int), I p, I t] w fun e w' => e = .returned (I (ahF ws sts ps p t k)) ∧ Below w.heap.size w w' := by
  have hfb := front_bd hsm ht.1 ht.2 (k - 1) (Nat.le_refl _)
  have hmb := mul_bd (a := p) (b := t - gI sts k) (A := 1000) (B := 2000000) hp.1 hp.2 (by omega) (by omega)
  obtain ⟨b1, o1, rfl, _⟩ := SlW.some_ h1 hk
  obtain ⟨b2, o2, rfl, _⟩ := SlI.some_ h2 (show k < sts.length by omega)
  have x0 := Bx.new w 24 #[I r, .slice (some ⟨b1, o1, none⟩) ws.length c]
  have hB := (Below.refl w.heap.size w).alloc (Nat.le_refl _) (.cells #[I r, .slice (some ⟨b1, o1, none⟩) ws.length c] 24)
  have hkss : k < sts.length := by omega
  have HLS := Lib.hid hls
  have HLP := Lib.hid hlp
  clear hls hlp
  unfold ahF
  go_enter Try.func109, Try.ntmps109
  go_wp2_with fail
  refine wp_region_list_s (by kernel_rfl) (R := (fun w' => Bx w' w.heap.size 24 #[I r, .slice (some ⟨b1, o1, none⟩) ws.length c] ∧ Below w.heap.size w w')) (F := FB) [] [] []
      [As.is _ _ (.agg #[I r, .slice (some ⟨b1, o1, none⟩) ws.length c]),
      As.is _ _ (.slice (some ⟨b2, o2, none⟩) sts.length cb),
      As.is _ _ (.slice C ps.length cc),
      As.is _ _ (I (k : Int)),
      As.is _ _ (I ((k - 1 : Nat) : Int)),
      As.is _ _ (I t),
      As.is _ _ (I (front ws sts ps t (k - 1))),
      As.is _ _ (.pointer (some ⟨w.heap.size, 1, none⟩)),
      As.is _ _ (.slice (some ⟨b1, o1, none⟩) ws.length c),
      As.is _ _ (I (k : Int)),
      As.is _ _ (I ((k - 1 : Nat) : Int)),
      As.is _ _ (.pointer (some ⟨b1, o1 + (k - 1) * 4, none⟩)),
      As.is _ _ (.pointer (some ⟨b1, o1 + (k - 1) * 4 + 1, none⟩)),
      As.is _ _ (I (gW ws (k - 1)).len),
      As.is _ _ (I (front ws sts ps t (k - 1) - (gW ws (k - 1)).len)),
      As.is _ _ (I p),
      As.is _ _ (I t),
      As.is _ _ (.slice (some ⟨b2, o2, none⟩) sts.length cb),
      As.is _ _ (I (k : Int)),
      As.is _ _ (.pointer (some ⟨b2, o2 + k, none⟩)),
      As.is _ _ (I (gI sts k)),
      As.is _ _ (I (t - gI sts k)),
      As.is _ _ (I (p * (t - gI sts k))),
      As.is _ _ (I (front ws sts ps t (k - 1) - (gW ws (k - 1)).len - p * (t - gI sts k))),
      As.is _ _ (I (front ws sts ps t (k - 1) - (gW ws (k - 1)).len - p * (t - gI sts k)))] 37 (by kernel_rfl) rfl (⟨x0.below (Below.refl _ _).drew x0.lt, hB.drew⟩) (by simp) (by simp) ?_ (fun _ => Below.refl _ _) ?_ ?_ ?_
  · intro i' hi' o' ho k' b' hg u w' hR hu
    match i', hi', ho with
    | 0, _, ho => cases ho; cases hg
    | 1, _, ho => cases ho; cases hg
    | 2, _, ho => cases ho; cases hg
    | 3, _, ho => cases ho; cases hg
    | 4, _, ho => cases ho; cases hg
    | 5, _, ho => cases ho; cases hg
    | 6, _, ho => cases ho; cases hg
    | 7, _, ho => cases ho; cases hg
    | 8, _, ho => cases ho; cases hg
    | 9, _, ho => cases ho; cases hg
    | 10, _, ho => cases ho; cases hg
    | 11, _, ho => cases ho; cases hg
    | 12, _, ho => cases ho; cases hg
    | 13, _, ho => cases ho; cases hg
    | 14, _, ho => cases ho; cases hg
    | 15, _, ho => cases ho; cases hg
    | 16, _, ho => cases ho; cases hg
    | 17, _, ho => cases ho; cases hg
    | 18, _, ho => cases ho; cases hg
    | 19, _, ho => cases ho; cases hg
    | 20, _, ho => cases ho; cases hg
    | 21, _, ho => cases ho; cases hg
    | 22, _, ho => cases ho; cases hg
    | 23, _, ho => cases ho; cases hg
    | 24, _, ho => cases ho; cases hg
    | n + 25, hi, _ => exact absurd hi (by simp)
  · intro i' hi' hsk; cases hsk
  · intro i' hi' hsk o' ho ev w' hR hc hf hg hs hd
    match i', hi', ho with
    | 0, _, ho =>
      clear hsk
      cases ho
      have e6 : ev (.tmp 6) = .pointer (some ⟨w.heap.size, 0, none⟩) := hs 6 (by kernel_rfl)
      have m4 := hR.1.cell
      go_simp
      first | exact ⟨rfl, hR, Below.refl _ _⟩ | exact ⟨⟨rfl, rfl⟩, hR, Below.refl _ _⟩ | exact ⟨⟨rfl, fun h => absurd h (by decide)⟩, hR, Below.refl _ _⟩ | exact ⟨⟨rfl, rfl, fun h => absurd h (by decide)⟩, hR, Below.refl _ _⟩
    | 1, _, ho =>
      clear hsk
      cases ho
      have e1 : ev (.tmp 1) = .slice (some ⟨b2, o2, none⟩) sts.length cb := hs 1 (by kernel_rfl)
      go_simp
      first | exact ⟨rfl, hR, Below.refl _ _⟩ | exact ⟨⟨rfl, rfl⟩, hR, Below.refl _ _⟩ | exact ⟨⟨rfl, fun h => absurd h (by decide)⟩, hR, Below.refl _ _⟩ | exact ⟨⟨rfl, rfl, fun h => absurd h (by decide)⟩, hR, Below.refl _ _⟩
    | 2, _, ho =>
      clear hsk
      cases ho
      have e2 : ev (.tmp 2) = .slice C ps.length cc := hs 2 (by kernel_rfl)
      go_simp
      first | exact ⟨rfl, hR, Below.refl _ _⟩ | exact ⟨⟨rfl, rfl⟩, hR, Below.refl _ _⟩ | exact ⟨⟨rfl, fun h => absurd h (by decide)⟩, hR, Below.refl _ _⟩ | exact ⟨⟨rfl, rfl, fun h => absurd h (by decide)⟩, hR, Below.refl _ _⟩
    | 3, _, ho =>
      clear hsk
      cases ho
      have e3 : ev (.tmp 3) = I (k : Int) := hs 3 (by kernel_rfl)
      go_simp
      first | exact ⟨rfl, hR, Below.refl _ _⟩ | exact ⟨⟨rfl, rfl⟩, hR, Below.refl _ _⟩ | exact ⟨⟨rfl, fun h => absurd h (by decide)⟩, hR, Below.refl _ _⟩ | exact ⟨⟨rfl, rfl, fun h => absurd h (by decide)⟩, hR, Below.refl _ _⟩
    | 4, _, ho =>
      clear hsk
      cases ho
      have e16 : ev (.tmp 16) = I (k : Int) := hd 3 16 (by kernel_rfl)
      have ew : IntKind.i64.wrap ((k : Int) - 1) = ((k - 1 : Nat) : Int) := by rw [IntWalk.i64_in _ (by omega)]; omega
      go_simp
      first | exact ⟨rfl, hR, Below.refl _ _⟩ | exact ⟨⟨rfl, rfl⟩, hR, Below.refl _ _⟩ | exact ⟨⟨rfl, fun h => absurd h (by decide)⟩, hR, Below.refl _ _⟩ | exact ⟨⟨rfl, rfl, fun h => absurd h (by decide)⟩, hR, Below.refl _ _⟩
    | 5, _, ho =>
      clear hsk
      cases ho
      have e5 : ev (.tmp 5) = I t := hs 5 (by kernel_rfl)
      go_simp
      first | exact ⟨rfl, hR, Below.refl _ _⟩ | exact ⟨⟨rfl, rfl⟩, hR, Below.refl _ _⟩ | exact ⟨⟨rfl, fun h => absurd h (by decide)⟩, hR, Below.refl _ _⟩ | exact ⟨⟨rfl, rfl, fun h => absurd h (by decide)⟩, hR, Below.refl _ _⟩
    | 6, _, ho =>
      clear hsk
      cases ho
      have e13 : ev (.tmp 13) = .agg #[I r, .slice (some ⟨b1, o1, none⟩) ws.length c] := hd 0 13 (by kernel_rfl)
      have e14 : ev (.tmp 14) = .slice (some ⟨b2, o2, none⟩) sts.length cb := hd 1 14 (by kernel_rfl)
      have e15 : ev (.tmp 15) = .slice C ps.length cc := hd 2 15 (by kernel_rfl)
      have e17 : ev (.tmp 17) = I ((k - 1 : Nat) : Int) := hd 4 17 (by kernel_rfl)
      have e18 : ev (.tmp 18) = I t := hd 5 18 (by kernel_rfl)
      go_simp
      refine (front_c r (some ⟨b1, o1, none⟩) (some ⟨b2, o2, none⟩) C c cb cc ws sts ps (k - 1) t _ _ _ w' (h1.below hR.2 (Nat.le_refl _)) (Sl.below h2 hR.2 (Nat.le_refl _)) (Sl.below h3 hR.2 (Nat.le_refl _)) hsm ht.1 ht.2 (by omega) (by unfold maxLen; have := HLS.out; omega) (by have := HLP.out; omega)).mono ?_
      rintro e wz ⟨rfl, hwz⟩
      first | exact ⟨rfl, ⟨hR.1.below hwz hR.1.lt, hR.2.trans (hwz.mono hR.2.size)⟩, hwz⟩ | exact ⟨⟨rfl, rfl⟩, ⟨hR.1.below hwz hR.1.lt, hR.2.trans (hwz.mono hR.2.size)⟩, hwz⟩ | exact ⟨⟨rfl, fun h => absurd h (by decide)⟩, ⟨hR.1.below hwz hR.1.lt, hR.2.trans (hwz.mono hR.2.size)⟩, hwz⟩ | exact ⟨⟨rfl, rfl, fun h => absurd h (by decide)⟩, ⟨hR.1.below hwz hR.1.lt, hR.2.trans (hwz.mono hR.2.size)⟩, hwz⟩
    | 7, _, ho =>
      clear hsk
      cases ho
      have e6 : ev (.tmp 6) = .pointer (some ⟨w.heap.size, 0, none⟩) := hs 6 (by kernel_rfl)
      go_simp
      first | exact ⟨rfl, hR, Below.refl _ _⟩ | exact ⟨⟨rfl, rfl⟩, hR, Below.refl _ _⟩ | exact ⟨⟨rfl, fun h => absurd h (by decide)⟩, hR, Below.refl _ _⟩ | exact ⟨⟨rfl, rfl, fun h => absurd h (by decide)⟩, hR, Below.refl _ _⟩
    | 8, _, ho =>
      clear hsk
      cases ho
      have e20 : ev (.tmp 20) = .pointer (some ⟨w.heap.size, 1, none⟩) := hd 7 20 (by kernel_rfl)
      have m4 := hR.1.cell
      go_simp
      first | exact ⟨rfl, hR, Below.refl _ _⟩ | exact ⟨⟨rfl, rfl⟩, hR, Below.refl _ _⟩ | exact ⟨⟨rfl, fun h => absurd h (by decide)⟩, hR, Below.refl _ _⟩ | exact ⟨⟨rfl, rfl, fun h => absurd h (by decide)⟩, hR, Below.refl _ _⟩
    | 9, _, ho =>
      clear hsk
      cases ho
      have e3 : ev (.tmp 3) = I (k : Int) := hs 3 (by kernel_rfl)
      go_simp
      first | exact ⟨rfl, hR, Below.refl _ _⟩ | exact ⟨⟨rfl, rfl⟩, hR, Below.refl _ _⟩ | exact ⟨⟨rfl, fun h => absurd h (by decide)⟩, hR, Below.refl _ _⟩ | exact ⟨⟨rfl, rfl, fun h => absurd h (by decide)⟩, hR, Below.refl _ _⟩
    | 10, _, ho =>
      clear hsk
      cases ho
      have e22 : ev (.tmp 22) = I (k : Int) := hd 9 22 (by kernel_rfl)
      have ew : IntKind.i64.wrap ((k : Int) - 1) = ((k - 1 : Nat) : Int) := by rw [IntWalk.i64_in _ (by omega)]; omega
      go_simp
      first | exact ⟨rfl, hR, Below.refl _ _⟩ | exact ⟨⟨rfl, rfl⟩, hR, Below.refl _ _⟩ | exact ⟨⟨rfl, fun h => absurd h (by decide)⟩, hR, Below.refl _ _⟩ | exact ⟨⟨rfl, rfl, fun h => absurd h (by decide)⟩, hR, Below.refl _ _⟩
    | 11, _, ho =>
      clear hsk
      cases ho
      have e21 : ev (.tmp 21) = .slice (some ⟨b1, o1, none⟩) ws.length c := hd 8 21 (by kernel_rfl)
      have e23 : ev (.tmp 23) = I ((k - 1 : Nat) : Int) := hd 10 23 (by kernel_rfl)
      have hkl : ((k - 1 : Nat) : Int) < (ws.length : Int) := by omega
      have hkl' : k - 1 < ws.length := by omega
      go_simp
      first | exact ⟨rfl, hR, Below.refl _ _⟩ | exact ⟨⟨rfl, rfl⟩, hR, Below.refl _ _⟩ | exact ⟨⟨rfl, fun h => absurd h (by decide)⟩, hR, Below.refl _ _⟩ | exact ⟨⟨rfl, rfl, fun h => absurd h (by decide)⟩, hR, Below.refl _ _⟩
    | 12, _, ho =>
      clear hsk
      cases ho
      have e24 : ev (.tmp 24) = .pointer (some ⟨b1, o1 + (k - 1) * 4, none⟩) := hd 11 24 (by kernel_rfl)
      go_simp
      first | exact ⟨rfl, hR, Below.refl _ _⟩ | exact ⟨⟨rfl, rfl⟩, hR, Below.refl _ _⟩ | exact ⟨⟨rfl, fun h => absurd h (by decide)⟩, hR, Below.refl _ _⟩ | exact ⟨⟨rfl, rfl, fun h => absurd h (by decide)⟩, hR, Below.refl _ _⟩
    | 13, _, ho =>
      clear hsk
      cases ho
      have e25 : ev (.tmp 25) = .pointer (some ⟨b1, o1 + (k - 1) * 4 + 1, none⟩) := hd 12 25 (by kernel_rfl)
      have m6 := (SlW.cellG (h1.below hR.2 (Nat.le_refl _)) (show k - 1 < ws.length by omega)).2.1
      go_simp
      first | exact ⟨rfl, hR, Below.refl _ _⟩ | exact ⟨⟨rfl, rfl⟩, hR, Below.refl _ _⟩ | exact ⟨⟨rfl, fun h => absurd h (by decide)⟩, hR, Below.refl _ _⟩ | exact ⟨⟨rfl, rfl, fun h => absurd h (by decide)⟩, hR, Below.refl _ _⟩
    | 14, _, ho =>
      clear hsk
      cases ho
      have e19 : ev (.tmp 19) = I (front ws sts ps t (k - 1)) := hd 6 19 (by kernel_rfl)
      have e26 : ev (.tmp 26) = I (gW ws (k - 1)).len := hd 13 26 (by kernel_rfl)
      have ew : IntKind.i64.wrap (front ws sts ps t (k - 1) - (gW ws (k - 1)).len) = front ws sts ps t (k - 1) - (gW ws (k - 1)).len := IntWalk.i64_in _ (by omega)
      go_simp
      first | exact ⟨rfl, hR, Below.refl _ _⟩ | exact ⟨⟨rfl, rfl⟩, hR, Below.refl _ _⟩ | exact ⟨⟨rfl, fun h => absurd h (by decide)⟩, hR, Below.refl _ _⟩ | exact ⟨⟨rfl, rfl, fun h => absurd h (by decide)⟩, hR, Below.refl _ _⟩
    | 15, _, ho =>
      clear hsk
      cases ho
      have e4 : ev (.tmp 4) = I p := hs 4 (by kernel_rfl)
      go_simp
      first | exact ⟨rfl, hR, Below.refl _ _⟩ | exact ⟨⟨rfl, rfl⟩, hR, Below.refl _ _⟩ | exact ⟨⟨rfl, fun h => absurd h (by decide)⟩, hR, Below.refl _ _⟩ | exact ⟨⟨rfl, rfl, fun h => absurd h (by decide)⟩, hR, Below.refl _ _⟩
    | 16, _, ho =>
      clear hsk
      cases ho
      have e5 : ev (.tmp 5) = I t := hs 5 (by kernel_rfl)
      go_simp
      first | exact ⟨rfl, hR, Below.refl _ _⟩ | exact ⟨⟨rfl, rfl⟩, hR, Below.refl _ _⟩ | exact ⟨⟨rfl, fun h => absurd h (by decide)⟩, hR, Below.refl _ _⟩ | exact ⟨⟨rfl, rfl, fun h => absurd h (by decide)⟩, hR, Below.refl _ _⟩
    | 17, _, ho =>
      clear hsk
      cases ho
      have e1 : ev (.tmp 1) = .slice (some ⟨b2, o2, none⟩) sts.length cb := hs 1 (by kernel_rfl)
      go_simp
      first | exact ⟨rfl, hR, Below.refl _ _⟩ | exact ⟨⟨rfl, rfl⟩, hR, Below.refl _ _⟩ | exact ⟨⟨rfl, fun h => absurd h (by decide)⟩, hR, Below.refl _ _⟩ | exact ⟨⟨rfl, rfl, fun h => absurd h (by decide)⟩, hR, Below.refl _ _⟩
    | 18, _, ho =>
      clear hsk
      cases ho
      have e3 : ev (.tmp 3) = I (k : Int) := hs 3 (by kernel_rfl)
      go_simp
      first | exact ⟨rfl, hR, Below.refl _ _⟩ | exact ⟨⟨rfl, rfl⟩, hR, Below.refl _ _⟩ | exact ⟨⟨rfl, fun h => absurd h (by decide)⟩, hR, Below.refl _ _⟩ | exact ⟨⟨rfl, rfl, fun h => absurd h (by decide)⟩, hR, Below.refl _ _⟩
    | 19, _, ho =>
      clear hsk
      cases ho
      have e30 : ev (.tmp 30) = .slice (some ⟨b2, o2, none⟩) sts.length cb := hd 17 30 (by kernel_rfl)
      have e31 : ev (.tmp 31) = I (k : Int) := hd 18 31 (by kernel_rfl)
      have hks : (k : Int) < (sts.length : Int) := by omega
      have hkn : k < sts.length := by omega
      go_simp
      first | exact ⟨rfl, hR, Below.refl _ _⟩ | exact ⟨⟨rfl, rfl⟩, hR, Below.refl _ _⟩ | exact ⟨⟨rfl, fun h => absurd h (by decide)⟩, hR, Below.refl _ _⟩ | exact ⟨⟨rfl, rfl, fun h => absurd h (by decide)⟩, hR, Below.refl _ _⟩
    | 20, _, ho =>
      clear hsk
      cases ho
      have e32 : ev (.tmp 32) = .pointer (some ⟨b2, o2 + k, none⟩) := hd 19 32 (by kernel_rfl)
      have m2 := SlI.cellG (Sl.below h2 hR.2 (Nat.le_refl _)) hkss
      go_simp
      first | exact ⟨rfl, hR, Below.refl _ _⟩ | exact ⟨⟨rfl, rfl⟩, hR, Below.refl _ _⟩ | exact ⟨⟨rfl, fun h => absurd h (by decide)⟩, hR, Below.refl _ _⟩ | exact ⟨⟨rfl, rfl, fun h => absurd h (by decide)⟩, hR, Below.refl _ _⟩
    | 21, _, ho =>
      clear hsk
      cases ho
      have e29 : ev (.tmp 29) = I t := hd 16 29 (by kernel_rfl)
      have e33 : ev (.tmp 33) = I (gI sts k) := hd 20 33 (by kernel_rfl)
      have ew : IntKind.i64.wrap (t - gI sts k) = t - gI sts k := IntWalk.i64_in _ (by omega)
      go_simp
      first | exact ⟨rfl, hR, Below.refl _ _⟩ | exact ⟨⟨rfl, rfl⟩, hR, Below.refl _ _⟩ | exact ⟨⟨rfl, fun h => absurd h (by decide)⟩, hR, Below.refl _ _⟩ | exact ⟨⟨rfl, rfl, fun h => absurd h (by decide)⟩, hR, Below.refl _ _⟩
    | 22, _, ho =>
      clear hsk
      cases ho
      have e28 : ev (.tmp 28) = I p := hd 15 28 (by kernel_rfl)
      have e34 : ev (.tmp 34) = I (t - gI sts k) := hd 21 34 (by kernel_rfl)
      have ew : IntKind.i64.wrap (p * (t - gI sts k)) = p * (t - gI sts k) := IntWalk.i64_in _ (by omega)
      go_simp
      first | exact ⟨rfl, hR, Below.refl _ _⟩ | exact ⟨⟨rfl, rfl⟩, hR, Below.refl _ _⟩ | exact ⟨⟨rfl, fun h => absurd h (by decide)⟩, hR, Below.refl _ _⟩ | exact ⟨⟨rfl, rfl, fun h => absurd h (by decide)⟩, hR, Below.refl _ _⟩
    | 23, _, ho =>
      clear hsk
      cases ho
      have e27 : ev (.tmp 27) = I (front ws sts ps t (k - 1) - (gW ws (k - 1)).len) := hd 14 27 (by kernel_rfl)
      have e35 : ev (.tmp 35) = I (p * (t - gI sts k)) := hd 22 35 (by kernel_rfl)
      have ew : IntKind.i64.wrap (front ws sts ps t (k - 1) - (gW ws (k - 1)).len - p * (t - gI sts k)) = front ws sts ps t (k - 1) - (gW ws (k - 1)).len - p * (t - gI sts k) := IntWalk.i64_in _ (by omega)
      go_simp
      first | exact ⟨rfl, hR, Below.refl _ _⟩ | exact ⟨⟨rfl, rfl⟩, hR, Below.refl _ _⟩ | exact ⟨⟨rfl, fun h => absurd h (by decide)⟩, hR, Below.refl _ _⟩ | exact ⟨⟨rfl, rfl, fun h => absurd h (by decide)⟩, hR, Below.refl _ _⟩
    | 24, _, ho =>
      clear hsk
      cases ho
      have e36 : ev (.tmp 36) = I (front ws sts ps t (k - 1) - (gW ws (k - 1)).len - p * (t - gI sts k)) := hd 23 36 (by kernel_rfl)
      go_simp
      first | exact ⟨rfl, hR, Below.refl _ _⟩ | exact ⟨⟨rfl, rfl⟩, hR, Below.refl _ _⟩ | exact ⟨⟨rfl, fun h => absurd h (by decide)⟩, hR, Below.refl _ _⟩ | exact ⟨⟨rfl, rfl, fun h => absurd h (by decide)⟩, hR, Below.refl _ _⟩
    | n + 25, hi, _ => exact absurd hi (by simp)
  intro ρ wE hR hρ hne K hK
  have p24 : ρ 24 = I (front ws sts ps t (k - 1) - (gW ws (k - 1)).len - p * (t - gI sts k)) := hρ 24 (by simp)
  show K (putAll _ _ ρ 25) _
  simp only [putAll, dOf, List.getElem?_toArray, List.getElem?_cons_zero, List.getElem?_cons_succ, Option.bind_some, Act.put, List.setIfInBounds_toArray, List.set_cons_zero, List.set_cons_succ]
  rw [p24]
  refine hK _ _ ?_
  change wpList _ _ _ [] _ _
  obtain ⟨_, hB1⟩ := hR
  clear hK K p24 hρ hne
  go_wp2
  go_ret
  exact ⟨rfl, hB1⟩

set_option maxRecDepth 100000 in
set_option maxHeartbeats 1000000 in
theorem apartR_c (r : Int) (A B C : Option Addr) (c cb cc : Nat) (ws : List Wg) (sts ps : List Int) (k : Nat) (p t : Int) (T1 T2 T3 : TypeId) (w : World)
    (h1 : SlW w T1 A ws) (h2 : SlI w T2 B sts) (h3 : SlI w T3 C ps) (hsm : Sm ws sts ps (k - 1)) (hk : k < ws.length) (h0 : k ≠ 0) (h8 : ws.length ≤ 8) (hls : sts.length = ws.length) (hlp : ps.length = ws.length) (hst : 0 ≤ gI sts k ∧ gI sts k ≤ 20000)
    (hp : 0 ≤ p ∧ p ≤ 1000) (ht : -1000000 ≤ t ∧ t ≤ 1000000) (hlen : 0 ≤ (gW ws (k - 1)).len ∧ (gW ws (k - 1)).len ≤ 1000000) :
    Calls Try.prog 87 #[.agg #[I r, .slice A ws.length c], .slice B sts.length cb, .slice C ps.length cc, I (k : Int), I p, I t] w fun e w' => e = .returned (I (gapF ws sts ps p t k)) ∧ Below w.heap.size w w' := by
  have hfb := front_bd hsm ht.1 ht.2 (k - 1) (Nat.le_refl _)
  have hmb := mul_bd (a := p) (b := t - gI sts k) (A := 1000) (B := 2000000) hp.1 hp.2 (by omega) (by omega)
  obtain ⟨b1, o1, rfl, _⟩ := SlW.some_ h1 hk
  obtain ⟨b2, o2, rfl, _⟩ := SlI.some_ h2 (show k < sts.length by omega)
  have x0 := Bx.new w 24 #[I r, .slice (some ⟨b1, o1, none⟩) ws.length c]
  have hB := (Below.refl w.heap.size w).alloc (Nat.le_refl _) (.cells #[I r, .slice (some ⟨b1, o1, none⟩) ws.length c] 24)
  have hkss : k < sts.length := by omega
  have HLS := Lib.hid hls
  have HLP := Lib.hid hlp
  clear hls hlp
  go_enter Try.func87, Try.ntmps87
  go_wp2_with fail
  refine wp_region_list_s (by kernel_rfl) (R := (fun w' => Bx w' w.heap.size 24 #[I r, .slice (some ⟨b1, o1, none⟩) ws.length c] ∧ Below w.heap.size w w')) (F := FB) [] [] []
      [As.is _ _ (.agg #[I r, .slice (some ⟨b1, o1, none⟩) ws.length c]),
      As.is _ _ (.slice (some ⟨b2, o2, none⟩) sts.length cb),
      As.is _ _ (.slice C ps.length cc),
      As.is _ _ (I (k : Int)),
      As.is _ _ (I ((k - 1 : Nat) : Int)),
      As.is _ _ (I t),
      As.is _ _ (I (front ws sts ps t (k - 1))),
      As.is _ _ (.pointer (some ⟨w.heap.size, 1, none⟩)),
      As.is _ _ (.slice (some ⟨b1, o1, none⟩) ws.length c),
      As.is _ _ (I (k : Int)),
      As.is _ _ (I ((k - 1 : Nat) : Int)),
      As.is _ _ (.pointer (some ⟨b1, o1 + (k - 1) * 4, none⟩)),
      As.is _ _ (.pointer (some ⟨b1, o1 + (k - 1) * 4 + 1, none⟩)),
      As.is _ _ (I (gW ws (k - 1)).len),
      As.is _ _ (I (front ws sts ps t (k - 1) - (gW ws (k - 1)).len)),
      As.is _ _ (I (front ws sts ps t (k - 1) - (gW ws (k - 1)).len))] 40 (by kernel_rfl) rfl (⟨x0.below (Below.refl _ _).drew x0.lt, hB.drew⟩) (by simp) (by simp) ?_ (fun _ => Below.refl _ _) ?_ ?_ ?_
  · intro i' hi' o' ho k' b' hg u w' hR hu
    match i', hi', ho with
    | 0, _, ho => cases ho; cases hg
    | 1, _, ho => cases ho; cases hg
    | 2, _, ho => cases ho; cases hg
    | 3, _, ho => cases ho; cases hg
    | 4, _, ho => cases ho; cases hg
    | 5, _, ho => cases ho; cases hg
    | 6, _, ho => cases ho; cases hg
    | 7, _, ho => cases ho; cases hg
    | 8, _, ho => cases ho; cases hg
    | 9, _, ho => cases ho; cases hg
    | 10, _, ho => cases ho; cases hg
    | 11, _, ho => cases ho; cases hg
    | 12, _, ho => cases ho; cases hg
    | 13, _, ho => cases ho; cases hg
    | 14, _, ho => cases ho; cases hg
    | 15, _, ho => cases ho; cases hg
    | n + 16, hi, _ => exact absurd hi (by simp)
  · intro i' hi' hsk; cases hsk
  · intro i' hi' hsk o' ho ev w' hR hc hf hg hs hd
    match i', hi', ho with
    | 0, _, ho =>
      clear hsk
      cases ho
      have e6 : ev (.tmp 6) = .pointer (some ⟨w.heap.size, 0, none⟩) := hs 6 (by kernel_rfl)
      have m4 := hR.1.cell
      go_simp
      first | exact ⟨rfl, hR, Below.refl _ _⟩ | exact ⟨⟨rfl, rfl⟩, hR, Below.refl _ _⟩ | exact ⟨⟨rfl, fun h => absurd h (by decide)⟩, hR, Below.refl _ _⟩ | exact ⟨⟨rfl, rfl, fun h => absurd h (by decide)⟩, hR, Below.refl _ _⟩
    | 1, _, ho =>
      clear hsk
      cases ho
      have e1 : ev (.tmp 1) = .slice (some ⟨b2, o2, none⟩) sts.length cb := hs 1 (by kernel_rfl)
      go_simp
      first | exact ⟨rfl, hR, Below.refl _ _⟩ | exact ⟨⟨rfl, rfl⟩, hR, Below.refl _ _⟩ | exact ⟨⟨rfl, fun h => absurd h (by decide)⟩, hR, Below.refl _ _⟩ | exact ⟨⟨rfl, rfl, fun h => absurd h (by decide)⟩, hR, Below.refl _ _⟩
    | 2, _, ho =>
      clear hsk
      cases ho
      have e2 : ev (.tmp 2) = .slice C ps.length cc := hs 2 (by kernel_rfl)
      go_simp
      first | exact ⟨rfl, hR, Below.refl _ _⟩ | exact ⟨⟨rfl, rfl⟩, hR, Below.refl _ _⟩ | exact ⟨⟨rfl, fun h => absurd h (by decide)⟩, hR, Below.refl _ _⟩ | exact ⟨⟨rfl, rfl, fun h => absurd h (by decide)⟩, hR, Below.refl _ _⟩
    | 3, _, ho =>
      clear hsk
      cases ho
      have e3 : ev (.tmp 3) = I (k : Int) := hs 3 (by kernel_rfl)
      go_simp
      first | exact ⟨rfl, hR, Below.refl _ _⟩ | exact ⟨⟨rfl, rfl⟩, hR, Below.refl _ _⟩ | exact ⟨⟨rfl, fun h => absurd h (by decide)⟩, hR, Below.refl _ _⟩ | exact ⟨⟨rfl, rfl, fun h => absurd h (by decide)⟩, hR, Below.refl _ _⟩
    | 4, _, ho =>
      clear hsk
      cases ho
      have e17 : ev (.tmp 17) = I (k : Int) := hd 3 17 (by kernel_rfl)
      have ew : IntKind.i64.wrap ((k : Int) - 1) = ((k - 1 : Nat) : Int) := by rw [IntWalk.i64_in _ (by omega)]; omega
      go_simp
      first | exact ⟨rfl, hR, Below.refl _ _⟩ | exact ⟨⟨rfl, rfl⟩, hR, Below.refl _ _⟩ | exact ⟨⟨rfl, fun h => absurd h (by decide)⟩, hR, Below.refl _ _⟩ | exact ⟨⟨rfl, rfl, fun h => absurd h (by decide)⟩, hR, Below.refl _ _⟩
    | 5, _, ho =>
      clear hsk
      cases ho
      have e5 : ev (.tmp 5) = I t := hs 5 (by kernel_rfl)
      go_simp
      first | exact ⟨rfl, hR, Below.refl _ _⟩ | exact ⟨⟨rfl, rfl⟩, hR, Below.refl _ _⟩ | exact ⟨⟨rfl, fun h => absurd h (by decide)⟩, hR, Below.refl _ _⟩ | exact ⟨⟨rfl, rfl, fun h => absurd h (by decide)⟩, hR, Below.refl _ _⟩
    | 6, _, ho =>
      clear hsk
      cases ho
      have e14 : ev (.tmp 14) = .agg #[I r, .slice (some ⟨b1, o1, none⟩) ws.length c] := hd 0 14 (by kernel_rfl)
      have e15 : ev (.tmp 15) = .slice (some ⟨b2, o2, none⟩) sts.length cb := hd 1 15 (by kernel_rfl)
      have e16 : ev (.tmp 16) = .slice C ps.length cc := hd 2 16 (by kernel_rfl)
      have e18 : ev (.tmp 18) = I ((k - 1 : Nat) : Int) := hd 4 18 (by kernel_rfl)
      have e19 : ev (.tmp 19) = I t := hd 5 19 (by kernel_rfl)
      go_simp
      refine (front_c r (some ⟨b1, o1, none⟩) (some ⟨b2, o2, none⟩) C c cb cc ws sts ps (k - 1) t _ _ _ w' (h1.below hR.2 (Nat.le_refl _)) (Sl.below h2 hR.2 (Nat.le_refl _)) (Sl.below h3 hR.2 (Nat.le_refl _)) hsm ht.1 ht.2 (by omega) (by unfold maxLen; have := HLS.out; omega) (by have := HLP.out; omega)).mono ?_
      rintro e wz ⟨rfl, hwz⟩
      first | exact ⟨rfl, ⟨hR.1.below hwz hR.1.lt, hR.2.trans (hwz.mono hR.2.size)⟩, hwz⟩ | exact ⟨⟨rfl, rfl⟩, ⟨hR.1.below hwz hR.1.lt, hR.2.trans (hwz.mono hR.2.size)⟩, hwz⟩ | exact ⟨⟨rfl, fun h => absurd h (by decide)⟩, ⟨hR.1.below hwz hR.1.lt, hR.2.trans (hwz.mono hR.2.size)⟩, hwz⟩ | exact ⟨⟨rfl, rfl, fun h => absurd h (by decide)⟩, ⟨hR.1.below hwz hR.1.lt, hR.2.trans (hwz.mono hR.2.size)⟩, hwz⟩
    | 7, _, ho =>
      clear hsk
      cases ho
      have e6 : ev (.tmp 6) = .pointer (some ⟨w.heap.size, 0, none⟩) := hs 6 (by kernel_rfl)
      go_simp
      first | exact ⟨rfl, hR, Below.refl _ _⟩ | exact ⟨⟨rfl, rfl⟩, hR, Below.refl _ _⟩ | exact ⟨⟨rfl, fun h => absurd h (by decide)⟩, hR, Below.refl _ _⟩ | exact ⟨⟨rfl, rfl, fun h => absurd h (by decide)⟩, hR, Below.refl _ _⟩
    | 8, _, ho =>
      clear hsk
      cases ho
      have e21 : ev (.tmp 21) = .pointer (some ⟨w.heap.size, 1, none⟩) := hd 7 21 (by kernel_rfl)
      have m4 := hR.1.cell
      go_simp
      first | exact ⟨rfl, hR, Below.refl _ _⟩ | exact ⟨⟨rfl, rfl⟩, hR, Below.refl _ _⟩ | exact ⟨⟨rfl, fun h => absurd h (by decide)⟩, hR, Below.refl _ _⟩ | exact ⟨⟨rfl, rfl, fun h => absurd h (by decide)⟩, hR, Below.refl _ _⟩
    | 9, _, ho =>
      clear hsk
      cases ho
      have e3 : ev (.tmp 3) = I (k : Int) := hs 3 (by kernel_rfl)
      go_simp
      first | exact ⟨rfl, hR, Below.refl _ _⟩ | exact ⟨⟨rfl, rfl⟩, hR, Below.refl _ _⟩ | exact ⟨⟨rfl, fun h => absurd h (by decide)⟩, hR, Below.refl _ _⟩ | exact ⟨⟨rfl, rfl, fun h => absurd h (by decide)⟩, hR, Below.refl _ _⟩
    | 10, _, ho =>
      clear hsk
      cases ho
      have e23 : ev (.tmp 23) = I (k : Int) := hd 9 23 (by kernel_rfl)
      have ew : IntKind.i64.wrap ((k : Int) - 1) = ((k - 1 : Nat) : Int) := by rw [IntWalk.i64_in _ (by omega)]; omega
      go_simp
      first | exact ⟨rfl, hR, Below.refl _ _⟩ | exact ⟨⟨rfl, rfl⟩, hR, Below.refl _ _⟩ | exact ⟨⟨rfl, fun h => absurd h (by decide)⟩, hR, Below.refl _ _⟩ | exact ⟨⟨rfl, rfl, fun h => absurd h (by decide)⟩, hR, Below.refl _ _⟩
    | 11, _, ho =>
      clear hsk
      cases ho
      have e22 : ev (.tmp 22) = .slice (some ⟨b1, o1, none⟩) ws.length c := hd 8 22 (by kernel_rfl)
      have e24 : ev (.tmp 24) = I ((k - 1 : Nat) : Int) := hd 10 24 (by kernel_rfl)
      have hkl : ((k - 1 : Nat) : Int) < (ws.length : Int) := by omega
      have hkl' : k - 1 < ws.length := by omega
      go_simp
      first | exact ⟨rfl, hR, Below.refl _ _⟩ | exact ⟨⟨rfl, rfl⟩, hR, Below.refl _ _⟩ | exact ⟨⟨rfl, fun h => absurd h (by decide)⟩, hR, Below.refl _ _⟩ | exact ⟨⟨rfl, rfl, fun h => absurd h (by decide)⟩, hR, Below.refl _ _⟩
    | 12, _, ho =>
      clear hsk
      cases ho
      have e25 : ev (.tmp 25) = .pointer (some ⟨b1, o1 + (k - 1) * 4, none⟩) := hd 11 25 (by kernel_rfl)
      go_simp
      first | exact ⟨rfl, hR, Below.refl _ _⟩ | exact ⟨⟨rfl, rfl⟩, hR, Below.refl _ _⟩ | exact ⟨⟨rfl, fun h => absurd h (by decide)⟩, hR, Below.refl _ _⟩ | exact ⟨⟨rfl, rfl, fun h => absurd h (by decide)⟩, hR, Below.refl _ _⟩
    | 13, _, ho =>
      clear hsk
      cases ho
      have e26 : ev (.tmp 26) = .pointer (some ⟨b1, o1 + (k - 1) * 4 + 1, none⟩) := hd 12 26 (by kernel_rfl)
      have m6 := (SlW.cellG (h1.below hR.2 (Nat.le_refl _)) (show k - 1 < ws.length by omega)).2.1
      go_simp
      first | exact ⟨rfl, hR, Below.refl _ _⟩ | exact ⟨⟨rfl, rfl⟩, hR, Below.refl _ _⟩ | exact ⟨⟨rfl, fun h => absurd h (by decide)⟩, hR, Below.refl _ _⟩ | exact ⟨⟨rfl, rfl, fun h => absurd h (by decide)⟩, hR, Below.refl _ _⟩
    | 14, _, ho =>
      clear hsk
      cases ho
      have e20 : ev (.tmp 20) = I (front ws sts ps t (k - 1)) := hd 6 20 (by kernel_rfl)
      have e27 : ev (.tmp 27) = I (gW ws (k - 1)).len := hd 13 27 (by kernel_rfl)
      have ew : IntKind.i64.wrap (front ws sts ps t (k - 1) - (gW ws (k - 1)).len) = front ws sts ps t (k - 1) - (gW ws (k - 1)).len := IntWalk.i64_in _ (by omega)
      go_simp
      first | exact ⟨rfl, hR, Below.refl _ _⟩ | exact ⟨⟨rfl, rfl⟩, hR, Below.refl _ _⟩ | exact ⟨⟨rfl, fun h => absurd h (by decide)⟩, hR, Below.refl _ _⟩ | exact ⟨⟨rfl, rfl, fun h => absurd h (by decide)⟩, hR, Below.refl _ _⟩
    | 15, _, ho =>
      clear hsk
      cases ho
      have e28 : ev (.tmp 28) = I (front ws sts ps t (k - 1) - (gW ws (k - 1)).len) := hd 14 28 (by kernel_rfl)
      go_simp
      first | exact ⟨rfl, hR, Below.refl _ _⟩ | exact ⟨⟨rfl, rfl⟩, hR, Below.refl _ _⟩ | exact ⟨⟨rfl, fun h => absurd h (by decide)⟩, hR, Below.refl _ _⟩ | exact ⟨⟨rfl, rfl, fun h => absurd h (by decide)⟩, hR, Below.refl _ _⟩
    | n + 16, hi, _ => exact absurd hi (by simp)
  intro ρ wE hR hρ hne K hK
  have p15 : ρ 15 = I (front ws sts ps t (k - 1) - (gW ws (k - 1)).len) := hρ 15 (by simp)
  show K (putAll _ _ ρ 16) _
  simp only [putAll, dOf, List.getElem?_toArray, List.getElem?_cons_zero, List.getElem?_cons_succ, Option.bind_some, Act.put, List.setIfInBounds_toArray, List.set_cons_zero, List.set_cons_succ]
  rw [p15]
  refine hK _ _ ?_
  change wpList _ _ _ [] _ _
  obtain ⟨_, hB1⟩ := hR
  clear hK K p15 hρ hne
  have m2 := SlI.cellG (Sl.below h2 hB1 (Nat.le_refl _)) hkss
  have hks : (k : Int) < (sts.length : Int) := by omega
  have e1 : IntKind.i64.wrap (t - gI sts k) = t - gI sts k := IntWalk.i64_in _ (by omega)
  have e2 : IntKind.i64.wrap (p * (t - gI sts k)) = p * (t - gI sts k) := IntWalk.i64_in _ (by omega)
  have e3 : IntKind.i64.wrap (front ws sts ps t (k - 1) - (gW ws (k - 1)).len - p * (t - gI sts k)) = front ws sts ps t (k - 1) - (gW ws (k - 1)).len - p * (t - gI sts k) := IntWalk.i64_in _ (by omega)
  by_cases hx : 0 < front ws sts ps t (k - 1) - (gW ws (k - 1)).len - p * (t - gI sts k)
  · go_wp2
    go_ret
    exact ⟨ret_int (by unfold gapF; omega), hB1⟩
  · go_wp2
    go_ret
    exact ⟨ret_int (by unfold gapF; omega), hB1⟩

set_option maxRecDepth 100000 in
set_option maxHeartbeats 1000000 in
theorem watched_c (r : Int) (A B : Option Addr) (c cb : Nat) (ws : List Wg) (sts : List Int) (k : Nat) (T1 T2 : TypeId) (w : World) (h1 : SlW w T1 A ws) (h2 : SlI w T2 B sts) (hv : VSt r ws sts) (hk : k < ws.length) (h0 : k ≠ 0) :
    Calls Try.prog 54 #[.agg #[I r, .slice A ws.length c], .slice B sts.length cb, I (k : Int)] w fun e w' => e = .returned (.tuple #[I (gI sts k), I (unt r ws sts k)]) ∧ Below w.heap.size w w' := by
  have hls := hv.len
  have h8 := hv.n2
  have hr1 := hv.r1
  have hr2 := hv.r2
  obtain ⟨_, v1, v2, _⟩ := hv.all (k - 1) (by omega)
  have hsm : Sm ws sts (his ws) (k - 1) := hv.smHi (i := k - 1) (by omega) (by omega) fun j hj => hv.bd j (by omega)
  obtain ⟨b1, o1, rfl, _⟩ := SlW.some_ h1 hk
  obtain ⟨b2, o2, rfl, _⟩ := SlI.some_ h2 (show k < sts.length by omega)
  have x0 := Bx.new w 24 #[I r, .slice (some ⟨b1, o1, none⟩) ws.length c]
  have hB := (Below.refl w.heap.size w).alloc (Nat.le_refl _) (.cells #[I r, .slice (some ⟨b1, o1, none⟩) ws.length c] 24)
  have hkss : k < sts.length := by omega
  have HLS := Lib.hid hls
  clear hls
  go_enter Try.func54, Try.ntmps54
  go_wp2_with fail
  refine wp_region_list_s (by kernel_rfl) (R := (fun w' => Bx w' w.heap.size 24 #[I r, .slice (some ⟨b1, o1, none⟩) ws.length c] ∧ Below w.heap.size w w')) (F := FB) [] [] []
      [As.is _ _ (.slice (some ⟨b2, o2, none⟩) sts.length cb),
      As.is _ _ (I (k : Int)),
      As.is _ _ (.pointer (some ⟨b2, o2 + k, none⟩)),
      As.is _ _ (I (gI sts k)),
      As.is _ _ (.agg #[I r, .slice (some ⟨b1, o1, none⟩) ws.length c]),
      As.is _ _ (.slice (some ⟨b2, o2, none⟩) sts.length cb),
      As.is _ _ (.agg #[I r, .slice (some ⟨b1, o1, none⟩) ws.length c]),
      asIs _ (his ws),
      As.is _ _ (I (k : Int)),
      As.is _ _ (I ((k - 1 : Nat) : Int)),
      As.is _ _ (.pointer (some ⟨w.heap.size, 0, none⟩)),
      As.is _ _ (I r),
      As.is _ _ (.pointer (some ⟨w.heap.size, 1, none⟩)),
      As.is _ _ (.slice (some ⟨b1, o1, none⟩) ws.length c),
      As.is _ _ (I (k : Int)),
      As.is _ _ (I ((k - 1 : Nat) : Int)),
      As.is _ _ (.pointer (some ⟨b1, o1 + (k - 1) * 4, none⟩)),
      As.is _ _ (.pointer (some ⟨b1, o1 + (k - 1) * 4 + 1, none⟩)),
      As.is _ _ (I (gW ws (k - 1)).len),
      As.is _ _ (I (r + (gW ws (k - 1)).len)),
      As.is _ _ (I (unt r ws sts k)),
      As.is _ _ (I (gI sts k)),
      As.is _ _ (I (unt r ws sts k))] 29 (by kernel_rfl) rfl (⟨x0.below (Below.refl _ _).drew x0.lt, hB.drew⟩) (by simp) (by simp) ?_ (fun _ => Below.refl _ _) ?_ ?_ ?_
  · intro i' hi' o' ho k' b' hg u w' hR hu
    match i', hi', ho with
    | 0, _, ho => cases ho; cases hg
    | 1, _, ho => cases ho; cases hg
    | 2, _, ho => cases ho; cases hg
    | 3, _, ho => cases ho; cases hg
    | 4, _, ho => cases ho; cases hg
    | 5, _, ho => cases ho; cases hg
    | 6, _, ho => cases ho; cases hg
    | 7, _, ho => cases ho; cases hg
    | 8, _, ho => cases ho; cases hg
    | 9, _, ho => cases ho; cases hg
    | 10, _, ho => cases ho; cases hg
    | 11, _, ho => cases ho; cases hg
    | 12, _, ho => cases ho; cases hg
    | 13, _, ho => cases ho; cases hg
    | 14, _, ho => cases ho; cases hg
    | 15, _, ho => cases ho; cases hg
    | 16, _, ho => cases ho; cases hg
    | 17, _, ho => cases ho; cases hg
    | 18, _, ho => cases ho; cases hg
    | 19, _, ho => cases ho; cases hg
    | 20, _, ho => cases ho; cases hg
    | 21, _, ho => cases ho; cases hg
    | 22, _, ho => cases ho; cases hg
    | n + 23, hi, _ => exact absurd hi (by simp)
  · intro i' hi' hsk; cases hsk
  · intro i' hi' hsk o' ho ev w' hR hc hf hg hs hd
    match i', hi', ho with
    | 0, _, ho =>
      clear hsk
      cases ho
      have e1 : ev (.tmp 1) = .slice (some ⟨b2, o2, none⟩) sts.length cb := hs 1 (by kernel_rfl)
      go_simp
      first | exact ⟨rfl, hR, Below.refl _ _⟩ | exact ⟨⟨rfl, rfl⟩, hR, Below.refl _ _⟩ | exact ⟨⟨rfl, fun h => absurd h (by decide)⟩, hR, Below.refl _ _⟩ | exact ⟨⟨rfl, rfl, fun h => absurd h (by decide)⟩, hR, Below.refl _ _⟩
    | 1, _, ho =>
      clear hsk
      cases ho
      have e2 : ev (.tmp 2) = I (k : Int) := hs 2 (by kernel_rfl)
      go_simp
      first | exact ⟨rfl, hR, Below.refl _ _⟩ | exact ⟨⟨rfl, rfl⟩, hR, Below.refl _ _⟩ | exact ⟨⟨rfl, fun h => absurd h (by decide)⟩, hR, Below.refl _ _⟩ | exact ⟨⟨rfl, rfl, fun h => absurd h (by decide)⟩, hR, Below.refl _ _⟩
    | 2, _, ho =>
      clear hsk
      cases ho
      have e8 : ev (.tmp 8) = .slice (some ⟨b2, o2, none⟩) sts.length cb := hd 0 8 (by kernel_rfl)
      have e9 : ev (.tmp 9) = I (k : Int) := hd 1 9 (by kernel_rfl)
      have hks : (k : Int) < (sts.length : Int) := by omega
      have hkn : k < sts.length := by omega
      go_simp
      first | exact ⟨rfl, hR, Below.refl _ _⟩ | exact ⟨⟨rfl, rfl⟩, hR, Below.refl _ _⟩ | exact ⟨⟨rfl, fun h => absurd h (by decide)⟩, hR, Below.refl _ _⟩ | exact ⟨⟨rfl, rfl, fun h => absurd h (by decide)⟩, hR, Below.refl _ _⟩
    | 3, _, ho =>
      clear hsk
      cases ho
      have e10 : ev (.tmp 10) = .pointer (some ⟨b2, o2 + k, none⟩) := hd 2 10 (by kernel_rfl)
      have m2 := SlI.cellG (Sl.below h2 hR.2 (Nat.le_refl _)) hkss
      go_simp
      first | exact ⟨rfl, hR, Below.refl _ _⟩ | exact ⟨⟨rfl, rfl⟩, hR, Below.refl _ _⟩ | exact ⟨⟨rfl, fun h => absurd h (by decide)⟩, hR, Below.refl _ _⟩ | exact ⟨⟨rfl, rfl, fun h => absurd h (by decide)⟩, hR, Below.refl _ _⟩
    | 4, _, ho =>
      clear hsk
      cases ho
      have e3 : ev (.tmp 3) = .pointer (some ⟨w.heap.size, 0, none⟩) := hs 3 (by kernel_rfl)
      have m4 := hR.1.cell
      go_simp
      first | exact ⟨rfl, hR, Below.refl _ _⟩ | exact ⟨⟨rfl, rfl⟩, hR, Below.refl _ _⟩ | exact ⟨⟨rfl, fun h => absurd h (by decide)⟩, hR, Below.refl _ _⟩ | exact ⟨⟨rfl, rfl, fun h => absurd h (by decide)⟩, hR, Below.refl _ _⟩
    | 5, _, ho =>
      clear hsk
      cases ho
      have e1 : ev (.tmp 1) = .slice (some ⟨b2, o2, none⟩) sts.length cb := hs 1 (by kernel_rfl)
      go_simp
      first | exact ⟨rfl, hR, Below.refl _ _⟩ | exact ⟨⟨rfl, rfl⟩, hR, Below.refl _ _⟩ | exact ⟨⟨rfl, fun h => absurd h (by decide)⟩, hR, Below.refl _ _⟩ | exact ⟨⟨rfl, rfl, fun h => absurd h (by decide)⟩, hR, Below.refl _ _⟩
    | 6, _, ho =>
      clear hsk
      cases ho
      have e3 : ev (.tmp 3) = .pointer (some ⟨w.heap.size, 0, none⟩) := hs 3 (by kernel_rfl)
      have m4 := hR.1.cell
      go_simp
      first | exact ⟨rfl, hR, Below.refl _ _⟩ | exact ⟨⟨rfl, rfl⟩, hR, Below.refl _ _⟩ | exact ⟨⟨rfl, fun h => absurd h (by decide)⟩, hR, Below.refl _ _⟩ | exact ⟨⟨rfl, rfl, fun h => absurd h (by decide)⟩, hR, Below.refl _ _⟩
    | 7, _, ho =>
      clear hsk
      cases ho
      have e14 : ev (.tmp 14) = .agg #[I r, .slice (some ⟨b1, o1, none⟩) ws.length c] := hd 6 14 (by kernel_rfl)
      go_simp
      refine (fast_c r _ c ws _ w' (h1.below hR.2 (Nat.le_refl _)) (by omega)).mono ?_
      rintro e wz ⟨B', d', rfl, hsl, hwz⟩
      first | exact ⟨⟨B', d', rfl, hsl⟩, ⟨hR.1.below hwz hR.1.lt, hR.2.trans (hwz.mono hR.2.size)⟩, hwz⟩ | exact ⟨⟨rfl, ⟨B', d', rfl, hsl⟩⟩, ⟨hR.1.below hwz hR.1.lt, hR.2.trans (hwz.mono hR.2.size)⟩, hwz⟩ | exact ⟨⟨⟨B', d', rfl, hsl⟩, fun h => absurd h (by decide)⟩, ⟨hR.1.below hwz hR.1.lt, hR.2.trans (hwz.mono hR.2.size)⟩, hwz⟩ | exact ⟨⟨rfl, ⟨B', d', rfl, hsl⟩, fun h => absurd h (by decide)⟩, ⟨hR.1.below hwz hR.1.lt, hR.2.trans (hwz.mono hR.2.size)⟩, hwz⟩
    | 8, _, ho =>
      clear hsk
      cases ho
      have e2 : ev (.tmp 2) = I (k : Int) := hs 2 (by kernel_rfl)
      go_simp
      first | exact ⟨rfl, hR, Below.refl _ _⟩ | exact ⟨⟨rfl, rfl⟩, hR, Below.refl _ _⟩ | exact ⟨⟨rfl, fun h => absurd h (by decide)⟩, hR, Below.refl _ _⟩ | exact ⟨⟨rfl, rfl, fun h => absurd h (by decide)⟩, hR, Below.refl _ _⟩
    | 9, _, ho =>
      clear hsk
      cases ho
      have e16 : ev (.tmp 16) = I (k : Int) := hd 8 16 (by kernel_rfl)
      have ew : IntKind.i64.wrap ((k : Int) - 1) = ((k - 1 : Nat) : Int) := by rw [IntWalk.i64_in _ (by omega)]; omega
      go_simp
      first | exact ⟨rfl, hR, Below.refl _ _⟩ | exact ⟨⟨rfl, rfl⟩, hR, Below.refl _ _⟩ | exact ⟨⟨rfl, fun h => absurd h (by decide)⟩, hR, Below.refl _ _⟩ | exact ⟨⟨rfl, rfl, fun h => absurd h (by decide)⟩, hR, Below.refl _ _⟩
    | 10, _, ho =>
      clear hsk
      cases ho
      have e3 : ev (.tmp 3) = .pointer (some ⟨w.heap.size, 0, none⟩) := hs 3 (by kernel_rfl)
      go_simp
      first | exact ⟨rfl, hR, Below.refl _ _⟩ | exact ⟨⟨rfl, rfl⟩, hR, Below.refl _ _⟩ | exact ⟨⟨rfl, fun h => absurd h (by decide)⟩, hR, Below.refl _ _⟩ | exact ⟨⟨rfl, rfl, fun h => absurd h (by decide)⟩, hR, Below.refl _ _⟩
    | 11, _, ho =>
      clear hsk
      cases ho
      have e18 : ev (.tmp 18) = .pointer (some ⟨w.heap.size, 0, none⟩) := hd 10 18 (by kernel_rfl)
      have m4 := hR.1.cell
      go_simp
      first | exact ⟨rfl, hR, Below.refl _ _⟩ | exact ⟨⟨rfl, rfl⟩, hR, Below.refl _ _⟩ | exact ⟨⟨rfl, fun h => absurd h (by decide)⟩, hR, Below.refl _ _⟩ | exact ⟨⟨rfl, rfl, fun h => absurd h (by decide)⟩, hR, Below.refl _ _⟩
    | 12, _, ho =>
      clear hsk
      cases ho
      have e3 : ev (.tmp 3) = .pointer (some ⟨w.heap.size, 0, none⟩) := hs 3 (by kernel_rfl)
      go_simp
      first | exact ⟨rfl, hR, Below.refl _ _⟩ | exact ⟨⟨rfl, rfl⟩, hR, Below.refl _ _⟩ | exact ⟨⟨rfl, fun h => absurd h (by decide)⟩, hR, Below.refl _ _⟩ | exact ⟨⟨rfl, rfl, fun h => absurd h (by decide)⟩, hR, Below.refl _ _⟩
    | 13, _, ho =>
      clear hsk
      cases ho
      have e20 : ev (.tmp 20) = .pointer (some ⟨w.heap.size, 1, none⟩) := hd 12 20 (by kernel_rfl)
      have m4 := hR.1.cell
      go_simp
      first | exact ⟨rfl, hR, Below.refl _ _⟩ | exact ⟨⟨rfl, rfl⟩, hR, Below.refl _ _⟩ | exact ⟨⟨rfl, fun h => absurd h (by decide)⟩, hR, Below.refl _ _⟩ | exact ⟨⟨rfl, rfl, fun h => absurd h (by decide)⟩, hR, Below.refl _ _⟩
    | 14, _, ho =>
      clear hsk
      cases ho
      have e2 : ev (.tmp 2) = I (k : Int) := hs 2 (by kernel_rfl)
      go_simp
      first | exact ⟨rfl, hR, Below.refl _ _⟩ | exact ⟨⟨rfl, rfl⟩, hR, Below.refl _ _⟩ | exact ⟨⟨rfl, fun h => absurd h (by decide)⟩, hR, Below.refl _ _⟩ | exact ⟨⟨rfl, rfl, fun h => absurd h (by decide)⟩, hR, Below.refl _ _⟩
    | 15, _, ho =>
      clear hsk
      cases ho
      have e22 : ev (.tmp 22) = I (k : Int) := hd 14 22 (by kernel_rfl)
      have ew : IntKind.i64.wrap ((k : Int) - 1) = ((k - 1 : Nat) : Int) := by rw [IntWalk.i64_in _ (by omega)]; omega
      go_simp
      first | exact ⟨rfl, hR, Below.refl _ _⟩ | exact ⟨⟨rfl, rfl⟩, hR, Below.refl _ _⟩ | exact ⟨⟨rfl, fun h => absurd h (by decide)⟩, hR, Below.refl _ _⟩ | exact ⟨⟨rfl, rfl, fun h => absurd h (by decide)⟩, hR, Below.refl _ _⟩
    | 16, _, ho =>
      clear hsk
      cases ho
      have e21 : ev (.tmp 21) = .slice (some ⟨b1, o1, none⟩) ws.length c := hd 13 21 (by kernel_rfl)
      have e23 : ev (.tmp 23) = I ((k - 1 : Nat) : Int) := hd 15 23 (by kernel_rfl)
      have hkl : ((k - 1 : Nat) : Int) < (ws.length : Int) := by omega
      have hkl' : k - 1 < ws.length := by omega
      go_simp
      first | exact ⟨rfl, hR, Below.refl _ _⟩ | exact ⟨⟨rfl, rfl⟩, hR, Below.refl _ _⟩ | exact ⟨⟨rfl, fun h => absurd h (by decide)⟩, hR, Below.refl _ _⟩ | exact ⟨⟨rfl, rfl, fun h => absurd h (by decide)⟩, hR, Below.refl _ _⟩
    | 17, _, ho =>
      clear hsk
      cases ho
      have e24 : ev (.tmp 24) = .pointer (some ⟨b1, o1 + (k - 1) * 4, none⟩) := hd 16 24 (by kernel_rfl)
      go_simp
      first | exact ⟨rfl, hR, Below.refl _ _⟩ | exact ⟨⟨rfl, rfl⟩, hR, Below.refl _ _⟩ | exact ⟨⟨rfl, fun h => absurd h (by decide)⟩, hR, Below.refl _ _⟩ | exact ⟨⟨rfl, rfl, fun h => absurd h (by decide)⟩, hR, Below.refl _ _⟩
    | 18, _, ho =>
      clear hsk
      cases ho
      have e25 : ev (.tmp 25) = .pointer (some ⟨b1, o1 + (k - 1) * 4 + 1, none⟩) := hd 17 25 (by kernel_rfl)
      have m6 := (SlW.cellG (h1.below hR.2 (Nat.le_refl _)) (show k - 1 < ws.length by omega)).2.1
      go_simp
      first | exact ⟨rfl, hR, Below.refl _ _⟩ | exact ⟨⟨rfl, rfl⟩, hR, Below.refl _ _⟩ | exact ⟨⟨rfl, fun h => absurd h (by decide)⟩, hR, Below.refl _ _⟩ | exact ⟨⟨rfl, rfl, fun h => absurd h (by decide)⟩, hR, Below.refl _ _⟩
    | 19, _, ho =>
      clear hsk
      cases ho
      have e19 : ev (.tmp 19) = I r := hd 11 19 (by kernel_rfl)
      have e26 : ev (.tmp 26) = I (gW ws (k - 1)).len := hd 18 26 (by kernel_rfl)
      have ew : IntKind.i64.wrap (r + (gW ws (k - 1)).len) = r + (gW ws (k - 1)).len := IntWalk.i64_in _ (by omega)
      go_simp
      first | exact ⟨rfl, hR, Below.refl _ _⟩ | exact ⟨⟨rfl, rfl⟩, hR, Below.refl _ _⟩ | exact ⟨⟨rfl, fun h => absurd h (by decide)⟩, hR, Below.refl _ _⟩ | exact ⟨⟨rfl, rfl, fun h => absurd h (by decide)⟩, hR, Below.refl _ _⟩
    | 20, _, ho =>
      clear hsk
      cases ho
      have e12 : ev (.tmp 12) = .agg #[I r, .slice (some ⟨b1, o1, none⟩) ws.length c] := hd 4 12 (by kernel_rfl)
      have e13 : ev (.tmp 13) = .slice (some ⟨b2, o2, none⟩) sts.length cb := hd 5 13 (by kernel_rfl)
      obtain ⟨B', d', e15, hsl⟩ : ∃ B' d', ev (.tmp 15) = .slice B' (his ws).length d' ∧ SlI w' 3 B' (his ws) := hd 7 15 (by kernel_rfl)
      have e17 : ev (.tmp 17) = I ((k - 1 : Nat) : Int) := hd 9 17 (by kernel_rfl)
      have e27 : ev (.tmp 27) = I (r + (gW ws (k - 1)).len) := hd 19 27 (by kernel_rfl)
      go_simp
      have HPC := passed_c r (some ⟨b1, o1, none⟩) (some ⟨b2, o2, none⟩) B' c cb d' ws sts (his ws) (k - 1) (r + (gW ws (k - 1)).len) _ _ _ w' (h1.below hR.2 (Nat.le_refl _)) (Sl.below h2 hR.2 (Nat.le_refl _)) hsl hsm (by omega) (by omega) (by omega) (by unfold maxLen; have := HLS.out; omega) (by rw [his_length]; omega)
      refine HPC.mono ?_
      rintro e wz ⟨rfl, hwz⟩
      first | exact ⟨rfl, ⟨hR.1.below hwz hR.1.lt, hR.2.trans (hwz.mono hR.2.size)⟩, hwz⟩ | exact ⟨⟨rfl, rfl⟩, ⟨hR.1.below hwz hR.1.lt, hR.2.trans (hwz.mono hR.2.size)⟩, hwz⟩ | exact ⟨⟨rfl, fun h => absurd h (by decide)⟩, ⟨hR.1.below hwz hR.1.lt, hR.2.trans (hwz.mono hR.2.size)⟩, hwz⟩ | exact ⟨⟨rfl, rfl, fun h => absurd h (by decide)⟩, ⟨hR.1.below hwz hR.1.lt, hR.2.trans (hwz.mono hR.2.size)⟩, hwz⟩
    | 21, _, ho =>
      clear hsk
      cases ho
      have e11 : ev (.tmp 11) = I (gI sts k) := hd 3 11 (by kernel_rfl)
      go_simp
      first | exact ⟨rfl, hR, Below.refl _ _⟩ | exact ⟨⟨rfl, rfl⟩, hR, Below.refl _ _⟩ | exact ⟨⟨rfl, fun h => absurd h (by decide)⟩, hR, Below.refl _ _⟩ | exact ⟨⟨rfl, rfl, fun h => absurd h (by decide)⟩, hR, Below.refl _ _⟩
    | 22, _, ho =>
      clear hsk
      cases ho
      have e28 : ev (.tmp 28) = I (unt r ws sts k) := hd 20 28 (by kernel_rfl)
      go_simp
      first | exact ⟨rfl, hR, Below.refl _ _⟩ | exact ⟨⟨rfl, rfl⟩, hR, Below.refl _ _⟩ | exact ⟨⟨rfl, fun h => absurd h (by decide)⟩, hR, Below.refl _ _⟩ | exact ⟨⟨rfl, rfl, fun h => absurd h (by decide)⟩, hR, Below.refl _ _⟩
    | n + 23, hi, _ => exact absurd hi (by simp)
  intro ρ wE hR hρ hne K hK
  have p21 : ρ 21 = I (gI sts k) := hρ 21 (by simp)
  have p22 : ρ 22 = I (unt r ws sts k) := hρ 22 (by simp)
  show K (putAll _ _ ρ 23) _
  simp only [putAll, dOf, List.getElem?_toArray, List.getElem?_cons_zero, List.getElem?_cons_succ, Option.bind_some, Act.put, List.setIfInBounds_toArray, List.set_cons_zero, List.set_cons_succ]
  rw [p21, p22]
  refine hK _ _ ?_
  change wpList _ _ _ [] _ _
  obtain ⟨_, hB1⟩ := hR
  clear hK K p21 p22 hρ hne
  go_wp2
  exact bodyPost_ret (v := .tuple #[I (gI sts k), I (unt r ws sts k)]) (by simp [results, Try.results54, go_sem]) rfl ⟨rfl, hB1⟩
end Go.Proofs.Ytnihkgdkdinliaa
