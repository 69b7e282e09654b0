/- The widest gap of a wing while it is watched, and whether it is too wide, as the program finds it. Own work. -/
import Derived.Test.YtnihkgdkdinliaaPeak
import Derived.Test.YtnihkgdkdinliaaLasting
namespace Go.Proofs.Ytnihkgdkdinliaa
open Go.RowKit
set_option linter.unusedVariables false
set_option linter.unusedSimpArgs false

/-- The first second of the widest gap from a second on, before another one, and this gap. -/
def pkS (f : Int → Int) (s u : Int) : Int := if u ≤ s then s else s + pkN f s (u - 1 - s).toNat
def pkG (f : Int → Int) (s u : Int) : Int := if u ≤ s then 0 else f (s + pkN f s (u - 1 - s).toNat)
/-- Until when wing k is watched. -/
def unt (r : Int) (ws : List Wg) (sts : List Int) (k : Nat) : Int := passed ws sts (his ws) (k - 1) (r + (gW ws (k - 1)).len)
/-- The gap of wing k in second t, at either end (0: the widest one; 1: the narrowest one). -/
def gapE (ws : List Wg) (sts : List Int) (k e : Nat) (t : Int) : Int := gapF ws sts (if e = 0 then his ws else los ws) (if e = 0 then (gW ws k).lo else (gW ws k).hi) t k
def wpS (r : Int) (ws : List Wg) (sts : List Int) (k e : Nat) : Int := pkS (gapE ws sts k e) (gI sts k) (unt r ws sts k)
def wpG (r : Int) (ws : List Wg) (sts : List Int) (k e : Nat) : Int := pkG (gapE ws sts k e) (gI sts k) (unt r ws sts k)

theorem gapE_eq {ws : List Wg} {sts : List Int} {k e : Nat} {t : Int} (hk : k < ws.length) (h0 : k ≠ 0) (h8 : ws.length ≤ 8) (he : e = 0 ∨ e = 1) :
    front ws sts (apls ws k e) t (k - 1) - (gW ws (k - 1)).len - front ws sts (apls ws k e) t k = gapE ws sts k e t := by
  obtain ⟨i, rfl⟩ : ∃ i, k = i + 1 := ⟨k - 1, by omega⟩
  unfold gapE
  rcases he with rfl | rfl
  · exact gap_hi hk h8
  · rw [if_neg (by decide), if_neg (by decide)]
    exact gap_lo hk h8
/-- At its start a wing has its tail's room. -/
theorem VSt.ah0 {r : Int} {ws : List Wg} {sts : List Int} (hv : VSt r ws sts) {k : Nat} (hk : k < ws.length) (h0 : k ≠ 0) (ps : List Int) (p : Int) (hp : ∀ j, j ≤ k - 1 → gI (los ws) j ≤ gI ps j) : 0 ≤ ahF ws sts ps p (gI sts k) k := by
  obtain ⟨i, rfl⟩ : ∃ i, k = i + 1 := ⟨k - 1, by omega⟩
  have h := (hv.next hk).2
  have hm := front_more (ws := ws) (sts := sts) (ps := los ws) (ps' := ps) (t := gI sts (i + 1)) i fun j hj => ⟨hp j (by omega), (hv.next hk).1 j hj⟩
  unfold ahF
  rw [show i + 1 - 1 = i from rfl, Int.sub_self, Int.mul_zero]
  omega
theorem gapE_after {r : Int} {ws : List Wg} {sts : List Int} (hv : VSt r ws sts) {k e : Nat} (hk : k < ws.length) (h0 : k ≠ 0) (he : e = 0 ∨ e = 1) (a b : Nat) (hab : a ≤ b) (h : gapE ws sts k e (gI sts k + a + 1) ≤ gapE ws sts k e (gI sts k + a)) :
    gapE ws sts k e (gI sts k + b + 1) ≤ gapE ws sts k e (gI sts k + b) := by
  have hp : ∀ j, j ≤ k - 1 → gI (los ws) j ≤ gI (if e = 0 then his ws else los ws) j := fun j hj => by
    have := hv.los1 (show j < ws.length by omega)
    split <;> omega
  have h1 := hv.ah0 hk h0 (if e = 0 then his ws else los ws) (if e = 0 then (gW ws k).lo else (gW ws k).hi) hp
  have h2 := (pk_iff h1 a).1 h
  refine (pk_iff h1 b).2 ?_
  have := ah_after h2 (b - a)
  rw [show gI sts k + (a : Int) + ((b - a : Nat) : Int) = gI sts k + b by omega] at this
  exact this
theorem unt_bd {r : Int} {ws : List Wg} {sts : List Int} (hv : VSt r ws sts) {k : Nat} (hk : k < ws.length) (h0 : k ≠ 0) : 0 ≤ unt r ws sts k ∧ unt r ws sts k ≤ 900000 := by
  have hl := hv.len
  have h8 := hv.n2
  have hr1 := hv.r1
  have hr2 := hv.r2
  obtain ⟨_, v1, v2, v3, v4, v5, v6, v7⟩ := hv.all (k - 1) (by omega)
  have hb := passed_bd (ws := ws) (sts := sts) (ps := his ws) (S := 20000) (D := 10000) (place := r + (gW ws (k - 1)).len) (i := k - 1) (fun j hj => by
    have := hv.los1 (show j < ws.length by omega)
    obtain ⟨_, a1, a2, a3, a4, a5, a6, a7⟩ := hv.all j (by omega)
    have := hv.bd j (by omega)
    omega) (by omega) (by omega)
  have := hv.bd (k - 1) (by omega)
  unfold unt
  omega

set_option maxRecDepth 100000 in
set_option maxHeartbeats 4000000 in
theorem watchedPeak_c (r : Int) (A B : Option Addr) (c d : Nat) (ws : List Wg) (sts : List Int) (k e : Nat) (T1 T2 : TypeId) (w : World) (h1 : SlW w T1 A ws) (h2 : SlI w T2 B sts) (hv : VSt r ws sts) (hk : k < ws.length) (h0 : k ≠ 0) (he : e = 0 ∨ e = 1) :
    Calls Try.prog 102 #[.agg #[I r, .slice A ws.length c], .slice B sts.length d, I (k : Int), I (e : Int)] w fun e' w' => e' = .returned (.agg #[I (k : Int), I (wpS r ws sts k e), I (wpG r ws sts k e)]) ∧ Below w.heap.size w w' := by
  have hl := hv.len
  have h8 := hv.n2
  have hr1 := hv.r1
  have hr2 := hv.r2
  have hu := unt_bd hv hk h0
  have hst := hv.bd k (by omega)
  obtain ⟨b1, o1, rfl, _⟩ := SlW.some_ h1 hk
  obtain ⟨b2, o2, rfl, _⟩ := SlI.some_ h2 (show k < sts.length by omega)
  have HSA := Lib.hid (show Sm ws sts [apl ws k e 0, apl ws k e 1, apl ws k e 2, apl ws k e 3, apl ws k e 4, apl ws k e 5, apl ws k e 6, apl ws k e 7] k from hv.smAp hk (by omega) (fun j hj => hv.bd j (by omega)) he)
  have HSE := Lib.hid (show Sm ws sts [endp ws 1 0, endp ws 1 1, endp ws 1 2, endp ws 1 3, endp ws 1 4, endp ws 1 5, endp ws 1 6, endp ws 1 7] (k - 1) from (hv.smHi (i := k - 1) (by omega) (by omega) fun j hj => hv.bd j (by omega)).congr (by simp; omega) fun j hj => (eps_his ws (by omega) j (by omega)).symm)
  have HL := Lib.hid hl
  have x0 := (Bx.new w 24 #[I r, .slice (some ⟨b1, o1, none⟩) ws.length c]).alloc (.cells #[I 0, I 0, I 0] 112)
  have x1 := Bx.new' (w.alloc (.cells #[I r, .slice (some ⟨b1, o1, none⟩) ws.length c] 24)) 112 #[I 0, I 0, I 0] (w.heap.size + 1) (by simp)
  have hB := ((Below.refl w.heap.size w).alloc (Nat.le_refl _) (.cells #[I r, .slice (some ⟨b1, o1, none⟩) ws.length c] 24)).alloc (by simp) (.cells #[I 0, I 0, I 0] 112)
  have hsn : sts.length ≤ 8 := by omega
  have hks : k < sts.length := by omega
  clear hl
  go_enter Try.func102, Try.ntmps102
  go_wp2_with fail
  refine wp_region_list_s (by kernel_rfl) (R := (fun w' => Bx w' w.heap.size 24 #[I r, .slice (some ⟨b1, o1, none⟩) ws.length c] ∧ Bx w' (w.heap.size + 1) 112 #[I 0, I 0, I 0] ∧ Below w.heap.size w w')) (F := FB) [] [] []
      [As.is _ _ (.agg #[I r, .slice (some ⟨b1, o1, none⟩) ws.length c]),
      As.is _ _ (.slice (some ⟨b2, o2, none⟩) sts.length d),
      As.is _ _ (tv (some ⟨b1, o1, none⟩) ws.length c (some ⟨b2, o2, none⟩) sts.length d (endp ws 1 0) (endp ws 1 1) (endp ws 1 2) (endp ws 1 3) (endp ws 1 4) (endp ws 1 5) (endp ws 1 6) (endp ws 1 7)),
      As.is _ _ (I (k : Int)),
      As.is _ _ (I ((k - 1 : Nat) : Int)),
      As.is _ _ (.pointer (some ⟨w.heap.size, 0, none⟩)),
      As.is _ _ (I r),
      As.is _ _ (I (unt r ws sts k)),
      As.is _ _ (I (unt r ws sts k))] 31 (by kernel_rfl) rfl (⟨x0.below (Below.refl _ _).drew x0.lt, x1.below (Below.refl _ _).drew x1.lt, hB.drew⟩) (by simp) (by simp) ?_ (fun _ => Below.refl _ _) ?_ ?_ ?_
  · intro i' hi' o' ho k' b' hg u w' hR hu
    match i', hi', ho with
    | 0, _, ho => cases ho; cases hg
    | 1, _, ho => cases ho; cases hg
    | 2, _, ho => cases ho; cases hg
    | 3, _, ho => cases ho; cases hg
    | 4, _, ho => cases ho; cases hg
    | 5, _, ho => cases ho; cases hg
    | 6, _, ho => cases ho; cases hg
    | 7, _, ho => cases ho; cases hg
    | 8, _, ho => cases ho; cases hg
    | n + 9, hi, _ => exact absurd hi (by simp)
  · intro i' hi' hsk; cases hsk
  · intro i' hi' hsk o' ho ev w' hR hc hf hg hs hd
    match i', hi', ho with
    | 0, _, ho =>
      clear hsk
      cases ho
      have e4 : ev (.tmp 4) = .pointer (some ⟨w.heap.size, 0, none⟩) := hs 4 (by kernel_rfl)
      have m4 := hR.1.cell
      go_simp
      first | exact ⟨rfl, hR, Below.refl _ _⟩ | exact ⟨⟨rfl, rfl⟩, hR, Below.refl _ _⟩ | exact ⟨⟨rfl, fun h => absurd h (by decide)⟩, hR, Below.refl _ _⟩ | exact ⟨⟨rfl, rfl, fun h => absurd h (by decide)⟩, hR, Below.refl _ _⟩
    | 1, _, ho =>
      clear hsk
      cases ho
      have e1 : ev (.tmp 1) = .slice (some ⟨b2, o2, none⟩) sts.length d := hs 1 (by kernel_rfl)
      go_simp
      first | exact ⟨rfl, hR, Below.refl _ _⟩ | exact ⟨⟨rfl, rfl⟩, hR, Below.refl _ _⟩ | exact ⟨⟨rfl, fun h => absurd h (by decide)⟩, hR, Below.refl _ _⟩ | exact ⟨⟨rfl, rfl, fun h => absurd h (by decide)⟩, hR, Below.refl _ _⟩
    | 2, _, ho =>
      clear hsk
      cases ho
      have e10 : ev (.tmp 10) = .agg #[I r, .slice (some ⟨b1, o1, none⟩) ws.length c] := hd 0 10 (by kernel_rfl)
      have e11 : ev (.tmp 11) = .slice (some ⟨b2, o2, none⟩) sts.length d := hd 1 11 (by kernel_rfl)
      go_simp
      refine (allAt_c r _ _ c d ws _ 1 _ _ (.inr rfl) (h1.below hR.2.2 (Nat.le_refl _)) (by omega)).mono ?_
      rintro e wz ⟨rfl, hwz⟩
      first | exact ⟨rfl, ⟨hR.1.below hwz hR.1.lt, hR.2.1.below hwz hR.2.1.lt, hR.2.2.trans (hwz.mono hR.2.2.size)⟩, hwz⟩ | exact ⟨⟨rfl, rfl⟩, ⟨hR.1.below hwz hR.1.lt, hR.2.1.below hwz hR.2.1.lt, hR.2.2.trans (hwz.mono hR.2.2.size)⟩, hwz⟩ | exact ⟨⟨rfl, fun h => absurd h (by decide)⟩, ⟨hR.1.below hwz hR.1.lt, hR.2.1.below hwz hR.2.1.lt, hR.2.2.trans (hwz.mono hR.2.2.size)⟩, hwz⟩ | exact ⟨⟨rfl, rfl, fun h => absurd h (by decide)⟩, ⟨hR.1.below hwz hR.1.lt, hR.2.1.below hwz hR.2.1.lt, hR.2.2.trans (hwz.mono hR.2.2.size)⟩, hwz⟩
    | 3, _, ho =>
      clear hsk
      cases ho
      have e2 : ev (.tmp 2) = I (k : Int) := hs 2 (by kernel_rfl)
      go_simp
      first | exact ⟨rfl, hR, Below.refl _ _⟩ | exact ⟨⟨rfl, rfl⟩, hR, Below.refl _ _⟩ | exact ⟨⟨rfl, fun h => absurd h (by decide)⟩, hR, Below.refl _ _⟩ | exact ⟨⟨rfl, rfl, fun h => absurd h (by decide)⟩, hR, Below.refl _ _⟩
    | 4, _, ho =>
      clear hsk
      cases ho
      have e13 : ev (.tmp 13) = I (k : Int) := hd 3 13 (by kernel_rfl)
      have ew : IntKind.i64.wrap ((k : Int) - 1) = ((k - 1 : Nat) : Int) := by rw [IntWalk.i64_in _ (by omega)]; omega
      go_simp
      first | exact ⟨rfl, hR, Below.refl _ _⟩ | exact ⟨⟨rfl, rfl⟩, hR, Below.refl _ _⟩ | exact ⟨⟨rfl, fun h => absurd h (by decide)⟩, hR, Below.refl _ _⟩ | exact ⟨⟨rfl, rfl, fun h => absurd h (by decide)⟩, hR, Below.refl _ _⟩
    | 5, _, ho =>
      clear hsk
      cases ho
      have e4 : ev (.tmp 4) = .pointer (some ⟨w.heap.size, 0, none⟩) := hs 4 (by kernel_rfl)
      go_simp
      first | exact ⟨rfl, hR, Below.refl _ _⟩ | exact ⟨⟨rfl, rfl⟩, hR, Below.refl _ _⟩ | exact ⟨⟨rfl, fun h => absurd h (by decide)⟩, hR, Below.refl _ _⟩ | exact ⟨⟨rfl, rfl, fun h => absurd h (by decide)⟩, hR, Below.refl _ _⟩
    | 6, _, ho =>
      clear hsk
      cases ho
      have e15 : ev (.tmp 15) = .pointer (some ⟨w.heap.size, 0, none⟩) := hd 5 15 (by kernel_rfl)
      have m4 := hR.1.cell
      go_simp
      first | exact ⟨rfl, hR, Below.refl _ _⟩ | exact ⟨⟨rfl, rfl⟩, hR, Below.refl _ _⟩ | exact ⟨⟨rfl, fun h => absurd h (by decide)⟩, hR, Below.refl _ _⟩ | exact ⟨⟨rfl, rfl, fun h => absurd h (by decide)⟩, hR, Below.refl _ _⟩
    | 7, _, ho =>
      clear hsk
      cases ho
      have e12 : ev (.tmp 12) = tv (some ⟨b1, o1, none⟩) ws.length c (some ⟨b2, o2, none⟩) sts.length d (endp ws 1 0) (endp ws 1 1) (endp ws 1 2) (endp ws 1 3) (endp ws 1 4) (endp ws 1 5) (endp ws 1 6) (endp ws 1 7) := hd 2 12 (by kernel_rfl)
      have e14 : ev (.tmp 14) = I ((k - 1 : Nat) : Int) := hd 4 14 (by kernel_rfl)
      have e16 : ev (.tmp 16) = I r := hd 6 16 (by kernel_rfl)
      go_simp
      have hlv := leaves_c (some ⟨b1, o1, none⟩) (some ⟨b2, o2, none⟩) c d (endp ws 1 0) (endp ws 1 1) (endp ws 1 2) (endp ws 1 3) (endp ws 1 4) (endp ws 1 5) (endp ws 1 6) (endp ws 1 7) ws sts (k - 1) _ _ w' (h1.below hR.2.2 (Nat.le_refl _)) (Sl.below h2 hR.2.2 (Nat.le_refl _)) HSE.out (by omega) (by unfold maxLen; omega) r (by omega) (by omega)
      rw [show passed ws sts [endp ws 1 0, endp ws 1 1, endp ws 1 2, endp ws 1 3, endp ws 1 4, endp ws 1 5, endp ws 1 6, endp ws 1 7] (k - 1) (r + (gW ws (k - 1)).len) = unt r ws sts k from passed_congr _ fun j hj => eps_his ws (by omega) j (by omega)] at hlv
      refine hlv.mono ?_
      rintro e wz ⟨rfl, hwz⟩
      first | exact ⟨rfl, ⟨hR.1.below hwz hR.1.lt, hR.2.1.below hwz hR.2.1.lt, hR.2.2.trans (hwz.mono hR.2.2.size)⟩, hwz⟩ | exact ⟨⟨rfl, rfl⟩, ⟨hR.1.below hwz hR.1.lt, hR.2.1.below hwz hR.2.1.lt, hR.2.2.trans (hwz.mono hR.2.2.size)⟩, hwz⟩ | exact ⟨⟨rfl, fun h => absurd h (by decide)⟩, ⟨hR.1.below hwz hR.1.lt, hR.2.1.below hwz hR.2.1.lt, hR.2.2.trans (hwz.mono hR.2.2.size)⟩, hwz⟩ | exact ⟨⟨rfl, rfl, fun h => absurd h (by decide)⟩, ⟨hR.1.below hwz hR.1.lt, hR.2.1.below hwz hR.2.1.lt, hR.2.2.trans (hwz.mono hR.2.2.size)⟩, hwz⟩
    | 8, _, ho =>
      clear hsk
      cases ho
      have e17 : ev (.tmp 17) = I (unt r ws sts k) := hd 7 17 (by kernel_rfl)
      go_simp
      first | exact ⟨rfl, hR, Below.refl _ _⟩ | exact ⟨⟨rfl, rfl⟩, hR, Below.refl _ _⟩ | exact ⟨⟨rfl, fun h => absurd h (by decide)⟩, hR, Below.refl _ _⟩ | exact ⟨⟨rfl, rfl, fun h => absurd h (by decide)⟩, hR, Below.refl _ _⟩
    | n + 9, hi, _ => exact absurd hi (by simp)
  intro ρ w1 hR hρ hne K hK
  have p8 : ρ 8 = I (unt r ws sts k) := hρ 8 (by simp)
  show K (putAll _ _ ρ 9) _
  simp only [putAll, dOf, List.getElem?_toArray, List.getElem?_cons_zero, List.getElem?_cons_succ, Option.bind_some, Act.put, List.setIfInBounds_toArray, List.set_cons_zero, List.set_cons_succ]
  rw [p8]
  refine hK _ _ ?_
  change wpList _ _ _ [] _ _
  obtain ⟨y0, y1, hB1⟩ := hR
  clear hK K p8 hρ hne x0 x1 hB
  go_wp2_with fail
  refine wp_region_list_s (by kernel_rfl) (R := (fun w' => Bx w' w.heap.size 24 #[I r, .slice (some ⟨b1, o1, none⟩) ws.length c] ∧ (∃ a b c : Int, Bx w' (w.heap.size + 1) 112 #[I a, I b, I c]) ∧ Below w.heap.size w w')) (F := (fun wa wb => Bx wa (w.heap.size + 1) 112 #[I (k : Int), I (wpS r ws sts k e), I (wpG r ws sts k e)] → Bx wb (w.heap.size + 1) 112 #[I (k : Int), I (wpS r ws sts k e), I (wpG r ws sts k e)])) [] [] [(13, 12)]
      [As.is _ _ (.agg #[I r, .slice (some ⟨b1, o1, none⟩) ws.length c]),
      As.is _ _ (.slice (some ⟨b2, o2, none⟩) sts.length d),
      As.is _ _ (I (k : Int)),
      As.is _ _ (I (e : Int)),
      As.is _ _ (tv (some ⟨b1, o1, none⟩) ws.length c (some ⟨b2, o2, none⟩) sts.length d (apl ws k e 0) (apl ws k e 1) (apl ws k e 2) (apl ws k e 3) (apl ws k e 4) (apl ws k e 5) (apl ws k e 6) (apl ws k e 7)),
      As.is _ _ (.func (.func 86) #[tv (some ⟨b1, o1, none⟩) ws.length c (some ⟨b2, o2, none⟩) sts.length d (apl ws k e 0) (apl ws k e 1) (apl ws k e 2) (apl ws k e 3) (apl ws k e 4) (apl ws k e 5) (apl ws k e 6) (apl ws k e 7)] #[]),
      As.is _ _ (I (k : Int)),
      As.is _ _ (.slice (some ⟨b2, o2, none⟩) sts.length d),
      As.is _ _ (I (k : Int)),
      As.is _ _ (.pointer (some ⟨b2, o2 + k, none⟩)),
      As.is _ _ (I (gI sts k)),
      As.is _ _ (I (unt r ws sts k)),
      As.is _ _ (.agg #[I (k : Int), I (wpS r ws sts k e), I (wpG r ws sts k e)]),
      (⟨fun _ w' => Bx w' (w.heap.size + 1) 112 #[I (k : Int), I (wpS r ws sts k e), I (wpG r ws sts k e)], fun _ _ _ _ _ hF h => hF h⟩ : As _ _)] 31 (by kernel_rfl) rfl (⟨y0.below (Below.refl _ _).drew y0.lt, ⟨_, _, _, y1.below (Below.refl _ _).drew y1.lt⟩, hB1.drew⟩) (by simp) (by simp) ?_ (fun _ => id) ?_ ?_ ?_
  · intro i' hi' o' ho k' b' hg u w' hR hu
    match i', hi', ho with
    | 0, _, ho => cases ho; cases hg
    | 1, _, ho => cases ho; cases hg
    | 2, _, ho => cases ho; cases hg
    | 3, _, ho => cases ho; cases hg
    | 4, _, ho => cases ho; cases hg
    | 5, _, ho => cases ho; cases hg
    | 6, _, ho => cases ho; cases hg
    | 7, _, ho => cases ho; cases hg
    | 8, _, ho => cases ho; cases hg
    | 9, _, ho => cases ho; cases hg
    | 10, _, ho => cases ho; cases hg
    | 11, _, ho => cases ho; cases hg
    | 12, _, ho => cases ho; cases hg
    | 13, _, ho => cases ho; cases hg
    | n + 14, hi, _ => exact absurd hi (by simp)
  · intro i' hi' hsk; cases hsk
  · intro i' hi' hsk o' ho ev w' hR hc hf hg hs hd
    match i', hi', ho with
    | 0, _, ho =>
      clear hsk
      cases ho
      have e4 : ev (.tmp 4) = .pointer (some ⟨w.heap.size, 0, none⟩) := hs 4 (by kernel_rfl)
      have m4 := hR.1.cell
      go_simp
      first | exact ⟨rfl, hR, id⟩ | exact ⟨⟨rfl, rfl⟩, hR, id⟩ | exact ⟨⟨rfl, fun h => absurd h (by decide)⟩, hR, id⟩ | exact ⟨⟨rfl, rfl, fun h => absurd h (by decide)⟩, hR, id⟩
    | 1, _, ho =>
      clear hsk
      cases ho
      have e1 : ev (.tmp 1) = .slice (some ⟨b2, o2, none⟩) sts.length d := hs 1 (by kernel_rfl)
      go_simp
      first | exact ⟨rfl, hR, id⟩ | exact ⟨⟨rfl, rfl⟩, hR, id⟩ | exact ⟨⟨rfl, fun h => absurd h (by decide)⟩, hR, id⟩ | exact ⟨⟨rfl, rfl, fun h => absurd h (by decide)⟩, hR, id⟩
    | 2, _, ho =>
      clear hsk
      cases ho
      have e2 : ev (.tmp 2) = I (k : Int) := hs 2 (by kernel_rfl)
      go_simp
      first | exact ⟨rfl, hR, id⟩ | exact ⟨⟨rfl, rfl⟩, hR, id⟩ | exact ⟨⟨rfl, fun h => absurd h (by decide)⟩, hR, id⟩ | exact ⟨⟨rfl, rfl, fun h => absurd h (by decide)⟩, hR, id⟩
    | 3, _, ho =>
      clear hsk
      cases ho
      have e3 : ev (.tmp 3) = I (e : Int) := hs 3 (by kernel_rfl)
      go_simp
      first | exact ⟨rfl, hR, id⟩ | exact ⟨⟨rfl, rfl⟩, hR, id⟩ | exact ⟨⟨rfl, fun h => absurd h (by decide)⟩, hR, id⟩ | exact ⟨⟨rfl, rfl, fun h => absurd h (by decide)⟩, hR, id⟩
    | 4, _, ho =>
      clear hsk
      cases ho
      have e18 : ev (.tmp 18) = .agg #[I r, .slice (some ⟨b1, o1, none⟩) ws.length c] := hd 0 18 (by kernel_rfl)
      have e19 : ev (.tmp 19) = .slice (some ⟨b2, o2, none⟩) sts.length d := hd 1 19 (by kernel_rfl)
      have e20 : ev (.tmp 20) = I (k : Int) := hd 2 20 (by kernel_rfl)
      have e21 : ev (.tmp 21) = I (e : Int) := hd 3 21 (by kernel_rfl)
      go_simp
      refine (apart_c r (some ⟨b1, o1, none⟩) _ c d ws _ k e _ _ he (h1.below hR.2.2 (Nat.le_refl _)) (by omega) hk).mono ?_
      rintro e' wz ⟨rfl, hwz⟩
      first | exact ⟨rfl, ⟨hR.1.below hwz hR.1.lt, hR.2.1.imp fun _ h => h.imp fun _ h => h.imp fun _ h => h.below hwz h.lt, hR.2.2.trans (hwz.mono hR.2.2.size)⟩, (fun h => h.below hwz h.lt)⟩ | exact ⟨⟨rfl, rfl⟩, ⟨hR.1.below hwz hR.1.lt, hR.2.1.imp fun _ h => h.imp fun _ h => h.imp fun _ h => h.below hwz h.lt, hR.2.2.trans (hwz.mono hR.2.2.size)⟩, (fun h => h.below hwz h.lt)⟩ | exact ⟨⟨rfl, fun h => absurd h (by decide)⟩, ⟨hR.1.below hwz hR.1.lt, hR.2.1.imp fun _ h => h.imp fun _ h => h.imp fun _ h => h.below hwz h.lt, hR.2.2.trans (hwz.mono hR.2.2.size)⟩, (fun h => h.below hwz h.lt)⟩ | exact ⟨⟨rfl, rfl, fun h => absurd h (by decide)⟩, ⟨hR.1.below hwz hR.1.lt, hR.2.1.imp fun _ h => h.imp fun _ h => h.imp fun _ h => h.below hwz h.lt, hR.2.2.trans (hwz.mono hR.2.2.size)⟩, (fun h => h.below hwz h.lt)⟩
    | 5, _, ho =>
      clear hsk
      cases ho
      have e22 : ev (.tmp 22) = tv (some ⟨b1, o1, none⟩) ws.length c (some ⟨b2, o2, none⟩) sts.length d (apl ws k e 0) (apl ws k e 1) (apl ws k e 2) (apl ws k e 3) (apl ws k e 4) (apl ws k e 5) (apl ws k e 6) (apl ws k e 7) := hd 4 22 (by kernel_rfl)
      go_simp
      first | exact ⟨rfl, hR, id⟩ | exact ⟨⟨rfl, rfl⟩, hR, id⟩ | exact ⟨⟨rfl, fun h => absurd h (by decide)⟩, hR, id⟩ | exact ⟨⟨rfl, rfl, fun h => absurd h (by decide)⟩, hR, id⟩
    | 6, _, ho =>
      clear hsk
      cases ho
      have e2 : ev (.tmp 2) = I (k : Int) := hs 2 (by kernel_rfl)
      go_simp
      first | exact ⟨rfl, hR, id⟩ | exact ⟨⟨rfl, rfl⟩, hR, id⟩ | exact ⟨⟨rfl, fun h => absurd h (by decide)⟩, hR, id⟩ | exact ⟨⟨rfl, rfl, fun h => absurd h (by decide)⟩, hR, id⟩
    | 7, _, ho =>
      clear hsk
      cases ho
      have e1 : ev (.tmp 1) = .slice (some ⟨b2, o2, none⟩) sts.length d := hs 1 (by kernel_rfl)
      go_simp
      first | exact ⟨rfl, hR, id⟩ | exact ⟨⟨rfl, rfl⟩, hR, id⟩ | exact ⟨⟨rfl, fun h => absurd h (by decide)⟩, hR, id⟩ | exact ⟨⟨rfl, rfl, fun h => absurd h (by decide)⟩, hR, id⟩
    | 8, _, ho =>
      clear hsk
      cases ho
      have e2 : ev (.tmp 2) = I (k : Int) := hs 2 (by kernel_rfl)
      go_simp
      first | exact ⟨rfl, hR, id⟩ | exact ⟨⟨rfl, rfl⟩, hR, id⟩ | exact ⟨⟨rfl, fun h => absurd h (by decide)⟩, hR, id⟩ | exact ⟨⟨rfl, rfl, fun h => absurd h (by decide)⟩, hR, id⟩
    | 9, _, ho =>
      clear hsk
      cases ho
      have e25 : ev (.tmp 25) = .slice (some ⟨b2, o2, none⟩) sts.length d := hd 7 25 (by kernel_rfl)
      have e26 : ev (.tmp 26) = I (k : Int) := hd 8 26 (by kernel_rfl)
      have hks : (k : Int) < (sts.length : Int) := by omega
      have hkn : k < sts.length := by omega
      go_simp
      first | exact ⟨rfl, hR, id⟩ | exact ⟨⟨rfl, rfl⟩, hR, id⟩ | exact ⟨⟨rfl, fun h => absurd h (by decide)⟩, hR, id⟩ | exact ⟨⟨rfl, rfl, fun h => absurd h (by decide)⟩, hR, id⟩
    | 10, _, ho =>
      clear hsk
      cases ho
      have e27 : ev (.tmp 27) = .pointer (some ⟨b2, o2 + k, none⟩) := hd 9 27 (by kernel_rfl)
      have m2 := SlI.cellG (Sl.below h2 hR.2.2 (Nat.le_refl _)) (show k < sts.length by omega)
      go_simp
      first | exact ⟨rfl, hR, id⟩ | exact ⟨⟨rfl, rfl⟩, hR, id⟩ | exact ⟨⟨rfl, fun h => absurd h (by decide)⟩, hR, id⟩ | exact ⟨⟨rfl, rfl, fun h => absurd h (by decide)⟩, hR, id⟩
    | 11, _, ho =>
      clear hsk
      cases ho
      have e9 : ev (.tmp 9) = I (unt r ws sts k) := hs 9 (by kernel_rfl)
      go_simp
      first | exact ⟨rfl, hR, id⟩ | exact ⟨⟨rfl, rfl⟩, hR, id⟩ | exact ⟨⟨rfl, fun h => absurd h (by decide)⟩, hR, id⟩ | exact ⟨⟨rfl, rfl, fun h => absurd h (by decide)⟩, hR, id⟩
    | 12, _, ho =>
      clear hsk
      cases ho
      have e23 : ev (.tmp 23) = .func (.func 86) #[tv (some ⟨b1, o1, none⟩) ws.length c (some ⟨b2, o2, none⟩) sts.length d (apl ws k e 0) (apl ws k e 1) (apl ws k e 2) (apl ws k e 3) (apl ws k e 4) (apl ws k e 5) (apl ws k e 6) (apl ws k e 7)] #[] := hd 5 23 (by kernel_rfl)
      have e24 : ev (.tmp 24) = I (k : Int) := hd 6 24 (by kernel_rfl)
      have e28 : ev (.tmp 28) = I (gI sts k) := hd 10 28 (by kernel_rfl)
      have e29 : ev (.tmp 29) = I (unt r ws sts k) := hd 11 29 (by kernel_rfl)
      have hpk := peak_c (tv (some ⟨b1, o1, none⟩) ws.length c (some ⟨b2, o2, none⟩) sts.length d (apl ws k e 0) (apl ws k e 1) (apl ws k e 2) (apl ws k e 3) (apl ws k e 4) (apl ws k e 5) (apl ws k e 6) (apl ws k e 7)) (gapE ws sts k e) (k : Int) (gI sts k) (unt r ws sts k) w' (by omega) (by omega) (by omega) (by omega) (fun W' hW' t ht1 ht2 => by
        have hg := gapT_c (some ⟨b1, o1, none⟩) (some ⟨b2, o2, none⟩) c d (apl ws k e 0) (apl ws k e 1) (apl ws k e 2) (apl ws k e 3) (apl ws k e 4) (apl ws k e 5) (apl ws k e 6) (apl ws k e 7) ws sts k _ _ W' (h1.below (hR.2.2.trans (hW'.mono hR.2.2.size)) (Nat.le_refl _)) (Sl.below h2 (hR.2.2.trans (hW'.mono hR.2.2.size)) (Nat.le_refl _)) (by omega) (by unfold maxLen; omega) (k - 1) (by omega) HSA.out t (by omega) (by omega)
        have eg := gapE_eq (sts := sts) (t := t) hk h0 (by omega) he
        unfold apls at eg
        rw [eg] at hg
        exact hg) (fun a b hab h => gapE_after hv hk h0 he a b hab h)
      unfold gv at hpk
      go_simp
      refine hpk.mono ?_
      rintro e' wz ⟨hwz, hret⟩
      have hres : e' = .returned (.agg #[I (k : Int), I (wpS r ws sts k e), I (wpG r ws sts k e)]) := by
        unfold wpS wpG pkS pkG
        split at hret
        · rename_i hc; rw [if_pos hc, if_pos hc]; exact hret
        · rename_i hc; rw [if_neg hc, if_neg hc]; exact hret
      subst hres
      first | exact ⟨rfl, ⟨hR.1.below hwz hR.1.lt, hR.2.1.imp fun _ h => h.imp fun _ h => h.imp fun _ h => h.below hwz h.lt, hR.2.2.trans (hwz.mono hR.2.2.size)⟩, (fun h => h.below hwz h.lt)⟩ | exact ⟨⟨rfl, rfl⟩, ⟨hR.1.below hwz hR.1.lt, hR.2.1.imp fun _ h => h.imp fun _ h => h.imp fun _ h => h.below hwz h.lt, hR.2.2.trans (hwz.mono hR.2.2.size)⟩, (fun h => h.below hwz h.lt)⟩ | exact ⟨⟨rfl, fun h => absurd h (by decide)⟩, ⟨hR.1.below hwz hR.1.lt, hR.2.1.imp fun _ h => h.imp fun _ h => h.imp fun _ h => h.below hwz h.lt, hR.2.2.trans (hwz.mono hR.2.2.size)⟩, (fun h => h.below hwz h.lt)⟩ | exact ⟨⟨rfl, rfl, fun h => absurd h (by decide)⟩, ⟨hR.1.below hwz hR.1.lt, hR.2.1.imp fun _ h => h.imp fun _ h => h.imp fun _ h => h.below hwz h.lt, hR.2.2.trans (hwz.mono hR.2.2.size)⟩, (fun h => h.below hwz h.lt)⟩
    | 13, _, ho =>
      clear hsk
      cases ho
      have e8 : ev (.tmp 8) = .pointer (some ⟨w.heap.size + 1, 0, none⟩) := hs 8 (by kernel_rfl)
      have e30 : ev (.tmp 30) = .agg #[I (k : Int), I (wpS r ws sts k e), I (wpG r ws sts k e)] := hd 12 30 (by kernel_rfl)
      obtain ⟨a, b, c', hbx⟩ := hR.2.1
      have hcx := hbx.cell
      have hfx := hbx.free
      have hput := ((hbx.set_ 0 (I (k : Int))).set_ 1 (I (wpS r ws sts k e))).set_ 2 (I (wpG r ws sts k e))
      change Bx _ _ _ #[I (k : Int), I (wpS r ws sts k e), I (wpG r ws sts k e)] at hput
      go_simp
      first | exact ⟨⟨rfl, fun t ht => hput⟩, ⟨(((hR.1.far (p := ⟨w.heap.size + 1, 0, none⟩) (by simp only []; omega) _).far (p := ⟨w.heap.size + 1, 1, none⟩) (by simp only []; omega) _).far (p := ⟨w.heap.size + 1, 2, none⟩) (by simp only []; omega) _), ⟨_, _, _, hput⟩, (((hR.2.2.setCell (p := ⟨w.heap.size + 1, 0, none⟩) (by simp only []; omega) _).setCell (p := ⟨w.heap.size + 1, 1, none⟩) (by simp only []; omega) _).setCell (p := ⟨w.heap.size + 1, 2, none⟩) (by simp only []; omega) _)⟩, fun _ => hput⟩ | exact ⟨fun t ht => hput, ⟨(((hR.1.far (p := ⟨w.heap.size + 1, 0, none⟩) (by simp only []; omega) _).far (p := ⟨w.heap.size + 1, 1, none⟩) (by simp only []; omega) _).far (p := ⟨w.heap.size + 1, 2, none⟩) (by simp only []; omega) _), ⟨_, _, _, hput⟩, (((hR.2.2.setCell (p := ⟨w.heap.size + 1, 0, none⟩) (by simp only []; omega) _).setCell (p := ⟨w.heap.size + 1, 1, none⟩) (by simp only []; omega) _).setCell (p := ⟨w.heap.size + 1, 2, none⟩) (by simp only []; omega) _)⟩, fun _ => hput⟩ | exact ⟨hput, ⟨(((hR.1.far (p := ⟨w.heap.size + 1, 0, none⟩) (by simp only []; omega) _).far (p := ⟨w.heap.size + 1, 1, none⟩) (by simp only []; omega) _).far (p := ⟨w.heap.size + 1, 2, none⟩) (by simp only []; omega) _), ⟨_, _, _, hput⟩, (((hR.2.2.setCell (p := ⟨w.heap.size + 1, 0, none⟩) (by simp only []; omega) _).setCell (p := ⟨w.heap.size + 1, 1, none⟩) (by simp only []; omega) _).setCell (p := ⟨w.heap.size + 1, 2, none⟩) (by simp only []; omega) _)⟩, fun _ => hput⟩
    | n + 14, hi, _ => exact absurd hi (by simp)
  intro ρ w2 hR hρ hne K hK
  have f3 : Bx w2 (w.heap.size + 1) 112 #[I (k : Int), I (wpS r ws sts k e), I (wpG r ws sts k e)] := hρ 13 (by simp)
  show K (putAll _ _ ρ 14) _
  simp only [putAll, dOf, List.getElem?_toArray, List.getElem?_cons_zero, List.getElem?_cons_succ, Option.bind_some, Act.put, List.setIfInBounds_toArray, List.set_cons_zero, List.set_cons_succ]
  refine hK _ _ ?_
  change wpList _ _ _ [] _ _
  obtain ⟨_, _, hB2⟩ := hR
  clear hK K hρ hne y0 y1 hB1
  have hcf := f3.cell
  go_wp2_with fail
  exact bodyPost_ret (v := .agg #[I (k : Int), I (wpS r ws sts k e), I (wpG r ws sts k e)]) (by simp [results, Try.results102, go_sem, hcf]) rfl ⟨rfl, hB2⟩

set_option maxRecDepth 100000 in
theorem field_gap (a b c : Value) (w : World) : (Instr.field 112 (.agg #[a, b, c]) 2).run Try.prog w = .ok c w := by kernel_rfl
attribute [local go_sem] field_gap
/-- Whether the gap of a wing is too wide. -/
def opnV (r : Int) (ws : List Wg) (sts : List Int) (k : Nat) (g : Int) : Int := if g < wpG r ws sts k 1 then 1 else if g < wpG r ws sts k 0 then 3 else 2
set_option maxRecDepth 100000 in
set_option maxHeartbeats 2000000 in
theorem opens_c (r : Int) (A B : Option Addr) (c d : Nat) (ws : List Wg) (sts : List Int) (k : Nat) (g : Int) (T1 T2 : TypeId) (w : World) (h1 : SlW w T1 A ws) (h2 : SlI w T2 B sts) (hv : VSt r ws sts) (hk : k < ws.length) (h0 : k ≠ 0) :
    Calls Try.prog 88 #[.agg #[I r, .slice A ws.length c], .slice B sts.length d, I (k : Int), I g] w fun e' w' => e' = .returned (I (opnV r ws sts k g)) ∧ Below w.heap.size w w' := by
  have x0 := Bx.new w 24 #[I r, .slice A ws.length c]
  have hB := (Below.refl w.heap.size w).alloc (Nat.le_refl _) (.cells #[I r, .slice A ws.length c] 24)
  have hc0 := x0.cell
  go_enter Try.func88, Try.ntmps88
  go_wp2_with fail
  refine (watchedPeak_c r A B c d ws sts k 1 T1 T2 _ (h1.below hB (Nat.le_refl _)) (Sl.below h2 hB (Nat.le_refl _)) hv hk h0 (.inr rfl)).mono ?_
  rintro e w1 ⟨rfl, hb1⟩
  have x1 := x0.below hb1 x0.lt
  have hB1 := hB.trans (hb1.mono hB.size)
  clear hc0 x0
  have hc1 := x1.cell
  by_cases g1 : g < wpG r ws sts k 1
  · go_wp2_with fail
    go_ret
    exact ⟨ret_int (by unfold opnV; rw [if_pos (by omega)]), hB1⟩
  · go_wp2_with fail
    refine (watchedPeak_c r A B c d ws sts k 0 T1 T2 _ (h1.below hB1 (Nat.le_refl _)) (Sl.below h2 hB1 (Nat.le_refl _)) hv hk h0 (.inl rfl)).mono ?_
    rintro e w2 ⟨rfl, hb2⟩
    have hB2 := hB1.trans (hb2.mono hB1.size)
    by_cases g2 : g < wpG r ws sts k 0
    · go_wp2_with fail
      go_ret
      exact ⟨ret_int (by unfold opnV; rw [if_neg (by omega), if_pos (by omega)]), hB2⟩
    · go_wp2_with fail
      go_ret
      exact ⟨ret_int (by unfold opnV; rw [if_neg (by omega), if_neg (by omega)]), hB2⟩
end Go.Proofs.Ytnihkgdkdinliaa
