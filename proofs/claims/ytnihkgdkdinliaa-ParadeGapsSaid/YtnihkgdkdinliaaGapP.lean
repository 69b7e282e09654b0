/- Gap: the program. Own work; imports no translation. -/
import Derived.Test.YtnihkgdkdinliaaWhere
namespace Go.Proofs.Ytnihkgdkdinliaa
open Go.RowKit
set_option linter.unusedVariables false
set_option linter.unusedSimpArgs false

/-- The gap of wing k: the wings before it go at these paces, it goes at p. -/
def gapF (ws : List Wg) (sts ps : List Int) (p : Int) (t : Int) (k : Nat) : Int := max 0 (front ws sts ps t (k - 1) - (gW ws (k - 1)).len - p * (t - gI sts k))
def gaE (r : Int) (ws : List Wg) (sts : List Int) (wing t : Int) : Int := if mom r ws sts wing t ≠ 0 then mom r ws sts wing t else if wing = 0 then 7 else 0
def gaLo (r : Int) (ws : List Wg) (sts : List Int) (wing t : Int) : Int := if gaE r ws sts wing t = 0 then gapF ws sts (los ws) (gW ws wing.toNat).hi t wing.toNat else 0
def gaHi (r : Int) (ws : List Wg) (sts : List Int) (wing t : Int) : Int := if gaE r ws sts wing t = 0 then gapF ws sts (his ws) (gW ws wing.toNat).lo t wing.toNat else 0
theorem gaE_m {r : Int} {ws : List Wg} {sts : List Int} {wing t : Int} (h : mom r ws sts wing t ≠ 0) : gaE r ws sts wing t = mom r ws sts wing t := by unfold gaE; rw [if_pos h]
theorem gaE_z {r : Int} {ws : List Wg} {sts : List Int} {wing t : Int} (h : mom r ws sts wing t = 0) (h2 : wing = 0) : gaE r ws sts wing t = 7 := by unfold gaE; rw [if_neg (by simpa using h), if_pos h2]
theorem gaE_ok {r : Int} {ws : List Wg} {sts : List Int} {wing t : Int} (h : mom r ws sts wing t = 0) (h2 : wing ≠ 0) : gaE r ws sts wing t = 0 := by unfold gaE; rw [if_neg (by simpa using h), if_neg h2]
theorem gaE_val {r : Int} {ws : List Wg} {sts : List Int} {wing t : Int} (h : gaE r ws sts wing t = 0) : mom r ws sts wing t = 0 ∧ wing ≠ 0 := by
  by_cases a : mom r ws sts wing t = 0
  · by_cases b : wing = 0
    · rw [gaE_z a b] at h; exact absurd h (by decide)
    · exact ⟨a, b⟩
  · rw [gaE_m a] at h; exact absurd h a

/-- The paces of apart: wing k at the end e, the others at the other end. -/
theorem apls_at {ws : List Wg} {k e j : Nat} (hj : j < ws.length) (hl : ws.length ≤ 8) (he : e = 0 ∨ e = 1) : gI (apls ws k e) j = if j = k then (if e = 0 then (gW ws j).lo else (gW ws j).hi) else (if e = 0 then (gW ws j).hi else (gW ws j).lo) := by
  rw [gI_apls _ _ _ _ (by omega)]
  unfold apl endp
  rcases he with rfl | rfl
  · by_cases h : j = k
    · subst h; simp [hj]
    · simp [h, hj]
  · by_cases h : j = k
    · subst h; simp [hj]
    · simp [h, hj]
theorem Val.smAp {r : Int} {ws : List Wg} (h : Val r ws) {sts : List Int} {i k e : Nat} (hi : i < ws.length) (hl : i < sts.length) (hb : StB sts (i + 1)) (he : e = 0 ∨ e = 1) : Sm ws sts (apls ws k e) i := by
  have := h.n2
  refine ⟨hi, hl, by simp [apls]; omega, by omega, fun j hj => ?_⟩
  obtain ⟨_, a1, a2, a3, a4, a5, a6, a7⟩ := h.all j (by omega)
  have := hb j (by omega)
  rw [apls_at (by omega) (by omega) he]
  split <;> split <;> omega
theorem gap_eq {ws : List Wg} {sts ps ps' : List Int} {t : Int} {i : Nat} (h : ∀ j, j ≤ i → gI ps j = gI ps' j) :
    front ws sts ps t i - (gW ws i).len - front ws sts ps t (i + 1) = gapF ws sts ps' (gI ps (i + 1)) t (i + 1) := by
  unfold gapF
  rw [show front ws sts ps t (i + 1) = min (gI ps (i + 1) * (t - gI sts (i + 1))) (front ws sts ps t i - (gW ws i).len) from rfl, show i + 1 - 1 = i from rfl, front_congr t i h]
  generalize gI ps (i + 1) * (t - gI sts (i + 1)) = x
  omega
theorem gap_hi {ws : List Wg} {sts : List Int} {t : Int} {i : Nat} (hk : i + 1 < ws.length) (hl : ws.length ≤ 8) :
    front ws sts (apls ws (i + 1) 0) t i - (gW ws i).len - front ws sts (apls ws (i + 1) 0) t (i + 1) = gapF ws sts (his ws) (gW ws (i + 1)).lo t (i + 1) := by
  rw [gap_eq (ps' := his ws) fun j hj => by rw [apls_at (by omega) hl (.inl rfl), if_neg (by omega), if_pos rfl, gI_his _ _ (by omega)], apls_at (by omega) hl (.inl rfl), if_pos rfl, if_pos rfl]
theorem gap_lo {ws : List Wg} {sts : List Int} {t : Int} {i : Nat} (hk : i + 1 < ws.length) (hl : ws.length ≤ 8) :
    front ws sts (apls ws (i + 1) 1) t i - (gW ws i).len - front ws sts (apls ws (i + 1) 1) t (i + 1) = gapF ws sts (los ws) (gW ws (i + 1)).hi t (i + 1) := by
  rw [gap_eq (ps' := los ws) fun j hj => by rw [apls_at (by omega) hl (.inr rfl), if_neg (by omega), if_neg (by decide), gI_los _ _ (by omega)], apls_at (by omega) hl (.inr rfl), if_pos rfl, if_neg (by decide)]

section
variable (r : Int) (A B : Option Addr) (c d : Nat) (ws : List Wg) (sts : List Int) (T1 T2 : TypeId) (w : World) (h1 : SlW w T1 A ws) (h2 : SlI w T2 B sts) (hf : Fit ws) (hl1 : ws.length ≤ maxLen) (hc : ws.length ≤ c) (hl2 : sts.length ≤ maxLen) (hd : sts.length ≤ d)
include h1 h2 hf hl1 hc hl2 hd

set_option maxRecDepth 100000 in
set_option maxHeartbeats 1000000 in
theorem gapP_c (wing t : Int) :
    Calls Try.prog 40 #[.agg #[I r, .slice A ws.length c], .slice B sts.length d, I wing, I t] w fun e w' => e = .returned (.tuple #[Sp (gaLo r ws sts wing t) (gaHi r ws sts wing t), I (gaE r ws sts wing t)]) ∧ Below w.heap.size w w' := by
  have hb0 := Bx.new w 24 #[I r, .slice A ws.length c]
  have hb8 : Bx ((w.alloc (.cells #[I r, .slice A ws.length c] 24)).alloc (.cells #[I 0, I 0] 27)) (w.heap.size + 1) 27 #[I 0, I 0] := Bx.new' _ _ _ _ (by simp)
  have hW0 : Below w.heap.size w ((w.alloc (.cells #[I r, .slice A ws.length c] 24)).alloc (.cells #[I 0, I 0] 27)) := ((Below.refl _ _).alloc (Nat.le_refl _) _).alloc (by simp) _
  have hcb := hb0.cell
  go_enter Try.func40, Try.ntmps40
  go_wp2_with fail
  refine (checkMoment_c r _ B c d ws sts T1 T2 _ (h1.below hW0 (Nat.le_refl _)) (h2.below hW0 (Nat.le_refl _)) hf hl1 hc hl2 hd _ _).mono ?_
  rintro e w1 ⟨rfl, hbw1⟩
  have hWb := hW0.trans (hbw1.mono hW0.size)
  have hb01 := (hb0.alloc (.cells #[I 0, I 0] 27)).below hbw1 (by simp; omega)
  have hb81 := hb8.below hbw1 (by simp)
  clear hcb hb0 hb8
  have hc0 := hb01.cell
  have hc8 := hb81.cell
  have hf8 := hb81.free
  by_cases a1 : mom r ws sts wing t = 0
  · have hz : (mom r ws sts wing t != 0) = false := by simp [a1]
    obtain ⟨a2, a3, a4⟩ := mom_val a1
    obtain ⟨a5, a6⟩ := wngE_val a2
    have hval := cst_val a5
    have hl8 := hval.n2
    have hlen := hval.len
    obtain ⟨k, rfl⟩ : ∃ k : Nat, wing = (k : Int) := ⟨wing.toNat, by omega⟩
    rw [Int.toNat_natCast] at a3
    have hst := hval.bd k (by omega)
    have hsl : Sm ws sts (apls ws k 0) k := hval.smAp (by omega) (by omega) (fun j hj => hval.bd j (by omega)) (.inl rfl)
    have hsh : Sm ws sts (apls ws k 1) k := hval.smAp (by omega) (by omega) (fun j hj => hval.bd j (by omega)) (.inr rfl)
    have Hlen := Lib.hid hlen
    have A1 := Lib.hid a1
    clear a1 a2 a5 hlen
    rcases hk0 : k with _ | i
    · subst hk0
      have E1 := Lib.hid (gaE_z A1.out rfl)
      have hzz : (((0 : Nat) : Int) == 0) = true := rfl
      have hz' : (mom r ws sts 0 t != 0) = false := hz
      clear A1
      go_wp2
      have hb9 := (hb81.set_ 0 (I 0)).set_ 1 (I 0)
      have hc9 := hb9.cell
      refine bodyPost_ret (v := .tuple #[Sp 0 0, I (7)]) (by simp [results, Try.results40, go_sem, hc9]) rfl ⟨?_, ?_⟩
      · rw [E1.out]
        unfold gaLo gaHi
        rw [if_neg (by rw [E1.out]; decide), if_neg (by rw [E1.out]; decide)]
      · repeat (refine Below.setCell ?_ (by simp only []; omega) _)
        exact hWb

    · have Hk := Lib.hid hk0
      rw [← hk0]
      have hzz : ((k : Int) == 0) = false := beq_eq_false_iff_ne.2 (by omega)
      have E1 := Lib.hid (gaE_ok A1.out (by omega : (k : Int) ≠ 0))
      clear hk0
      go_wp2_with fail
      refine wp_region_list_fr (by kernel_rfl) (R := RB (w1.heap.size) w1) (F := FB) [8, 9]
          [As.is _ _ (.agg #[I r, .slice A ws.length c]),
          As.is _ _ (.slice B sts.length d),
          As.is _ _ (I k),
          As.is _ _ (tv A ws.length c B sts.length d (apl ws k 1 0) (apl ws k 1 1) (apl ws k 1 2) (apl ws k 1 3) (apl ws k 1 4) (apl ws k 1 5) (apl ws k 1 6) (apl ws k 1 7)),
          As.is _ _ (.agg #[I r, .slice A ws.length c]),
          As.is _ _ (.slice B sts.length d),
          As.is _ _ (I k),
          As.is _ _ (tv A ws.length c B sts.length d (apl ws k 0 0) (apl ws k 0 1) (apl ws k 0 2) (apl ws k 0 3) (apl ws k 0 4) (apl ws k 0 5) (apl ws k 0 6) (apl ws k 0 7)),
          As.new _ _ 97 #[.slice none 0 0, .slice none 0 0, I 0, I 0, I 0, I 0, I 0, I 0, I 0, I 0],
          As.new _ _ 97 #[.slice none 0 0, .slice none 0 0, I 0, I 0, I 0, I 0, I 0, I 0, I 0, I 0]] 40 (by kernel_rfl) rfl ((Below.refl _ _).drew) ?_ ?_
      · intro i hi o ho ev w' hR hc hf hg hs hd
        match i, hi, ho with
        | 0, _, ho =>
          cases ho
          have e4 : ev (.tmp 4) = .pointer (some ⟨w.heap.size, 0, none⟩) := hs 4 (by kernel_rfl)
          have m4 := (hb01.below hR hb01.lt).cell
          go_simp
          first | exact ⟨rfl, hR, Below.refl _ _⟩ | exact ⟨⟨rfl, fun h => absurd h (by decide)⟩, hR, Below.refl _ _⟩
        | 1, _, ho =>
          cases ho
          have e1 : ev (.tmp 1) = .slice B sts.length d := hs 1 (by kernel_rfl)
          go_simp
          first | exact ⟨rfl, hR, Below.refl _ _⟩ | exact ⟨⟨rfl, fun h => absurd h (by decide)⟩, hR, Below.refl _ _⟩
        | 2, _, ho =>
          cases ho
          have e2 : ev (.tmp 2) = I k := hs 2 (by kernel_rfl)
          go_simp
          first | exact ⟨rfl, hR, Below.refl _ _⟩ | exact ⟨⟨rfl, fun h => absurd h (by decide)⟩, hR, Below.refl _ _⟩
        | 3, _, ho =>
          cases ho
          have e25 : ev (.tmp 25) = .agg #[I r, .slice A ws.length c] := hd 0 25 (by kernel_rfl)
          have e26 : ev (.tmp 26) = .slice B sts.length d := hd 1 26 (by kernel_rfl)
          have e27 : ev (.tmp 27) = I k := hd 2 27 (by kernel_rfl)
          go_simp
          refine (apart_c r A B c d ws _ k 1 T1 _ (.inr rfl) (h1.below (hWb.trans (hR.mono hWb.size)) (Nat.le_refl _)) hl8 (by omega)).mono ?_
          rintro e wz ⟨rfl, hwz⟩
          first | exact ⟨rfl, hR.trans (hwz.mono hR.size), hwz⟩ | exact ⟨⟨rfl, fun h => absurd h (by decide)⟩, hR.trans (hwz.mono hR.size), hwz⟩
        | 4, _, ho =>
          cases ho
          have e4 : ev (.tmp 4) = .pointer (some ⟨w.heap.size, 0, none⟩) := hs 4 (by kernel_rfl)
          have m4 := (hb01.below hR hb01.lt).cell
          go_simp
          first | exact ⟨rfl, hR, Below.refl _ _⟩ | exact ⟨⟨rfl, fun h => absurd h (by decide)⟩, hR, Below.refl _ _⟩
        | 5, _, ho =>
          cases ho
          have e1 : ev (.tmp 1) = .slice B sts.length d := hs 1 (by kernel_rfl)
          go_simp
          first | exact ⟨rfl, hR, Below.refl _ _⟩ | exact ⟨⟨rfl, fun h => absurd h (by decide)⟩, hR, Below.refl _ _⟩
        | 6, _, ho =>
          cases ho
          have e2 : ev (.tmp 2) = I k := hs 2 (by kernel_rfl)
          go_simp
          first | exact ⟨rfl, hR, Below.refl _ _⟩ | exact ⟨⟨rfl, fun h => absurd h (by decide)⟩, hR, Below.refl _ _⟩
        | 7, _, ho =>
          cases ho
          have e29 : ev (.tmp 29) = .agg #[I r, .slice A ws.length c] := hd 4 29 (by kernel_rfl)
          have e30 : ev (.tmp 30) = .slice B sts.length d := hd 5 30 (by kernel_rfl)
          have e31 : ev (.tmp 31) = I k := hd 6 31 (by kernel_rfl)
          go_simp
          refine (apart_c r A B c d ws _ k 0 T1 _ (.inl rfl) (h1.below (hWb.trans (hR.mono hWb.size)) (Nat.le_refl _)) hl8 (by omega)).mono ?_
          rintro e wz ⟨rfl, hwz⟩
          first | exact ⟨rfl, hR.trans (hwz.mono hR.size), hwz⟩ | exact ⟨⟨rfl, fun h => absurd h (by decide)⟩, hR.trans (hwz.mono hR.size), hwz⟩
        | 8, _, ho =>
          cases ho
          go_simp
          refine ⟨⟨⟨_, rfl, hR.size, Bx.new _ _ _⟩, ?_⟩, hR.alloc hR.size _, (Below.refl _ _).alloc (Nat.le_refl _) _⟩
          first | exact fun u hu => NewB.ne hu | exact ⟨fun u hu => NewB.ne hu, fun u hu => NewB.ne hu⟩ | exact ⟨fun u hu => NewB.ne hu, fun u hu => NewB.ne hu, fun u hu => NewB.ne hu⟩
        | 9, _, ho =>
          cases ho
          go_simp
          refine ⟨⟨⟨_, rfl, hR.size, Bx.new _ _ _⟩, ?_⟩, hR.alloc hR.size _, (Below.refl _ _).alloc (Nat.le_refl _) _⟩
          first | exact fun u hu => NewB.ne hu | exact ⟨fun u hu => NewB.ne hu, fun u hu => NewB.ne hu⟩ | exact ⟨fun u hu => NewB.ne hu, fun u hu => NewB.ne hu, fun u hu => NewB.ne hu⟩
        | n + 10, hi, _ => exact absurd hi (by simp)
      · intro ρ wE hR hρ hne K hK
        have p3 : ρ 3 = tv A ws.length c B sts.length d (apl ws k 1 0) (apl ws k 1 1) (apl ws k 1 2) (apl ws k 1 3) (apl ws k 1 4) (apl ws k 1 5) (apl ws k 1 6) (apl ws k 1 7) := hρ 3 (by simp)
        have p7 : ρ 7 = tv A ws.length c B sts.length d (apl ws k 0 0) (apl ws k 0 1) (apl ws k 0 2) (apl ws k 0 3) (apl ws k 0 4) (apl ws k 0 5) (apl ws k 0 6) (apl ws k 0 7) := hρ 7 (by simp)
        obtain ⟨ka, pa, la, ba⟩ := hρ 8 (by simp)
        obtain ⟨kb, pb, lb, bb⟩ := hρ 9 (by simp)
        have hk : ka ≠ kb := fun e => hne 8 9 (by simp) (by simp) (by simp) (by simp) (by simp) (by rw [pa, pb, e])
        have hbx := hb01.below hR hb01.lt
        have hWE := hWb.trans (hR.mono hWb.size)
        clear hρ hne
        show K (putAll _ _ ρ 10) _
        simp only [putAll, dOf, List.getElem?_toArray, List.getElem?_cons_zero, List.getElem?_cons_succ, Option.bind_some, Act.put, List.setIfInBounds_toArray, List.set_cons_zero, List.set_cons_succ]
        rw [p3, p7, pa, pb]
        unfold tv
        refine hK _ _ ?_
        change wpList _ _ _ [_, _] _ _
        clear hK K p3 p7 pa pb
        have fa := ba.free
        have ca := ba.cell
        have fb := bb.free
        have cb := bb.cell
        go_wp2_with fail
        refine calls_gen (fun W' => Below w1.heap.size w1 W') (by (repeat (refine Below.setCell ?_ (by simp only []; omega) _)); exact hR) ?_
        intro w5 hw5
        have hW5 := hWb.trans (hw5.mono hWb.size)
        refine (betweenGap_c A B c d (apl ws k 1 0) (apl ws k 1 1) (apl ws k 1 2) (apl ws k 1 3) (apl ws k 1 4) (apl ws k 1 5) (apl ws k 1 6) (apl ws k 1 7) (apl ws k 0 0) (apl ws k 0 1) (apl ws k 0 2) (apl ws k 0 3) (apl ws k 0 4) (apl ws k 0 5) (apl ws k 0 6) (apl ws k 0 7) ws sts k t T1 T2 _ (h1.below hW5 (Nat.le_refl _)) (h2.below hW5 (Nat.le_refl _)) i Hk.out hsh hsl (by omega) (by omega) (by omega) hl2).mono ?_
        rintro e w6 ⟨rfl, hbw6⟩
        have hb86 := (hb81.below hw5 (by have := hb81.lt; omega)).below hbw6 (by have := hb81.lt; have := hw5.size; omega)
        have hc86 := hb86.cell
        have hf86 := hb86.free
        clear fa ca fb cb hc0 hc8 hf8
        go_wp2
        have hb9 := (hb86.set_ 0 (I (front ws sts (apls ws k 1) t i - (gW ws i).len - front ws sts (apls ws k 1) t k))).set_ 1 (I (front ws sts (apls ws k 0) t i - (gW ws i).len - front ws sts (apls ws k 0) t k))
        have hc9 := hb9.cell
        unfold apls at hc9
        refine bodyPost_ret (v := .tuple #[Sp (front ws sts (apls ws k 1) t i - (gW ws i).len - front ws sts (apls ws k 1) t k) (front ws sts (apls ws k 0) t i - (gW ws i).len - front ws sts (apls ws k 0) t k), I 0]) (by simp [results, Try.results40, go_sem, hc9, apls]) rfl ⟨?_, ?_⟩
        · rw [E1.out]
          unfold gaLo gaHi
          have Hk1 := Hk.out
          rw [if_pos E1.out, if_pos E1.out, Int.toNat_natCast]
          subst Hk1
          rw [gap_lo (by omega) hl8, gap_hi (by omega) hl8]
        · repeat (refine Below.setCell ?_ (by simp only []; omega) _)
          exact hW5.trans (hbw6.mono hW5.size)
  · have hz : (mom r ws sts wing t != 0) = true := by simp [a1]
    have A1 := Lib.hid a1
    have E1 := Lib.hid (gaE_m a1)
    clear a1
    go_wp2
    have hb9 := (hb81.set_ 0 (I 0)).set_ 1 (I 0)
    have hc9 := hb9.cell
    refine bodyPost_ret (v := .tuple #[Sp 0 0, I (mom r ws sts wing t)]) (by simp [results, Try.results40, go_sem, hc9]) rfl ⟨?_, ?_⟩
    · rw [E1.out]
      unfold gaLo gaHi
      rw [if_neg (by rw [E1.out]; exact A1.out), if_neg (by rw [E1.out]; exact A1.out)]
    · repeat (refine Below.setCell ?_ (by simp only []; omega) _)
      exact hWb
end
end Go.Proofs.Ytnihkgdkdinliaa
