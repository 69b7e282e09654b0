/- The reference's small functions: paces, places, seconds. -/
import Derived.Test.YtnihkgdkdinliaaRows
import Derived.Test.YtnihkgdkdinliaaModel
import Derived.Deep.RegionHeld3
namespace Go.Proofs.Ytnihkgdkdinliaa
open Go.RowKit
set_option linter.unusedVariables false

set_option maxHeartbeats 800000 in
theorem passed_c (r : Int) (A B C : Option Addr) (c cb cc : Nat) (ws : List Wg) (sts ps : List Int) (wing : Nat) (place : Int) (T1 T2 T3 : TypeId) (w : World)
    (h1 : SlW w T1 A ws) (h2 : SlI w T2 B sts) (h3 : SlI w T3 C ps) (hs : Sm ws sts ps wing) (hp1 : -900000000 ≤ place) (hp2 : place ≤ 900000000)
    (hl1 : ws.length ≤ 1000000) (hl2 : sts.length ≤ maxLen) (hl3 : ps.length ≤ 1000000) :
    Calls Try.prog 52 #[.agg #[I r, .slice A ws.length c], .slice B sts.length cb, .slice C ps.length cc, I wing, I place] w fun e w' => e = .returned (I (passed ws sts ps wing place)) ∧ Below w.heap.size w w' := by
  obtain ⟨hw1, hw2, hw3, hw4, hk⟩ := hs
  unfold maxLen at hl2
  obtain ⟨b1, o1, rfl, hb1⟩ := SlW.some_ h1 hw1
  obtain ⟨b2, o2, rfl, hb2⟩ := SlI.some_ h2 hw2
  obtain ⟨b3, o3, rfl, hb3⟩ := SlI.some_ h3 hw3
  have hc2 := SlI.cellG h2 hw2
  have hB0 := Bx.new w 24 #[I r, .slice (some ⟨b1, o1, none⟩) ws.length c]
  have hcb := hB0.cell
  go_enter Try.func52, Try.ntmps52
  go_wp2
  clear hcb hc2
  go_loopw [4, 11, 12] (fun pl se i wr => ∃ (j : Nat) (p s : Int), pl = I p ∧ se = I s ∧ i = I ((j : Int) - 1) ∧ j ≤ wing + 1 ∧ -900000000 ≤ p ∧ p ≤ 900000000 + 1000000 * ((wing : Int) + 1 - j) ∧ 0 ≤ s ∧ s ≤ 2000000000 ∧
      (∀ m, j = m + 1 → pasF ws sts ps m (if m < wing then p + (gW ws m).len else p) s = passed ws sts ps wing place) ∧ (j = 0 → s = passed ws sts ps wing place) ∧ Below w.heap.size w wr ∧ Bx wr w.heap.size 24 #[I r, .slice (some ⟨b1, o1, none⟩) ws.length c])
    (fun _ _ i _ => (intOf i + 1).toNat)
  case atStart =>
    have h5 := hk wing (Nat.le_refl _)
    exact ⟨wing + 1, place, gI sts wing, rfl, rfl, by go_num, Nat.le_refl _, hp1, by omega, by omega, by omega, fun m hm => by
      have : m = wing := by omega
      subst this
      rw [if_neg (by omega)]; rfl, fun h => absurd h (by omega), (Below.refl _ _).alloc (Nat.le_refl _) _, hB0⟩
  case round =>
    obtain ⟨j, p, s, rfl, rfl, rfl, hj, hpl, hpu, hsl, hsu, hrec, hend, hbel, hbx⟩ := hrel
    cases j with
    | zero =>
      have Hend := Lib.hid (hend rfl)
      clear hrec hend
      go_wp2
      go_ret
      exact ⟨ret_int Hend.out, hbel⟩
    | succ m =>
      have Hrec := Lib.hid (hrec m rfl)
      have h5 := hk m (by omega)
      obtain ⟨h51, h52, h53, h54, h55, h56⟩ := h5
      clear hrec hend
      rw [show ((m + 1 : Nat) : Int) - 1 = (m : Int) by omega]
      have hcb := hbx.cell
      have hm1 : m < ws.length := by omega
      have hm2 : m < sts.length := by omega
      have hm3 : m < ps.length := by omega
      obtain ⟨_, hc1, _, _⟩ := SlW.cellG (h1.below hbel (Nat.le_refl _)) hm1
      have hc2 := SlI.cellG (h2.below hbel (Nat.le_refl _)) hm2
      have hc3 := SlI.cellG (h3.below hbel (Nat.le_refl _)) hm3
      have hcd := fun q hq => cd_bd (n := q) h51 hq
      by_cases hlt : m < wing
      · rw [if_pos hlt] at Hrec
        clear hcd
        go_wp2
        go_quiet (fail)
        go_wp2
        go_roundw
        case measure => simp [intOf]
        rw [pas_step h51 (by omega) h53 h54]
        have hcd := cd_bd (n := p + (gW ws m).len) h51 (by omega)
        refine ⟨m, p + (gW ws m).len, max s (gI sts m + cd (p + (gW ws m).len) (gI ps m)), rfl, rfl, rfl, by omega, by omega, by omega, by omega, by omega, fun m' hm' => ?_, fun h0 => ?_, below_drewN hbel _, hbx.drewN _⟩
        · subst hm'
          rw [if_pos (by omega), ← Hrec.out]
          rfl
        · subst h0
          rw [← Hrec.out]
          rfl
      · rw [if_neg hlt] at Hrec
        clear hcd
        go_wp2
        go_quiet (fail)
        go_wp2
        go_roundw
        case measure => simp [intOf]
        rw [pas_step h51 (by omega) h53 h54]
        have hcd := cd_bd (n := p) h51 (by omega)
        refine ⟨m, p, max s (gI sts m + cd p (gI ps m)), rfl, rfl, rfl, by omega, by omega, by omega, by omega, by omega, fun m' hm' => ?_, fun h0 => ?_, below_drewN hbel _, hbx.drewN _⟩
        · subst hm'
          rw [if_pos (by omega), ← Hrec.out]
          rfl
        · subst h0
          rw [← Hrec.out]
          rfl

set_option maxHeartbeats 800000 in
theorem front_c (r : Int) (A B C : Option Addr) (c cb cc : Nat) (ws : List Wg) (sts ps : List Int) (wing : Nat) (t : Int) (T1 T2 T3 : TypeId) (w : World)
    (h1 : SlW w T1 A ws) (h2 : SlI w T2 B sts) (h3 : SlI w T3 C ps) (hs : Sm ws sts ps wing) (hp1 : -1000000 ≤ t) (hp2 : t ≤ 1000000)
    (hl1 : ws.length ≤ 1000000) (hl2 : sts.length ≤ maxLen) (hl3 : ps.length ≤ 1000000) :
    Calls Try.prog 55 #[.agg #[I r, .slice A ws.length c], .slice B sts.length cb, .slice C ps.length cc, I wing, I t] w fun e w' => e = .returned (I (front ws sts ps t wing)) ∧ Below w.heap.size w w' := by
  have hs' := hs
  obtain ⟨hw1, hw2, hw3, hw4, hk⟩ := hs'
  unfold maxLen at hl2
  obtain ⟨b1, o1, rfl, hb1⟩ := SlW.some_ h1 hw1
  obtain ⟨b2, o2, rfl, hb2⟩ := SlI.some_ h2 hw2
  obtain ⟨b3, o3, rfl, hb3⟩ := SlI.some_ h3 hw3
  have hB0 := Bx.new w 24 #[I r, .slice (some ⟨b1, o1, none⟩) ws.length c]
  have hW0 : Below w.heap.size w (w.alloc (.cells #[I r, .slice (some ⟨b1, o1, none⟩) ws.length c] 24)) := (Below.refl _ _).alloc (Nat.le_refl _) _
  have hc2 := SlI.cellG (h2.below hW0 (Nat.le_refl _)) (k := 0) (by omega)
  have hc3 := SlI.cellG (h3.below hW0 (Nat.le_refl _)) (k := 0) (by omega)
  have hcb := hB0.cell
  have h50 := hk 0 (by omega)
  have hpr := prod_bd hs (Nat.zero_le _) hp1 hp2
  simp only [Nat.add_zero] at hc2 hc3
  have hz2 : 0 < sts.length := by omega
  have hz3 : 0 < ps.length := by omega
  go_enter Try.func55, Try.ntmps55
  go_wp2
  go_quiet (fail)
  go_wp2
  clear hcb hc2 hc3 hz2 hz3 hpr
  go_loopw [11, 12] (fun x i wr => ∃ (j : Nat), x = I (front ws sts ps t j) ∧ i = I ((j : Int) + 1) ∧ j ≤ wing ∧ Below w.heap.size w wr ∧ Bx wr w.heap.size 24 #[I r, .slice (some ⟨b1, o1, none⟩) ws.length c])
    (fun _ i _ => (wing : Int).toNat + 1 - (intOf i).toNat)
  case atStart => exact ⟨0, rfl, rfl, Nat.zero_le _, below_drewN hW0 _, hB0.drewN _⟩
  case round =>
    obtain ⟨j, rfl, rfl, hj, hbel, hbx⟩ := hrel
    by_cases hlt : j < wing
    · have hpr := prod_bd hs (k := j + 1) (by omega) hp1 hp2
      have hfr := front_bd hs hp1 hp2 j (by omega)
      have h51 := hk (j + 1) (by omega)
      have h52 := hk j (by omega)
      have hm1 : j < ws.length := by omega
      have hm2 : j + 1 < sts.length := by omega
      have hm3 : j + 1 < ps.length := by omega
      have hcb := hbx.cell
      obtain ⟨_, hc1, _, _⟩ := SlW.cellG (h1.below hbel (Nat.le_refl _)) hm1
      have hc2 := SlI.cellG (h2.below hbel (Nat.le_refl _)) hm2
      have hc3 := SlI.cellG (h3.below hbel (Nat.le_refl _)) hm3
      go_wp2
      go_quiet (fail)
      go_wp2
      go_roundw
      case measure => simp [intOf]; omega
      exact ⟨j + 1, by rw [min_if]; rfl, by go_num, by omega, below_drewN hbel _, hbx.drewN _⟩
    · go_wp2
      go_ret
      have : j = wing := by omega
      subst this
      exact ⟨rfl, hbel⟩
theorem infoInt : (Try.prog.info? 3).map (fun i => (i.zero, i.size, i.bytes)) = some (some (.int .i64 0), 1, 8) := by kernel_rfl

set_option maxHeartbeats 800000 in
theorem slow_c (r : Int) (A : Option Addr) (c : Nat) (ws : List Wg) (T1 : TypeId) (w : World) (h1 : SlW w T1 A ws) (hl1 : ws.length ≤ 1000000) :
    Calls Try.prog 48 #[.agg #[I r, .slice A ws.length c]] w fun e w' => ∃ B d, e = .returned (.slice B (los ws).length d) ∧ SlI w' 3 B (los ws) ∧ Below w.heap.size w w' := by
  obtain ⟨i0, hi0, hz0, hz1, hz2⟩ := info_parts infoInt
  have hB0 := Bx.new w 24 #[I r, .slice A ws.length c]
  have hcb := hB0.cell
  go_enter Try.func48, Try.ntmps48
  go_wp2
  clear hcb
  go_loopw [3, 4] (fun v i wr => ∃ (k : Nat), i = I k ∧ k ≤ ws.length ∧ wr.ownsRow w.heap.size 3 1 v k (((los ws).take k).map I) ∧ Below w.heap.size w wr ∧ Bx wr w.heap.size 24 #[I r, .slice A ws.length c])
    (fun _ i _ => ws.length - (intOf i).toNat)
  case atStart => exact ⟨0, rfl, Nat.zero_le _, World.ownsRow_nil _ _ _ _, (Below.refl _ _).alloc (Nat.le_refl _) _, hB0⟩
  case round =>
    obtain ⟨k, rfl, hk, hown, hbel, hbx⟩ := hrel
    have hcb := hbx.cell
    by_cases hlt : k < ws.length
    · obtain ⟨b, o, rfl, _⟩ := SlW.some_ h1 hlt
      obtain ⟨_, _, hc2, hc3⟩ := SlW.cellG (h1.below hbel (Nat.le_refl _)) hlt
      have hsz := hbel.size
      go_wp2_with (at_builtin; refine wpList_append_own _ rfl _ _ 25 rfl w.heap.size 3 i0 _ 1 8 Try.underlying25 hi0 hz0 hz1 hz2 rfl (by decide) _ _ _ rfl (hown.alloc _) ⟨wr.heap.size, 0, none⟩ 1 1 [I (gW ws k).lo] rfl rfl ?c1 ?c2 ?c3 ?c4 ?c5 ?_)
      case c1 => exact (Bx.new wr 3 #[I (gW ws k).lo]).news
      case c2 => simp [Value.oneCell']
      case c3 => unfold maxLen; omega
      case c4 => omega
      case c5 => simp; omega
      intro v' w1 hown1 hgrow _
      have hbx' := hbx.alloc (.cells #[I (gW ws k).lo] 3)
      have hown' := hown.alloc (.cells #[I (gW ws k).lo] 3)
      have hbx1 := hbx'.grown hgrow (own_ne hown' hbx' (by decide))
      have hbel1 := below_own (hbel.alloc hsz _) hown' (Nat.le_refl _) (by simp; omega) hgrow
      clear hbx' hown'
      clear hgrow hcb hc2 hc3
      go_wp2
      go_roundw
      case rel =>
        refine ⟨k + 1, by go_num, by omega, ?_, hbel1, hbx1⟩
        have hlen : k < (los ws).length := by simp [los]; exact hlt
        rw [List.take_succ_eq_append_getElem hlen, flat_snoc]
        have e : (los ws)[k] = (gW ws k).lo := by simp [los, gW_lt hlt]
        rw [e, List.map_take]
        exact hown1
      case measure => simp [intOf]; omega
    · go_wp2
      go_ret
      have hkk : k = ws.length := by omega
      subst hkk
      obtain ⟨B, d, rfl, hsl⟩ := Sl.ofOwn hown
      refine ⟨B, d, by rw [los_length]; rfl, ?_, hbel⟩
      rw [List.take_of_length_le (by simp [los])] at hsl
      exact hsl

set_option maxHeartbeats 800000 in
theorem fast_c (r : Int) (A : Option Addr) (c : Nat) (ws : List Wg) (T1 : TypeId) (w : World) (h1 : SlW w T1 A ws) (hl1 : ws.length ≤ 1000000) :
    Calls Try.prog 49 #[.agg #[I r, .slice A ws.length c]] w fun e w' => ∃ B d, e = .returned (.slice B (his ws).length d) ∧ SlI w' 3 B (his ws) ∧ Below w.heap.size w w' := by
  obtain ⟨i0, hi0, hz0, hz1, hz2⟩ := info_parts infoInt
  have hB0 := Bx.new w 24 #[I r, .slice A ws.length c]
  have hcb := hB0.cell
  go_enter Try.func49, Try.ntmps49
  go_wp2
  clear hcb
  go_loopw [3, 4] (fun v i wr => ∃ (k : Nat), i = I k ∧ k ≤ ws.length ∧ wr.ownsRow w.heap.size 3 1 v k (((his ws).take k).map I) ∧ Below w.heap.size w wr ∧ Bx wr w.heap.size 24 #[I r, .slice A ws.length c])
    (fun _ i _ => ws.length - (intOf i).toNat)
  case atStart => exact ⟨0, rfl, Nat.zero_le _, World.ownsRow_nil _ _ _ _, (Below.refl _ _).alloc (Nat.le_refl _) _, hB0⟩
  case round =>
    obtain ⟨k, rfl, hk, hown, hbel, hbx⟩ := hrel
    have hcb := hbx.cell
    by_cases hlt : k < ws.length
    · obtain ⟨b, o, rfl, _⟩ := SlW.some_ h1 hlt
      obtain ⟨_, _, hc2, hc3⟩ := SlW.cellG (h1.below hbel (Nat.le_refl _)) hlt
      have hsz := hbel.size
      go_wp2_with (at_builtin; refine wpList_append_own _ rfl _ _ 25 rfl w.heap.size 3 i0 _ 1 8 Try.underlying25 hi0 hz0 hz1 hz2 rfl (by decide) _ _ _ rfl (hown.alloc _) ⟨wr.heap.size, 0, none⟩ 1 1 [I (gW ws k).hi] rfl rfl ?c1 ?c2 ?c3 ?c4 ?c5 ?_)
      case c1 => exact (Bx.new wr 3 #[I (gW ws k).hi]).news
      case c2 => simp [Value.oneCell']
      case c3 => unfold maxLen; omega
      case c4 => omega
      case c5 => simp; omega
      intro v' w1 hown1 hgrow _
      have hbx' := hbx.alloc (.cells #[I (gW ws k).hi] 3)
      have hown' := hown.alloc (.cells #[I (gW ws k).hi] 3)
      have hbx1 := hbx'.grown hgrow (own_ne hown' hbx' (by decide))
      have hbel1 := below_own (hbel.alloc hsz _) hown' (Nat.le_refl _) (by simp; omega) hgrow
      clear hbx' hown'
      clear hgrow hcb hc2 hc3
      go_wp2
      go_roundw
      case rel =>
        refine ⟨k + 1, by go_num, by omega, ?_, hbel1, hbx1⟩
        have hlen : k < (his ws).length := by simp [his]; exact hlt
        rw [List.take_succ_eq_append_getElem hlen, flat_snoc]
        have e : (his ws)[k] = (gW ws k).hi := by simp [his, gW_lt hlt]
        rw [e, List.map_take]
        exact hown1
      case measure => simp [intOf]; omega
    · go_wp2
      go_ret
      have hkk : k = ws.length := by omega
      subst hkk
      obtain ⟨B, d, rfl, hsl⟩ := Sl.ofOwn hown
      refine ⟨B, d, by rw [his_length]; rfl, ?_, hbel⟩
      rw [List.take_of_length_le (by simp [his])] at hsl
      exact hsl

set_option maxHeartbeats 1000000 in
theorem leastOf_c (r : Int) (A B : Option Addr) (c cb : Nat) (ws : List Wg) (sts : List Int) (wing : Nat) (T1 T2 : TypeId) (w : World)
    (h1 : SlW w T1 A ws) (h2 : SlI w T2 B sts) (hs : ∀ i, wing = i + 1 → Sm ws sts (los ws) i) (hl1 : ws.length ≤ 1000000) (hl2 : sts.length ≤ maxLen) :
    Calls Try.prog 64 #[.agg #[I r, .slice A ws.length c], .slice B sts.length cb, I wing] w fun e w' => e = .returned (I (leastOf ws sts wing)) ∧ Below w.heap.size w w' := by
  cases wing with
  | zero =>
    have hz : ((0 : Int) == 0) = true := rfl
    go_enter Try.func64, Try.ntmps64
    go_wp2
    go_ret
    exact ⟨rfl, (Below.refl _ _).alloc (Nat.le_refl _) _⟩
  | succ i =>
    have hsm := hs i rfl
    have hsm' := hsm
    obtain ⟨hw1, hw2, hw3, hw4, hk⟩ := hsm'
    have hki := hk i (Nat.le_refl _)
    obtain ⟨b1, o1, rfl, hb1⟩ := SlW.some_ h1 hw1
    have hB0 := Bx.new w 24 #[I r, .slice (some ⟨b1, o1, none⟩) ws.length c]
    have hW0 : Below w.heap.size w (w.alloc (.cells #[I r, .slice (some ⟨b1, o1, none⟩) ws.length c] 24)) := (Below.refl _ _).alloc (Nat.le_refl _) _
    have hcb := hB0.cell
    have hz : (((i + 1 : Nat) : Int) == 0) = false := by simp; omega
    obtain ⟨_, hc1, _, _⟩ := SlW.cellG (h1.below hW0 (Nat.le_refl _)) hw1
    have e1 : IntKind.i64.wrap (i : Int) = (i : Int) := IntWalk.i64_in _ (by omega)
    have hiw : (i : Int) < ws.length := by omega
    have f0 : (w.alloc (.cells #[I r, .slice (some ⟨b1, o1, none⟩) ws.length c] 24)).cell? ⟨w.heap.size, 0, none⟩ = some (I r) := hcb 0
    have f1 : (w.alloc (.cells #[I r, .slice (some ⟨b1, o1, none⟩) ws.length c] 24)).cell? ⟨w.heap.size, 1, none⟩ = some (.slice (some ⟨b1, o1, none⟩) ws.length c) := hcb 1
    rw [show ((i + 1 : Nat) : Int) = (i : Int) + 1 from rfl] at hz ⊢
    go_enter Try.func64, Try.ntmps64
    go_wp2
    clear hcb
    go_region_held3 (fun w' => w'.cell? ⟨w.heap.size, 0, none⟩ = some (I r) ∧ w'.cell? ⟨w.heap.size, 1, none⟩ = some (.slice (some ⟨b1, o1, none⟩) ws.length c) ∧ w'.cell? ⟨b1, o1 + i * 4 + 1, none⟩ = some (I (gW ws i).len))
      (first
        | exact ⟨f0, f1, hc1⟩
        | exact ⟨(hbw1.cell (by simp)).trans f0, (hbw1.cell (by simp)).trans f1, (hbw1.cell (by simp; omega)).trans hc1⟩
        | exact ⟨((hbw1.trans (hbw2.mono hbw1.size)).cell (by simp)).trans f0, ((hbw1.trans (hbw2.mono hbw1.size)).cell (by simp)).trans f1, ((hbw1.trans (hbw2.mono hbw1.size)).cell (by simp; omega)).trans hc1⟩)
      (first
        | (go_at_call 48; refine (slow_c r _ c ws T1 _ (h1.below hW0.drew (Nat.le_refl _)) hl1).mono ?_; rintro e w1 ⟨C, cc, rfl, hsl, hbw1⟩)
        | (go_at_call 52; refine (passed_c r _ _ _ c cb cc ws sts (los ws) i _ T1 T2 3 _ ((h1.below hW0.drew (Nat.le_refl _)).below hbw1 (Nat.le_refl _)) ((h2.below hW0.drew (Nat.le_refl _)).below hbw1 (Nat.le_refl _)) hsl hsm (by omega) (by omega) hl1 hl2 (by rw [los_length]; exact hl1)).mono ?_; rintro e w2 ⟨rfl, hbw2⟩))
    go_wp2
    go_ret
    exact ⟨rfl, (hW0.drew.trans (hbw1.mono hW0.drew.size)).trans (hbw2.mono (Nat.le_trans hW0.drew.size hbw1.size))⟩
end Go.Proofs.Ytnihkgdkdinliaa
