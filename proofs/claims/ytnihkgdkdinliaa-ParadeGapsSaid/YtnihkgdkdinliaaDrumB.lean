/- The drum, more: Any, Of, Less, DrumOf. -/
import Derived.Test.YtnihkgdkdinliaaDrum
namespace Go.Proofs.Ytnihkgdkdinliaa
open Go.RowKit
set_option linter.unusedVariables false

theorem Sl.kp {w w' : World} {T : TypeId} {A : Option Addr} {xs : List Value} {d : Nat} (h : Sl w T A xs) (hd : Dr w d) (hk : w.grownBy w' (some d)) (hT : T ≠ 84) : Sl w' T A xs := by
  rcases h with h | ⟨b, o, cs, fz, hA, hh, hc⟩
  · exact .inl h
  · refine .inr ⟨b, o, cs, fz, hA, ?_, hc⟩
    rw [hk.block b (lt_of_heap hh)]
    · exact hh
    · intro e
      injection e with e
      subst e
      obtain ⟨x, hx, _⟩ := hd
      rw [hh] at hx
      injection hx with hx
      injection hx with _ hT'
      exact hT hT'

theorem bx_ne {w : World} {b d : Nat} {T : TypeId} {cs : Array Value} (h : Bx w b T cs) (hd : Dr w d) (hT : T ≠ 84) : b ≠ d := by
  rintro rfl
  obtain ⟨x, hx, _⟩ := hd
  unfold Bx at h
  rw [h] at hx
  injection hx with hx
  injection hx with _ hT'
  exact hT hT'

theorem own_kp {w w' : World} {base : Nat} {e : TypeId} {size : Nat} {v : Value} {n : Nat} {xs : List Value} {d : Nat} (h : w.ownsRow base e size v n xs) (hd : Dr w d) (hk : w.grownBy w' (some d)) (he : e ≠ 84) : w'.ownsRow base e size v n xs := by
  refine h.kept hk ?_
  rcases h.2 with ⟨rfl, _⟩ | ⟨g, cap, cur, rfl, _, hg, _⟩
  · exact .inl rfl
  · refine .inr ?_
    simp only [Value.ownBlock, ne_eq, Option.some.injEq]
    exact bx_ne (show Bx w g e cur from hg) hd he

theorem Dr.grown {w w' : World} {d : Nat} {row : Option Nat} (h : Dr w d) (hk : w.grownBy w' row) (hne : some d ≠ row) : Dr w' d := by
  obtain ⟨x, hx, hw⟩ := h
  exact ⟨x, (hk.block d (lt_of_heap hx) hne).trans hx, hw⟩
theorem own_dr {w : World} {base : Nat} {e : TypeId} {size n : Nat} {v : Value} {xs : List Value} {d : Nat} (h : w.ownsRow base e size v n xs) (hd : Dr w d) (hne : e ≠ 84) : some d ≠ v.ownBlock := by
  obtain ⟨x, hx, _⟩ := hd
  exact own_ne h (show Bx w d _ _ from hx) hne

set_option maxHeartbeats 400000 in
theorem any_c (d : Nat) (A : Option Addr) (c : Nat) (T : TypeId) (zs : List Int) (lo hi : Int) (w : World) (hd : Dr w d) (hs : SlI w T A zs) (hT : T ≠ 84) (hn : zs ≠ []) (hl : zs.length ≤ 1000000) (hz : ∀ z ∈ zs, lo ≤ z ∧ z ≤ hi) :
    Calls Try.prog 37 #[.pointer (some ⟨d, 0, none⟩), .slice A zs.length c] w (Rolled lo hi d w) := by
  have hpos : 0 < zs.length := List.length_pos_iff.2 hn
  have hne : ((zs.length : Int) == 0) = false := by simp; exact hn
  obtain ⟨b, o, rfl, _⟩ := hs.some_ hpos
  clear hn
  go_enter Try.func37, Try.ntmps37
  go_wp2_with (go_at_call 29; refine (roll_c _ _ (zs.length - 1) _ hd (by omega) (by omega) (by omega) (by omega)).mono ?_; rintro e w1 ⟨r, rfl, hr1, hr2, hd1, hk1⟩; obtain ⟨k, rfl⟩ := Int.eq_ofNat_of_zero_le hr1; have hk : k < zs.length := (by omega); have hc := SlI.cells (hs.kp hd hk1 hT) hk)
  go_ret
  have := hz _ (List.getElem_mem hk)
  exact ⟨_, rfl, this.1, this.2, hd1, hk1⟩

set_option maxHeartbeats 400000 in
theorem of_c (d : Nat) (a b : Int) (w : World) (hd : Dr w d) (h1 : 0 ≤ a) (h2 : a ≤ b) (h3 : b ≤ 1152921504606846976) :
    Calls Try.prog 94 #[.pointer (some ⟨d, 0, none⟩), .agg #[I a, I b]] w (Rolled a b d w) := by
  have hlt := hd.lt
  have hb0 := Bx.new w 27 #[I a, I b]
  go_enter Try.func94, Try.ntmps94
  go_wp2_with (first
    | (go_at_call 29; refine (roll_c _ _ 3 _ (hd.alloc _) (by omega) (by omega) (by omega) (by omega)).mono ?_; rintro e w1 ⟨r, rfl, hr1, hr2, hd1, hk1⟩; have hb1 := hb0.kp hk1 (by omega); have hc1 := hb1.cell)
    | (go_at_call 45; refine (mid_c _ _ _ b _ hd1 (by omega) (by omega) (by omega) (by omega) (by omega) (by omega) (by omega)).mono ?_; rintro e w2 ⟨r2, rfl, hr3, hr4, hd2, hk2⟩))
  · go_ret
    exact ⟨_, rfl, by omega, by omega, hd1, kp_trans (World.grownBy_alloc _ _ _) hk1⟩
  · go_ret
    exact ⟨_, rfl, by omega, by omega, hd1, kp_trans (World.grownBy_alloc _ _ _) hk1⟩
  · go_ret
    exact ⟨_, rfl, by omega, by omega, hd2, kp_trans (kp_trans (World.grownBy_alloc _ _ _) hk1) hk2⟩

set_option maxHeartbeats 400000 in
theorem drumOf_c (A : Option Addr) (c : Nat) (T : TypeId) (zs : List Int) (w : World) (hs : SlI w T A zs) (hl : zs.length ≤ maxLen) :
    Calls Try.prog 15 #[.slice A zs.length c] w fun e w' => ∃ d, e = .returned (.pointer (some ⟨d, 0, none⟩)) ∧ Dr w' d ∧ w.heap.size ≤ d ∧ Below w.heap.size w w' := by
  unfold maxLen at hl
  go_enter Try.func15, Try.ntmps15
  go_wp2
  go_loopw [4] (fun i wr => ∃ k : Nat, k ≤ zs.length ∧ i = .int .i64 k ∧ Dr wr w.heap.size ∧ Below w.heap.size w wr) (fun i _ => zs.length - (intOf i).toNat)
  case atStart => exact ⟨0, Nat.zero_le _, rfl, ⟨_, heap_alloc_new _ _, by decide⟩, (Below.refl _ _).alloc (Nat.le_refl _) _⟩
  case round =>
    obtain ⟨k, hk, rfl, hd, hbel⟩ := hrel
    by_cases hlt : k < zs.length
    · obtain ⟨b, o, rfl, _⟩ := hs.some_ hlt
      have hc := SlI.cells (hs.below hbel (Nat.le_refl _)) hlt
      obtain ⟨x, hx, hw⟩ := hd
      have hcx : wr.cell? ⟨w.heap.size, 0, none⟩ = some (.int .u64 x) := by simp [World.cell?, hx]
      have hfx : wr.frozen? ⟨w.heap.size, 0, none⟩ = false := by simp [World.frozen?, hx]
      go_wp2
      go_region
      have hd2 := dr_set (y := bits .xor .u64 x (IntKind.u64.wrap zs[k])) hx (wf_bits _ _ _ _)
      go_wp2_with (go_at_call 62; refine (hit_c _ _ ?_).mono ?_; rotate_left; rintro e w1 ⟨r, rfl, hr1, hr2, hd1, hk1⟩)
      · go_roundw
        case rel => exact ⟨k + 1, by omega, by go_num, hd1, below_of_kp (hbel.setCell (Nat.le_refl _) _).drew hk1 (Nat.le_refl _) (by have := hbel.size; simpa [World.setCell] using this)⟩
        case measure => simp [intOf]; omega
      · exact hd2
    · go_wp2
      go_ret
      exact ⟨_, rfl, hd, Nat.le_refl _, hbel⟩
end Go.Proofs.Ytnihkgdkdinliaa
