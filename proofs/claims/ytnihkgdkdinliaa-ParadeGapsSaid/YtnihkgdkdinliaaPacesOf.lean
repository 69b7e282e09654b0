/- PacesOf: true paces come of any drum. Own work. -/
import Derived.Test.YtnihkgdkdinliaaStartsOf
namespace Go.Proofs.Ytnihkgdkdinliaa
open Go.RowKit
set_option linter.unusedVariables false
set_option linter.unusedSimpArgs false

/-- Each pace lies within the bounds. -/
def PcB (ws : List Wg) (ps : List Int) (n : Nat) : Prop := ∀ k, k < n → (gW ws k).lo ≤ gI ps k ∧ gI ps k ≤ (gW ws k).hi
def PacesPost (d : Nat) (ws : List Wg) (w : World) (e : Ending) (w' : World) : Prop :=
  ∃ (B : Option Addr) (c : Nat) (ps : List Int), e = .returned (.slice B ps.length c) ∧ SlI w' 3 B ps ∧ ps.length ≤ c ∧ Dr w' d ∧ w.grownBy w' (some d) ∧ ps.length = ws.length ∧ PcB ws ps ps.length

set_option maxRecDepth 100000 in
set_option maxHeartbeats 1000000 in
theorem pacesOf_c (d : Nat) (r : Int) (A : Option Addr) (c : Nat) (ws : List Wg) (w : World) (hd : Dr w d) (h1 : SlW w 29 A ws) (hm : MadeWs ws) (h8 : ws.length ≤ 8) :
    Calls Try.prog 50 #[.pointer (some ⟨d, 0, none⟩), .agg #[I r, .slice A ws.length c]] w (PacesPost d ws w) := by
  have hlt := hd.lt
  have hb0 := Bx.new w 24 #[I r, .slice A ws.length c]
  go_enter Try.func50, Try.ntmps50
  go_wp2_with fail
  go_loopw [5, 6] (fun v i wr => ∃ (ps : List Int), i = .int .i64 ps.length ∧ ps.length ≤ ws.length ∧ PcB ws ps ps.length ∧ SO d w.heap.size r A ws.length c ws v ps.length (ps.map I) w wr) (fun _ i _ => ws.length - (intOf i).toNat)
  case atStart => exact ⟨[], rfl, Nat.zero_le _, fun j hj => absurd hj (by simp), hd.alloc _, hb0, h1.alloc _, World.ownsRow_nil _ _ _ _, World.grownBy_alloc _ _ _⟩
  case round =>
    obtain ⟨ps, rfl, hk, hst, hso⟩ := hrel
    obtain ⟨B, cb, rfl, hB, hcap⟩ := Sl.ofOwn2 hso.2.2.2.1
    by_cases hlt' : ps.length < ws.length
    · have hcb := hso.2.1.cell
      obtain ⟨b1, o1, rfl, _⟩ := SlW.some_ hso.2.2.1 hlt'
      obtain ⟨_, _, c2, c3⟩ := SlW.cellG hso.2.2.1 hlt'
      obtain ⟨_, m1, m2, m3, m4, m5, m6⟩ := hm.at_ hlt'
      generalize hlo : (gW ws ps.length).lo = lo at *
      generalize hhi : (gW ws ps.length).hi = hi at *
      have HL := Lib.hid hlo
      have HH := Lib.hid hhi
      clear hlo hhi
      go_wp2_with fail
      refine (of_c d lo hi _ hso.1 (by omega) (by omega) (by omega)).mono ?_
      rintro e w5 ⟨z, rfl, hz1, hz2, hd5, hk5⟩
      have hso7 := hso.kp hk5 hd5
      clear hso hk5 hd5 hB hcb c2 c3
      obtain ⟨i0, hi0, hz0, hz1', hz2'⟩ := info_parts infoInt
      have hown := hso7.2.2.2.1
      have hgr := hso7.2.2.2.2
      go_wp2_with (at_builtin; refine wpList_append_own _ rfl _ _ 25 rfl w.heap.size 3 i0 _ 1 8 Try.underlying25 hi0 hz0 hz1' hz2' rfl (by decide) _ _ _ rfl (hown.alloc _) ⟨w5.heap.size, 0, none⟩ 1 1 [I z] rfl rfl ?c1 ?c2 ?c3 ?c4 ?c5 ?_)
      case c1 => exact (Bx.new w5 3 #[I z]).news (cs := [I z])
      case c2 => simp [Value.oneCell']
      case c3 => unfold maxLen; omega
      case c4 => omega
      case c5 => have := hgr.size; simp; omega
      intro V' w8 hown8 hgr8 _
      have hgr9 := kp_own (kp_alloc hgr _) (hown.alloc _) (Nat.le_refl _) hgr8
      have hso8 := hso7.alloc (.cells #[I z] 3)
      have hd8 := hso8.1.grown hgr8 (own_dr hso8.2.2.2.1 hso8.1 (by decide))
      have hb8 := hso8.2.1.grown hgr8 (own_ne hso8.2.2.2.1 hso8.2.1 (by decide))
      have hw8 := sl_own hso8.2.2.1 hso8.2.2.2.1 hgr8 (by decide)
      clear hso8 hso7 hown hgr hgr8
      obtain ⟨B', cb', rfl, _, _⟩ := Sl.ofOwn2 hown8
      go_wp2
      go_roundw
      case rel =>
        have e1 : (ps ++ [z]).length = ps.length + 1 := by simp
        refine ⟨ps ++ [z], by rw [e1]; go_num, by rw [e1]; omega, ?_, hd8, hb8, hw8, ?_, hgr9⟩
        · intro j hj
          by_cases hjl : j < ps.length
          · rw [gI_app hjl]; exact hst j hjl
          · obtain rfl : j = ps.length := by rw [e1] at hj; omega
            rw [gI_end, HL.out, HH.out]
            exact ⟨hz1, hz2⟩
        · rw [flat_snoc, e1]
          exact hown8
      case measure => simp [intOf]; omega
    · have hle : ¬ ((ps.length : Int) < (ws.length : Int)) := by omega
      have hcb := hso.2.1.cell
      go_wp2
      go_ret
      exact ⟨B, cb, ps, rfl, hB, hcap, hso.1, hso.2.2.2.2, by omega, hst⟩
end Go.Proofs.Ytnihkgdkdinliaa
