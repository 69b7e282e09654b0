/- Rows of numbers in blocks of their own; Slow, Fast and PacesOf hand out such. Own work. -/
import Derived.Test.YtnihkgdkdinliaaTrueM
import Derived.Test.YtnihkgdkdinliaaRegionE
import Derived.Test.YtnihkgdkdinliaaWalk
namespace Go.Proofs.Ytnihkgdkdinliaa
open Go.RowKit
set_option linter.unusedVariables false
set_option linter.unusedSimpArgs false

/-- Block g holds these numbers, and has room for c. -/
def RowAt (w : World) (g c : Nat) (ps : List Int) : Prop := ∃ cs, Bx w g 3 cs ∧ cs.size = c ∧ ps.length ≤ c ∧ ∀ j, j < ps.length → cs[j]? = some (I (gI ps j))
theorem RowAt.sl {w : World} {g c : Nat} {ps : List Int} (h : RowAt w g c ps) : SlI w 3 (some ⟨g, 0, none⟩) ps := by
  obtain ⟨cs, h1, h2, h3, h4⟩ := h
  refine .inr ⟨g, 0, cs, (0, 0), rfl, h1, fun j u hu => ?_⟩
  have hj : j < ps.length := by have := (List.getElem?_eq_some_iff.1 hu).1; simpa using this
  rw [Nat.zero_add, h4 j hj]
  rw [List.getElem?_map, List.getElem?_eq_getElem hj] at hu
  rw [gI_lt hj]
  simpa using hu
theorem RowAt.lt {w : World} {g c : Nat} {ps : List Int} (h : RowAt w g c ps) : g < w.heap.size := by obtain ⟨cs, h1, _⟩ := h; exact h1.lt
theorem RowAt.below {w w' : World} {g c : Nat} {ps : List Int} (h : RowAt w g c ps) (hb : Below w.heap.size w w') : RowAt w' g c ps := by
  obtain ⟨cs, h1, h2⟩ := h; exact ⟨cs, h1.below hb h1.lt, h2⟩
theorem RowAt.far {w : World} {g c : Nat} {ps : List Int} (h : RowAt w g c ps) {p : Addr} (hp : g ≠ p.block) (u : Value) : RowAt (w.setCell p u) g c ps := by
  obtain ⟨cs, h1, h2⟩ := h; exact ⟨cs, h1.far hp u, h2⟩
theorem RowAt.kp {w w' : World} {g c d : Nat} {ps : List Int} (h : RowAt w g c ps) (hd : Dr w d) (hk : w.grownBy w' (some d)) : RowAt w' g c ps := by
  obtain ⟨cs, h1, h2⟩ := h; exact ⟨cs, h1.kp hk (bx_ne h1 hd (by decide)), h2⟩
/-- A number is stored. -/
theorem RowAt.put {w : World} {g c k : Nat} {ps : List Int} {x y : Int} (h : RowAt w g c (ps.set k x)) (hk : k < ps.length) : RowAt (w.setCell ⟨g, k, none⟩ (I y)) g c (ps.set k y) := by
  obtain ⟨cs, h1, h2, h3, h4⟩ := h
  simp only [List.length_set] at h3 h4
  refine ⟨_, h1.set_ k (I y), by simpa using h2, by simpa using h3, fun j hj => ?_⟩
  simp only [List.length_set] at hj
  rw [Array.getElem?_setIfInBounds, gI_set hk]
  by_cases e : k = j
  · subst e; simp; omega
  · have e' : ¬ j = k := fun h => e h.symm
    rw [if_neg e, if_neg e', h4 j hj, gI_set hk, if_neg e']
theorem RowAt.self {w : World} {g c k : Nat} {ps : List Int} (h : RowAt w g c ps) (hk : k < ps.length) : RowAt w g c (ps.set k (gI ps k)) := by
  have : ps.set k (gI ps k) = ps := by
    rw [gI_lt hk]; simp
  rw [this]; exact h
theorem RowAt.cell {w : World} {g c k : Nat} {ps : List Int} (h : RowAt w g c ps) (hk : k < ps.length) : w.cell? ⟨g, k, none⟩ = some (I (gI ps k)) ∧ w.frozen? ⟨g, k, none⟩ = false := by
  obtain ⟨cs, h1, h2, h3, h4⟩ := h
  exact ⟨(h1.cell k).trans (h4 k hk), h1.free k⟩

/-- The value is a slice on a block of its own, from n0 on. -/
def FrR (n0 : Nat) (P : List Int → Prop) (v : Value) (w : World) : Prop := ∃ g c ps, v = .slice (some ⟨g, 0, none⟩) ps.length c ∧ n0 ≤ g ∧ RowAt w g c ps ∧ P ps
theorem FrR.kp {n0 d : Nat} {P : List Int → Prop} {v : Value} {w w' : World} (h : FrR n0 P v w) (hd : Dr w d) (hk : w.grownBy w' (some d)) : FrR n0 P v w' := by
  obtain ⟨g, c, ps, e, h1, h2, h3⟩ := h; exact ⟨g, c, ps, e, h1, h2.kp hd hk, h3⟩
theorem FrR.base {n0 n1 : Nat} {P : List Int → Prop} {v : Value} {w : World} (h : FrR n1 P v w) (hn : n0 ≤ n1) : FrR n0 P v w := by
  obtain ⟨g, c, ps, e, h1, h2, h3⟩ := h; exact ⟨g, c, ps, e, by omega, h2, h3⟩
theorem FrR.ofOwn {w : World} {base : Nat} {v : Value} {ps : List Int} {P : List Int → Prop} (h : w.ownsRow base 3 1 v ps.length (ps.map I)) (hn : 1 ≤ ps.length) (hP : P ps) : FrR base P v w := by
  rcases h.2 with ⟨_, h0⟩ | ⟨g, cap, cur, rfl, h1, h2, h3, _, h5, h6⟩
  · omega
  · refine ⟨g, cap, ps, rfl, h1, ⟨cur, h2, by omega, h3, fun j hj => ?_⟩, hP⟩
    have : (cur.toList.take (ps.length * 1))[j]? = some (I (gI ps j)) := by rw [h6, List.getElem?_map, List.getElem?_eq_getElem hj, gI_lt hj]; rfl
    rw [List.getElem?_take, if_pos (by omega)] at this
    simpa using this
/-- What is new differs from what was there. -/
theorem FrR.ne {w w' : World} {n : Nat} {P P' : List Int → Prop} {u v : Value} (h : FrR w.heap.size P v w') (h' : FrR n P' u w) : v ≠ u := by
  obtain ⟨g, c, ps, rfl, h1, _⟩ := h
  obtain ⟨g', c', ps', rfl, _, h2, _⟩ := h'
  intro e
  injection e with e _ _
  injection e with e
  injection e with e
  have := h2.lt
  omega
/-- Slices of one length that differ lie in two blocks. -/
theorem rows_ne {w : World} {g g' c c' : Nat} {ps ps' : List Int} (h : RowAt w g c ps) (h' : RowAt w g' c' ps') (hl : ps.length = ps'.length) (hne : (Value.slice (some ⟨g, 0, none⟩) ps.length c) ≠ .slice (some ⟨g', 0, none⟩) ps'.length c') : g ≠ g' := by
  rintro rfl
  obtain ⟨cs, h1, h2, _⟩ := h
  obtain ⟨cs', h1', h2', _⟩ := h'
  unfold Bx at h1 h1'
  rw [h1] at h1'
  injection h1' with e
  injection e with e
  subst e
  apply hne
  rw [hl, ← h2, ← h2']

section
variable (R : World → Prop) (d : Nat) (hRd : ∀ w, R w → Dr w d) (n0 : Nat) (P : List Int → Prop)
def asFr : As R (DF d) := ⟨FrR n0 P, fun v w w' hr _ hk h => h.kp (hRd w hr) hk⟩
end

set_option maxHeartbeats 800000 in
theorem slow2_c (r : Int) (A : Option Addr) (c : Nat) (ws : List Wg) (T1 : TypeId) (w : World) (h1 : SlW w T1 A ws) (hl1 : ws.length ≤ 1000000) :
    Calls Try.prog 48 #[.agg #[I r, .slice A ws.length c]] w fun e w' => ∃ v, e = .returned v ∧ w'.ownsRow w.heap.size 3 1 v (los ws).length ((los ws).map I) ∧ Below w.heap.size w w' := by
  obtain ⟨i0, hi0, hz0, hz1, hz2⟩ := info_parts infoInt
  have hB0 := Bx.new w 24 #[I r, .slice A ws.length c]
  have hcb := hB0.cell
  go_enter Try.func48, Try.ntmps48
  go_wp2
  clear hcb
  go_loopw [3, 4] (fun v i wr => ∃ (k : Nat), i = I k ∧ k ≤ ws.length ∧ wr.ownsRow w.heap.size 3 1 v k (((los ws).take k).map I) ∧ Below w.heap.size w wr ∧ Bx wr w.heap.size 24 #[I r, .slice A ws.length c])
    (fun _ i _ => ws.length - (intOf i).toNat)
  case atStart => exact ⟨0, rfl, Nat.zero_le _, World.ownsRow_nil _ _ _ _, (Below.refl _ _).alloc (Nat.le_refl _) _, hB0⟩
  case round =>
    obtain ⟨k, rfl, hk, hown, hbel, hbx⟩ := hrel
    have hcb := hbx.cell
    by_cases hlt : k < ws.length
    · obtain ⟨b, o, rfl, _⟩ := SlW.some_ h1 hlt
      obtain ⟨_, _, hc2, hc3⟩ := SlW.cellG (h1.below hbel (Nat.le_refl _)) hlt
      have hsz := hbel.size
      go_wp2_with (at_builtin; refine wpList_append_own _ rfl _ _ 25 rfl w.heap.size 3 i0 _ 1 8 Try.underlying25 hi0 hz0 hz1 hz2 rfl (by decide) _ _ _ rfl (hown.alloc _) ⟨wr.heap.size, 0, none⟩ 1 1 [I (gW ws k).lo] rfl rfl ?c1 ?c2 ?c3 ?c4 ?c5 ?_)
      case c1 => exact (Bx.new wr 3 #[I (gW ws k).lo]).news
      case c2 => simp [Value.oneCell']
      case c3 => unfold maxLen; omega
      case c4 => omega
      case c5 => simp; omega
      intro v' w1 hown1 hgrow _
      have hbx' := hbx.alloc (.cells #[I (gW ws k).lo] 3)
      have hown' := hown.alloc (.cells #[I (gW ws k).lo] 3)
      have hbx1 := hbx'.grown hgrow (own_ne hown' hbx' (by decide))
      have hbel1 := below_own (hbel.alloc hsz _) hown' (Nat.le_refl _) (by simp; omega) hgrow
      clear hbx' hown'
      clear hgrow hcb hc2 hc3
      go_wp2
      go_roundw
      case rel =>
        refine ⟨k + 1, by go_num, by omega, ?_, hbel1, hbx1⟩
        have hlen : k < (los ws).length := by simp [los]; exact hlt
        rw [List.take_succ_eq_append_getElem hlen, flat_snoc]
        have e : (los ws)[k] = (gW ws k).lo := by simp [los, gW_lt hlt]
        rw [e, List.map_take]
        exact hown1
      case measure => simp [intOf]; omega
    · go_wp2
      go_ret
      have hkk : k = ws.length := by omega
      subst hkk
      rw [List.take_of_length_le (by simp [los])] at hown
      exact ⟨_, rfl, by rw [los_length]; exact hown, hbel⟩

set_option maxHeartbeats 800000 in
theorem fast2_c (r : Int) (A : Option Addr) (c : Nat) (ws : List Wg) (T1 : TypeId) (w : World) (h1 : SlW w T1 A ws) (hl1 : ws.length ≤ 1000000) :
    Calls Try.prog 49 #[.agg #[I r, .slice A ws.length c]] w fun e w' => ∃ v, e = .returned v ∧ w'.ownsRow w.heap.size 3 1 v (his ws).length ((his ws).map I) ∧ Below w.heap.size w w' := by
  obtain ⟨i0, hi0, hz0, hz1, hz2⟩ := info_parts infoInt
  have hB0 := Bx.new w 24 #[I r, .slice A ws.length c]
  have hcb := hB0.cell
  go_enter Try.func49, Try.ntmps49
  go_wp2
  clear hcb
  go_loopw [3, 4] (fun v i wr => ∃ (k : Nat), i = I k ∧ k ≤ ws.length ∧ wr.ownsRow w.heap.size 3 1 v k (((his ws).take k).map I) ∧ Below w.heap.size w wr ∧ Bx wr w.heap.size 24 #[I r, .slice A ws.length c])
    (fun _ i _ => ws.length - (intOf i).toNat)
  case atStart => exact ⟨0, rfl, Nat.zero_le _, World.ownsRow_nil _ _ _ _, (Below.refl _ _).alloc (Nat.le_refl _) _, hB0⟩
  case round =>
    obtain ⟨k, rfl, hk, hown, hbel, hbx⟩ := hrel
    have hcb := hbx.cell
    by_cases hlt : k < ws.length
    · obtain ⟨b, o, rfl, _⟩ := SlW.some_ h1 hlt
      obtain ⟨_, _, hc2, hc3⟩ := SlW.cellG (h1.below hbel (Nat.le_refl _)) hlt
      have hsz := hbel.size
      go_wp2_with (at_builtin; refine wpList_append_own _ rfl _ _ 25 rfl w.heap.size 3 i0 _ 1 8 Try.underlying25 hi0 hz0 hz1 hz2 rfl (by decide) _ _ _ rfl (hown.alloc _) ⟨wr.heap.size, 0, none⟩ 1 1 [I (gW ws k).hi] rfl rfl ?c1 ?c2 ?c3 ?c4 ?c5 ?_)
      case c1 => exact (Bx.new wr 3 #[I (gW ws k).hi]).news
      case c2 => simp [Value.oneCell']
      case c3 => unfold maxLen; omega
      case c4 => omega
      case c5 => simp; omega
      intro v' w1 hown1 hgrow _
      have hbx' := hbx.alloc (.cells #[I (gW ws k).hi] 3)
      have hown' := hown.alloc (.cells #[I (gW ws k).hi] 3)
      have hbx1 := hbx'.grown hgrow (own_ne hown' hbx' (by decide))
      have hbel1 := below_own (hbel.alloc hsz _) hown' (Nat.le_refl _) (by simp; omega) hgrow
      clear hbx' hown'
      clear hgrow hcb hc2 hc3
      go_wp2
      go_roundw
      case rel =>
        refine ⟨k + 1, by go_num, by omega, ?_, hbel1, hbx1⟩
        have hlen : k < (his ws).length := by simp [his]; exact hlt
        rw [List.take_succ_eq_append_getElem hlen, flat_snoc]
        have e : (his ws)[k] = (gW ws k).hi := by simp [his, gW_lt hlt]
        rw [e, List.map_take]
        exact hown1
      case measure => simp [intOf]; omega
    · go_wp2
      go_ret
      have hkk : k = ws.length := by omega
      subst hkk
      rw [List.take_of_length_le (by simp [his])] at hown
      exact ⟨_, rfl, by rw [his_length]; exact hown, hbel⟩

def PacesPost2 (d : Nat) (ws : List Wg) (w : World) (e : Ending) (w' : World) : Prop :=
  ∃ (v : Value) (ps : List Int), e = .returned v ∧ w'.ownsRow w.heap.size 3 1 v ps.length (ps.map I) ∧ Dr w' d ∧ w.grownBy w' (some d) ∧ ps.length = ws.length ∧ PcB ws ps ps.length

set_option maxRecDepth 100000 in
set_option maxHeartbeats 1000000 in
theorem paces2_c (d : Nat) (r : Int) (A : Option Addr) (c : Nat) (ws : List Wg) (w : World) (hd : Dr w d) (h1 : SlW w 29 A ws) (hm : MadeWs ws) (h8 : ws.length ≤ 8) :
    Calls Try.prog 50 #[.pointer (some ⟨d, 0, none⟩), .agg #[I r, .slice A ws.length c]] w (PacesPost2 d ws w) := by
  have hlt := hd.lt
  have hb0 := Bx.new w 24 #[I r, .slice A ws.length c]
  go_enter Try.func50, Try.ntmps50
  go_wp2_with fail
  go_loopw [5, 6] (fun v i wr => ∃ (ps : List Int), i = .int .i64 ps.length ∧ ps.length ≤ ws.length ∧ PcB ws ps ps.length ∧ SO d w.heap.size r A ws.length c ws v ps.length (ps.map I) w wr) (fun _ i _ => ws.length - (intOf i).toNat)
  case atStart => exact ⟨[], rfl, Nat.zero_le _, fun j hj => absurd hj (by simp), hd.alloc _, hb0, h1.alloc _, World.ownsRow_nil _ _ _ _, World.grownBy_alloc _ _ _⟩
  case round =>
    obtain ⟨ps, rfl, hk, hst, hso⟩ := hrel
    obtain ⟨B, cb, rfl, hB, hcap⟩ := Sl.ofOwn2 hso.2.2.2.1
    by_cases hlt' : ps.length < ws.length
    · have hcb := hso.2.1.cell
      obtain ⟨b1, o1, rfl, _⟩ := SlW.some_ hso.2.2.1 hlt'
      obtain ⟨_, _, c2, c3⟩ := SlW.cellG hso.2.2.1 hlt'
      obtain ⟨_, m1, m2, m3, m4, m5, m6⟩ := hm.at_ hlt'
      generalize hlo : (gW ws ps.length).lo = lo at *
      generalize hhi : (gW ws ps.length).hi = hi at *
      have HL := Lib.hid hlo
      have HH := Lib.hid hhi
      clear hlo hhi
      go_wp2_with fail
      refine (of_c d lo hi _ hso.1 (by omega) (by omega) (by omega)).mono ?_
      rintro e w5 ⟨z, rfl, hz1, hz2, hd5, hk5⟩
      have hso7 := hso.kp hk5 hd5
      clear hso hk5 hd5 hB hcb c2 c3
      obtain ⟨i0, hi0, hz0, hz1', hz2'⟩ := info_parts infoInt
      have hown := hso7.2.2.2.1
      have hgr := hso7.2.2.2.2
      go_wp2_with (at_builtin; refine wpList_append_own _ rfl _ _ 25 rfl w.heap.size 3 i0 _ 1 8 Try.underlying25 hi0 hz0 hz1' hz2' rfl (by decide) _ _ _ rfl (hown.alloc _) ⟨w5.heap.size, 0, none⟩ 1 1 [I z] rfl rfl ?c1 ?c2 ?c3 ?c4 ?c5 ?_)
      case c1 => exact (Bx.new w5 3 #[I z]).news (cs := [I z])
      case c2 => simp [Value.oneCell']
      case c3 => unfold maxLen; omega
      case c4 => omega
      case c5 => have := hgr.size; simp; omega
      intro V' w8 hown8 hgr8 _
      have hgr9 := kp_own (kp_alloc hgr _) (hown.alloc _) (Nat.le_refl _) hgr8
      have hso8 := hso7.alloc (.cells #[I z] 3)
      have hd8 := hso8.1.grown hgr8 (own_dr hso8.2.2.2.1 hso8.1 (by decide))
      have hb8 := hso8.2.1.grown hgr8 (own_ne hso8.2.2.2.1 hso8.2.1 (by decide))
      have hw8 := sl_own hso8.2.2.1 hso8.2.2.2.1 hgr8 (by decide)
      clear hso8 hso7 hown hgr hgr8
      obtain ⟨B', cb', rfl, _, _⟩ := Sl.ofOwn2 hown8
      go_wp2
      go_roundw
      case rel =>
        have e1 : (ps ++ [z]).length = ps.length + 1 := by simp
        refine ⟨ps ++ [z], by rw [e1]; go_num, by rw [e1]; omega, ?_, hd8, hb8, hw8, ?_, hgr9⟩
        · intro j hj
          by_cases hjl : j < ps.length
          · rw [gI_app hjl]; exact hst j hjl
          · obtain rfl : j = ps.length := by rw [e1] at hj; omega
            rw [gI_end, HL.out, HH.out]
            exact ⟨hz1, hz2⟩
        · rw [flat_snoc, e1]
          exact hown8
      case measure => simp [intOf]; omega
    · have hle : ¬ ((ps.length : Int) < (ws.length : Int)) := by omega
      have hcb := hso.2.1.cell
      go_wp2
      go_ret
      exact ⟨_, ps, rfl, hso.2.2.2.1, hso.1, hso.2.2.2.2, by omega, hst⟩

/-- Five rows. -/
def FrAll (n0 n : Nat) (P0 P1 P2 P3 P4 : List Int → Prop) (v : Value) (w : World) : Prop := ∃ b g0 c0 g1 c1 g2 c2 g3 c3 g4 c4 l0 l1 l2 l3 l4,
  v = .slice (some ⟨b, 0, none⟩) 5 5 ∧ n0 ≤ b ∧ Bx w b 25 #[.slice (some ⟨g0, 0, none⟩) n c0, .slice (some ⟨g1, 0, none⟩) n c1, .slice (some ⟨g2, 0, none⟩) n c2, .slice (some ⟨g3, 0, none⟩) n c3, .slice (some ⟨g4, 0, none⟩) n c4] ∧
  (n0 ≤ g0 ∧ n0 ≤ g1 ∧ n0 ≤ g2 ∧ n0 ≤ g3 ∧ n0 ≤ g4) ∧ (l0.length = n ∧ l1.length = n ∧ l2.length = n ∧ l3.length = n ∧ l4.length = n) ∧
  (RowAt w g0 c0 l0 ∧ RowAt w g1 c1 l1 ∧ RowAt w g2 c2 l2 ∧ RowAt w g3 c3 l3 ∧ RowAt w g4 c4 l4) ∧ (P0 l0 ∧ P1 l1 ∧ P2 l2 ∧ P3 l3 ∧ P4 l4) ∧
  (g3 ≠ g0 ∧ g3 ≠ g1 ∧ g3 ≠ g2 ∧ g4 ≠ g0 ∧ g4 ≠ g1 ∧ g4 ≠ g2 ∧ g3 ≠ g4)
theorem FrAll.kp {n0 n d : Nat} {P0 P1 P2 P3 P4 : List Int → Prop} {v : Value} {w w' : World} (h : FrAll n0 n P0 P1 P2 P3 P4 v w) (hd : Dr w d) (hk : w.grownBy w' (some d)) : FrAll n0 n P0 P1 P2 P3 P4 v w' := by
  obtain ⟨b, g0, c0, g1, c1, g2, c2, g3, c3, g4, c4, l0, l1, l2, l3, l4, e, h1, h2, h3, h4, ⟨k0, k1, k2, k3, k4⟩, h5⟩ := h
  exact ⟨b, g0, c0, g1, c1, g2, c2, g3, c3, g4, c4, l0, l1, l2, l3, l4, e, h1, h2.kp hk (bx_ne h2 hd (by decide)), h3, h4, ⟨k0.kp hd hk, k1.kp hd hk, k2.kp hd hk, k3.kp hd hk, k4.kp hd hk⟩, h5⟩
def asAll (R : World → Prop) (d : Nat) (hRd : ∀ w, R w → Dr w d) (n0 n : Nat) (P0 P1 P2 P3 P4 : List Int → Prop) : As R (DF d) := ⟨FrAll n0 n P0 P1 P2 P3 P4, fun v w w' hr _ hk h => h.kp (hRd w hr) hk⟩

/-- A number lies within a span. -/
theorem in_c (a b n : Int) (w : World) (h1 : a ≤ n) (h2 : n ≤ b) :
    Calls Try.prog 53 #[Sp a b, I n] w fun e w' => e = .returned (.bool true) ∧ Below w.heap.size w w' := by
  go_enter Try.func53, Try.ntmps53
  have hb := Bx.new w 27 #[I a, I b]
  have hc := hb.cell
  go_wp2
  go_ret
  exact ⟨rfl, (Below.refl _ _).alloc (Nat.le_refl _) _⟩

theorem own_baseT {w : World} {base base' : Nat} {e : TypeId} {size n : Nat} {v : Value} {xs : List Value} (h : w.ownsRow base e size v n xs) (hb : base' ≤ base) : w.ownsRow base' e size v n xs := by
  refine ⟨h.1, ?_⟩
  rcases h.2 with h0 | ⟨g, cap, cur, e1, e2, rest⟩
  · exact .inl h0
  · exact .inr ⟨g, cap, cur, e1, by omega, rest⟩
/-- The rows of a walk. -/
def WkT (ws : List Wg) (sts ps : List Int) (L n0 : Nat) (v : Value) (w : World) : Prop := ∃ xs : List Value, w.ownsRow n0 25 1 v (L + 1) xs ∧ xs.length = L + 1 ∧ RowsOK ws sts ps ws.length w xs
theorem WkT.grow {ws : List Wg} {sts ps : List Int} {L n0 : Nat} {v : Value} {w w' : World} (h : WkT ws sts ps L n0 v w) (hb : Below w.heap.size w w') : WkT ws sts ps L n0 v w' := by
  obtain ⟨xs, h1, h2, h3⟩ := h
  exact ⟨xs, own_below h1 hb, h2, h3.grow hb⟩
def asWalkT (R : World → Prop) (ws : List Wg) (sts ps : List Int) (L n0 : Nat) : As R FB := ⟨WkT ws sts ps L n0, fun v w w' _ _ hb h => h.grow hb⟩
/-- The front of wing k in second t, where it lies. -/
theorem WkT.at_ {ws : List Wg} {sts ps : List Int} {L n0 : Nat} {v : Value} {w : World} (h : WkT ws sts ps L n0 v w) {t k : Nat} (ht : t ≤ L) (hk : k < ws.length) :
    ∃ g c b o c', v = .slice (some ⟨g, 0, none⟩) (L + 1) c ∧ w.cell? ⟨g, t, none⟩ = some (.slice (some ⟨b, o, none⟩) ws.length c') ∧ w.cell? ⟨b, o + k, none⟩ = some (I (rv ws sts ps (t : Int) k)) := by
  obtain ⟨xs, h1, h2, h3⟩ := h
  obtain ⟨Bj, cj, e1, e2⟩ := h3 t (by omega)
  obtain ⟨b, o, rfl, _⟩ := SlI.some_ e2 (show k < _ by rw [rowF_length]; exact hk)
  have hc := SlI.cellG e2 (show k < _ by rw [rowF_length]; exact hk)
  rw [gI_rowF hk] at hc
  rcases h1.2 with ⟨_, h0⟩ | ⟨g, cap, cur, rfl, _⟩
  · omega
  · refine ⟨g, cap, b, o, cj, rfl, ?_, hc⟩
    have := h1.cells (g := g) (by simp [Value.ownBlock]) t _ e1
    have e : (⟨g, 0, none⟩ : Addr).add t = ⟨g, t, none⟩ := by unfold Addr.add; split <;> simp_all
    rw [e] at this
    exact this

/-- What holds in the law from the fourth answer on. -/
def TrS (d q : Nat) (r : Int) (A : Option Addr) (c : Nat) (ws : List Wg) (B : Option Addr) (sts : List Int) (n0 q9 q11 q14 q16 : Nat) (s9 s11 s14 s16 : Array Value) (w0 w : World) : Prop :=
  LK d q r A c ws w0 w ∧ SlI w 3 B sts ∧ Bx w q9 27 s9 ∧ Bx w q11 27 s11 ∧ Bx w q14 27 s14 ∧ Bx w q16 27 s16 ∧ n0 ≤ w.heap.size
section
variable {d q c n0 q9 q11 q14 q16 : Nat} {r : Int} {A B : Option Addr} {ws : List Wg} {sts : List Int} {s9 s11 s14 s16 : Array Value} {w0 w w' : World}
theorem TrS.kp (h : TrS d q r A c ws B sts n0 q9 q11 q14 q16 s9 s11 s14 s16 w0 w) (hk : w.grownBy w' (some d)) (hd : Dr w' d) : TrS d q r A c ws B sts n0 q9 q11 q14 q16 s9 s11 s14 s16 w0 w' := by
  obtain ⟨h1, h2, h3, h4, h5, h6, h7⟩ := h
  exact ⟨h1.kp hk hd, Sl.kp h2 h1.dr hk (by decide), h3.kp hk (bx_ne h3 h1.dr (by decide)), h4.kp hk (bx_ne h4 h1.dr (by decide)), h5.kp hk (bx_ne h5 h1.dr (by decide)), h6.kp hk (bx_ne h6 h1.dr (by decide)), Nat.le_trans h7 hk.size⟩
theorem TrS.grow (h : TrS d q r A c ws B sts n0 q9 q11 q14 q16 s9 s11 s14 s16 w0 w) (hb : Below w.heap.size w w') : TrS d q r A c ws B sts n0 q9 q11 q14 q16 s9 s11 s14 s16 w0 w' :=
  h.kp (kp_of_below hb (Nat.le_refl _)) (h.1.dr.below hb h.1.dr.lt)
/-- A number is stored in a later block. -/
theorem TrS.put (h : TrS d q r A c ws B sts n0 q9 q11 q14 q16 s9 s11 s14 s16 w0 w) {g cg k : Nat} {ps : List Int} (hg : RowAt w g cg ps) (hn : n0 ≤ g) (hB : ∀ b o, B = some ⟨b, o, none⟩ → b < n0) (hw : w0.heap.size ≤ n0) (hq : q < n0) (u : Value) :
    TrS d q r A c ws B sts n0 q9 q11 q14 q16 s9 s11 s14 s16 w0 (w.setCell ⟨g, k, none⟩ u) := by
  obtain ⟨h1, h2, h3, h4, h5, h6, h7⟩ := h
  obtain ⟨cs, hg1, _⟩ := hg
  have ne : ∀ {b : Nat} {s : Array Value}, Bx w b 27 s → b ≠ g := fun hb e => by
    subst e
    unfold Bx at hb hg1
    rw [hb] at hg1
    injection hg1 with e
    injection e with _ e
    exact absurd e (by decide)
  have hdg : d ≠ g := fun e => by
    have := bx_ne hg1 h1.dr (by decide)
    exact this e.symm
  refine ⟨h1.set (p := ⟨g, k, none⟩) hg1 (by decide) (by simp only []; omega) hdg (by simp only []; omega) u, ?_, h3.far (ne h3) u, h4.far (ne h4) u, h5.far (ne h5) u, h6.far (ne h6) u, by simpa [World.setCell] using h7⟩
  rcases h2 with h2 | ⟨b, o, cs1, fz, hA, hh, hc⟩
  · exact .inl h2
  · exact .inr ⟨b, o, cs1, fz, hA, (Below.heap_setCell _ _ _ _ (by have := hB b o hA; simp only []; omega)).trans hh, hc⟩
end

/-- The five rows where they lie; the last two may have been stored into. -/
structure TrR (b n n0 : Nat) (g0 c0 g1 c1 g2 c2 g3 c3 g4 c4 : Nat) (l0 l1 l2 : List Int) (w : World) : Prop where
  box : Bx w b 25 #[.slice (some ⟨g0, 0, none⟩) n c0, .slice (some ⟨g1, 0, none⟩) n c1, .slice (some ⟨g2, 0, none⟩) n c2, .slice (some ⟨g3, 0, none⟩) n c3, .slice (some ⟨g4, 0, none⟩) n c4]
  a0 : RowAt w g0 c0 l0
  a1 : RowAt w g1 c1 l1
  a2 : RowAt w g2 c2 l2
theorem TrR.grow {b n n0 g0 c0 g1 c1 g2 c2 g3 c3 g4 c4 : Nat} {l0 l1 l2 : List Int} {w w' : World} (h : TrR b n n0 g0 c0 g1 c1 g2 c2 g3 c3 g4 c4 l0 l1 l2 w) (hb : Below w.heap.size w w') : TrR b n n0 g0 c0 g1 c1 g2 c2 g3 c3 g4 c4 l0 l1 l2 w' :=
  ⟨h.box.below hb h.box.lt, h.a0.below hb, h.a1.below hb, h.a2.below hb⟩
theorem TrR.put {b n n0 g0 c0 g1 c1 g2 c2 g3 c3 g4 c4 : Nat} {l0 l1 l2 : List Int} {w : World} (h : TrR b n n0 g0 c0 g1 c1 g2 c2 g3 c3 g4 c4 l0 l1 l2 w) {g cg k : Nat} {ps : List Int} (hg : RowAt w g cg ps) (h0 : g ≠ g0) (h1 : g ≠ g1) (h2 : g ≠ g2) (u : Value) : TrR b n n0 g0 c0 g1 c1 g2 c2 g3 c3 g4 c4 l0 l1 l2 (w.setCell ⟨g, k, none⟩ u) := by
  have hb : b ≠ g := fun e => by
    obtain ⟨cs, hg1, _⟩ := hg
    have hb := h.box
    subst e
    unfold Bx at hb hg1
    rw [hb] at hg1
    injection hg1 with e
    injection e with _ e
    exact absurd e (by decide)
  exact ⟨h.box.far hb u, h.a0.far (fun e => h0 e.symm) u, h.a1.far (fun e => h1 e.symm) u, h.a2.far (fun e => h2 e.symm) u⟩

theorem cell_lt {w : World} {p : Addr} {v : Value} (h : w.cell? p = some v) : p.block < w.heap.size := by
  rcases Nat.lt_or_ge p.block w.heap.size with h' | h'
  · exact h'
  · unfold World.cell? at h
    rw [Array.getElem?_eq_none h'] at h
    cases h
theorem cell_grow {w w' : World} {p : Addr} {v : Value} (h : w.cell? p = some v) (hb : Below w.heap.size w w') : w'.cell? p = some v := by
  have := hb.block p.block (cell_lt h)
  unfold World.cell? at h ⊢
  rw [this]; exact h
/-- All fronts of second t, where they lie. -/
theorem WkT.row {ws : List Wg} {sts ps : List Int} {L n0 : Nat} {v : Value} {w : World} (h : WkT ws sts ps L n0 v w) {t : Nat} (ht : t ≤ L) (hn : 0 < ws.length) :
    ∃ g c b o c', v = .slice (some ⟨g, 0, none⟩) (L + 1) c ∧ w.cell? ⟨g, t, none⟩ = some (.slice (some ⟨b, o, none⟩) ws.length c') ∧ ∀ k, k < ws.length → w.cell? ⟨b, o + k, none⟩ = some (I (rv ws sts ps (t : Int) k)) := by
  obtain ⟨g, c, b, o, c', e, h1, _⟩ := h.at_ ht hn
  refine ⟨g, c, b, o, c', e, h1, fun k hk => ?_⟩
  obtain ⟨g', c2, b', o', c3, e', h1', h2'⟩ := h.at_ ht hk
  rw [e] at e'
  injection e' with e1 _ _
  injection e1 with e1
  injection e1 with e1
  subst e1
  rw [h1] at h1'
  injection h1' with h1'
  injection h1' with h1' _ _
  injection h1' with h1'
  injection h1' with e2 e3
  subst e2; subst e3
  exact h2'

/-- All that holds in a round. -/
def TrL (d q : Nat) (r : Int) (A : Option Addr) (c : Nat) (ws : List Wg) (B : Option Addr) (sts : List Int) (n0 q9 q11 q14 q16 : Nat) (s9 s11 s14 s16 : Array Value) (b g0 d0 g1 d1 g2 d2 g3 d3 g4 d4 : Nat) (l0 l1 l2 l3 l4 : List Int) (w0 w : World) : Prop :=
  TrS d q r A c ws B sts n0 q9 q11 q14 q16 s9 s11 s14 s16 w0 w ∧ TrR b ws.length n0 g0 d0 g1 d1 g2 d2 g3 d3 g4 d4 l0 l1 l2 w ∧ RowAt w g3 d3 l3 ∧ RowAt w g4 d4 l4
/-- Row i is one of the five. -/
def RowIs (i : Nat) (ps l0 l1 l2 l3 l4 : List Int) : Prop := (i = 0 ∧ ps = l0) ∨ (i = 1 ∧ ps = l1) ∨ (i = 2 ∧ ps = l2) ∨ (i = 3 ∧ ps = l3) ∨ (i = 4 ∧ ps = l4)
section
variable {d q c n0 q9 q11 q14 q16 b g0 d0 g1 d1 g2 d2 g3 d3 g4 d4 : Nat} {r : Int} {A B : Option Addr} {ws : List Wg} {sts l0 l1 l2 l3 l4 : List Int} {s9 s11 s14 s16 : Array Value} {w0 w w' : World}
theorem TrL.grow (h : TrL d q r A c ws B sts n0 q9 q11 q14 q16 s9 s11 s14 s16 b g0 d0 g1 d1 g2 d2 g3 d3 g4 d4 l0 l1 l2 l3 l4 w0 w) (hb : Below w.heap.size w w') :
    TrL d q r A c ws B sts n0 q9 q11 q14 q16 s9 s11 s14 s16 b g0 d0 g1 d1 g2 d2 g3 d3 g4 d4 l0 l1 l2 l3 l4 w0 w' := ⟨h.1.grow hb, h.2.1.grow hb, h.2.2.1.below hb, h.2.2.2.below hb⟩
theorem TrL.row (h : TrL d q r A c ws B sts n0 q9 q11 q14 q16 s9 s11 s14 s16 b g0 d0 g1 d1 g2 d2 g3 d3 g4 d4 l0 l1 l2 l3 l4 w0 w) {i : Nat} (hi : i < 5) :
    ∃ g cg ps, w.cell? ⟨b, i, none⟩ = some (.slice (some ⟨g, 0, none⟩) ws.length cg) ∧ RowAt w g cg ps ∧ RowIs i ps l0 l1 l2 l3 l4 := by
  have hb := h.2.1.box.cell
  match i, hi with
  | 0, _ => exact ⟨g0, d0, l0, hb 0, h.2.1.a0, .inl ⟨rfl, rfl⟩⟩
  | 1, _ => exact ⟨g1, d1, l1, hb 1, h.2.1.a1, .inr (.inl ⟨rfl, rfl⟩)⟩
  | 2, _ => exact ⟨g2, d2, l2, hb 2, h.2.1.a2, .inr (.inr (.inl ⟨rfl, rfl⟩))⟩
  | 3, _ => exact ⟨g3, d3, l3, hb 3, h.2.2.1, .inr (.inr (.inr (.inl ⟨rfl, rfl⟩)))⟩
  | 4, _ => exact ⟨g4, d4, l4, hb 4, h.2.2.2, .inr (.inr (.inr (.inr ⟨rfl, rfl⟩)))⟩
end

section
variable {r : Int} {c : Nat} {ws : List Wg} {sts ps pp : List Int} {cb k kl i : Nat} {t p : Int} {A B : Option Addr} {w : World}
/-- What is so of a row. -/
theorem true_row (V : LV r c ws sts cb) (hk : k < ws.length) (ht : gI sts k ≤ t) (hkl : kl + 1 = ws.length) (hpp : InP ws pp)
    (h : RowIs i ps (los ws) (his ws) pp ((his ws).set k (gW ws k).lo) ((los ws).set k (gW ws k).hi)) :
    InP ws ps ∧ (front ws sts (los ws) t k ≤ rv ws sts ps t k ∧ rv ws sts ps t k ≤ front ws sts (his ws) t k) ∧
    (passed ws sts (his ws) k p ≤ passed ws sts ps k p ∧ passed ws sts ps k p ≤ passed ws sts (los ws) k p) ∧
    (passed ws sts (his ws) kl (r + (gW ws kl).len) ≤ passed ws sts ps kl (r + (gW ws kl).len) ∧ passed ws sts ps kl (r + (gW ws kl).len) ≤ passed ws sts (los ws) kl (r + (gW ws kl).len)) ∧
    (i = 0 → rv ws sts ps t k = front ws sts (los ws) t k ∧ passed ws sts ps k p = passed ws sts (los ws) k p ∧ passed ws sts ps kl (r + (gW ws kl).len) = passed ws sts (los ws) kl (r + (gW ws kl).len)) ∧
    (i = 1 → rv ws sts ps t k = front ws sts (his ws) t k ∧ passed ws sts ps k p = passed ws sts (his ws) k p ∧ passed ws sts ps kl (r + (gW ws kl).len) = passed ws sts (his ws) kl (r + (gW ws kl).len)) ∧
    (k ≠ 0 → (gapF ws sts (los ws) (gW ws k).hi t k ≤ rv ws sts ps t (k - 1) - (gW ws (k - 1)).len - rv ws sts ps t k ∧ rv ws sts ps t (k - 1) - (gW ws (k - 1)).len - rv ws sts ps t k ≤ gapF ws sts (his ws) (gW ws k).lo t k) ∧
      (i = 3 → rv ws sts ps t (k - 1) - (gW ws (k - 1)).len - rv ws sts ps t k = gapF ws sts (his ws) (gW ws k).lo t k) ∧
      (i = 4 → rv ws sts ps t (k - 1) - (gW ws (k - 1)).len - rv ws sts ps t k = gapF ws sts (los ws) (gW ws k).hi t k)) := by
  have hL := InP.los V
  have hH := InP.his V
  have hlh := V.val.los1 hk
  rw [gI_los _ _ hk, gI_his _ _ hk] at hlh
  have hp : InP ws ps := by
    rcases h with ⟨_, rfl⟩ | ⟨_, rfl⟩ | ⟨_, rfl⟩ | ⟨_, rfl⟩ | ⟨_, rfl⟩
    · exact hL
    · exact hH
    · exact hpp
    · exact hH.set hk (Int.le_refl _) hlh.2.1
    · exact hL.set hk hlh.2.1 (Int.le_refl _)
  have e0 : rv ws sts ps t k = front ws sts ps t k := by unfold rv; rw [if_pos ht]
  have e1 : rv ws sts ps t (k - 1) = front ws sts ps t (k - 1) := by unfold rv; rw [if_pos (Int.le_trans (V.val.sorted (by omega) hk) ht)]
  rw [e0, e1]
  refine ⟨hp, hp.front V hk ht, hp.passed V hk, hp.passed V (by omega), fun e => ?_, fun e => ?_, fun h0 => ?_⟩
  · rcases h with ⟨_, rfl⟩ | ⟨h, _⟩ | ⟨h, _⟩ | ⟨h, _⟩ | ⟨h, _⟩
    · exact ⟨rfl, rfl, rfl⟩
    all_goals omega
  · rcases h with ⟨h, _⟩ | ⟨_, rfl⟩ | ⟨h, _⟩ | ⟨h, _⟩ | ⟨h, _⟩
    · omega
    · exact ⟨rfl, rfl, rfl⟩
    all_goals omega
  · rw [gap_of h0]
    refine ⟨hp.gap V hk h0 ht, fun e => ?_, fun e => ?_⟩
    · rcases h with ⟨h, _⟩ | ⟨h, _⟩ | ⟨h, _⟩ | ⟨_, rfl⟩ | ⟨h, _⟩
      · omega
      · omega
      · omega
      · rw [gap_set (by rw [his_length]; exact hk) h0, gI_set (by rw [his_length]; exact hk), if_pos rfl]
      · omega
    · rcases h with ⟨h, _⟩ | ⟨h, _⟩ | ⟨h, _⟩ | ⟨h, _⟩ | ⟨_, rfl⟩
      · omega
      · omega
      · omega
      · omega
      · rw [gap_set (by rw [los_length]; exact hk) h0, gI_set (by rw [los_length]; exact hk), if_pos rfl]

/-- Gap answers, and has an error only for the first wing. -/
theorem LV.gapAll (V : LV r c ws sts cb) (h1 : SlW w 29 A ws) (h2 : SlI w 3 B sts) (hk : k < ws.length) (a1 : gI sts k ≤ t) (a2 : t ≤ 100000) :
    Calls Try.prog 40 #[.agg #[I r, .slice A ws.length c], .slice B sts.length cb, I (k : Int), I t] w fun e w' => ∃ u v x : Int, e = .returned (.tuple #[Sp u v, I x]) ∧ ((x = 0) = (0 < (k : Int))) ∧ (k ≠ 0 → u = gapF ws sts (los ws) (gW ws k).hi t k ∧ v = gapF ws sts (his ws) (gW ws k).lo t k) ∧ Below w.heap.size w w' := by
  by_cases h0 : k = 0
  · have h := gapP_c r A B c cb ws sts 29 3 w h1 h2 V.fit V.max.1 V.cap V.max.2 V.capb (k : Int) t
    rw [gaE_z (V.mom hk a1 a2) (by omega)] at h
    refine h.mono ?_
    rintro e w' ⟨rfl, hb⟩
    exact ⟨_, _, 7, rfl, by simp; omega, fun h => absurd h0 h, hb⟩
  · refine (V.gap_ h1 h2 hk h0 a1 a2).mono ?_
    rintro e w' ⟨rfl, hb⟩
    exact ⟨_, _, 0, rfl, by simp; omega, fun _ => ⟨rfl, rfl⟩, hb⟩
end
end Go.Proofs.Ytnihkgdkdinliaa
