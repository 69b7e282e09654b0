/- SchoolOf: a valid school comes of any drum. -/
import Derived.Test.YtnihkgdkdinliaaDrumB
import Derived.Test.YtnihkgdkdinliaaRegion
namespace Go.Proofs.Ytnihkgdkdinliaa
open Go.RowKit
set_option linter.unusedVariables false

def wname (k : Nat) : ByteArray := match k with
  | 0 => ⟨#[102, 114, 111, 110, 116]⟩ | 1 => ⟨#[100, 114, 117, 109, 115]⟩ | 2 => ⟨#[102, 108, 97, 103, 115]⟩ | 3 => ⟨#[102, 108, 111, 97, 116]⟩
  | 4 => ⟨#[98, 97, 105, 97, 110, 97, 115]⟩ | 5 => ⟨#[107, 105, 100, 115]⟩ | 6 => ⟨#[113, 117, 101, 101, 110, 115]⟩ | _ => ⟨#[98, 97, 99, 107]⟩

def wnames : Array Value := #[.string (wname 0), .string (wname 1), .string (wname 2), .string (wname 3), .string (wname 4), .string (wname 5), .string (wname 6), .string (wname 7)]

theorem wnames_at (k : Nat) (h : k < 8) : wnames[k]? = some (.string (wname k)) := by
  match k, h with
  | 0, _ => rfl | 1, _ => rfl | 2, _ => rfl | 3, _ => rfl | 4, _ => rfl | 5, _ => rfl | 6, _ => rfl | 7, _ => rfl

set_option maxHeartbeats 400000 in
theorem wingNames_c (w : World) :
    Calls Try.prog 63 #[] w fun e w' => ∃ b, e = .returned (.slice (some ⟨b, 0, none⟩) 8 8) ∧ Bx w' b 9 wnames ∧ w.grownBy w' none := by
  go_enter Try.func63, Try.ntmps63
  go_wp2
  go_ret
  exact ⟨_, rfl, Bx.new w _ _, World.grownBy_alloc _ _ _⟩

/-- A wing that was made: the k-th. -/
def MadeW (k : Nat) (g : Wg) : Prop := g.name = wname k ∧ 1 ≤ g.len ∧ g.len ≤ 80 ∧ 1 ≤ g.lo ∧ g.lo ≤ 80 ∧ g.lo ≤ g.hi ∧ g.hi ≤ 80
def MadeWs (ws : List Wg) : Prop := ∀ k (h : k < ws.length), MadeW k ws[k]

section
variable (R : World → Prop) (d : Nat) (hRd : ∀ w, R w → Dr w d)
/-- The frame of a region in which the drum is struck. -/
abbrev DF (d : Nat) : World → World → Prop := fun w1 w2 => w1.grownBy w2 (some d)
def asInt (F : World → World → Prop) (lo hi : Int) : As R F := As.pure R F fun v => ∃ r : Int, v = I r ∧ lo ≤ r ∧ r ≤ hi
include hRd in
theorem bx_last {w w' : World} {b : Nat} {T : TypeId} {cs : Array Value} (hT : T ≠ 84) (h : R w) (hk : w.grownBy w' (some d)) (hb : Bx w b T cs) : Bx w' b T cs := hb.kp hk (bx_ne hb (hRd w h) hT)
def asBox (T : TypeId) (cs : Array Value) (n m : Nat) (hT : T ≠ 84) : As R (DF d) :=
  ⟨fun v w => ∃ b, v = .slice (some ⟨b, 0, none⟩) n m ∧ Bx w b T cs, fun v w w' h _ hk ⟨b, e, hb⟩ => ⟨b, e, bx_last R d hRd hT h hk hb⟩⟩
def asElem (T : TypeId) (cs : Array Value) (k : Nat) (hT : T ≠ 84) : As R (DF d) :=
  ⟨fun v w => ∃ b, v = .pointer (some ⟨b, k, none⟩) ∧ Bx w b T cs, fun v w w' h _ hk ⟨b, e, hb⟩ => ⟨b, e, bx_last R d hRd hT h hk hb⟩⟩
def asThree (hi1 hi2 : Int) : As R (DF d) :=
  ⟨fun v w => ∃ b x y, v = .slice (some ⟨b, 0, none⟩) 3 3 ∧ 0 ≤ x ∧ x ≤ hi1 ∧ 0 ≤ y ∧ y ≤ hi2 ∧ Bx w b 3 #[I 0, I x, I y],
    fun v w w' h _ hk ⟨b, x, y, e, h1, h2, h3, h4, hb⟩ => ⟨b, x, y, e, h1, h2, h3, h4, bx_last R d hRd (by decide) h hk hb⟩⟩
def asWing (k : Nat) : As R (DF d) :=
  ⟨fun v w => ∃ b g, v = .slice (some ⟨b, 0, none⟩) 1 1 ∧ MadeW k g ∧ Bx w b 29 g.cells.toArray,
    fun v w w' h _ hk ⟨b, g, e, h1, hb⟩ => ⟨b, g, e, h1, bx_last R d hRd (by decide) h hk hb⟩⟩
end

/-- What holds while a wing is made. -/
def SR (d q0 q : Nat) (r2 : Int) (V : Value) (k : Nat) (xs : List Value) (w0 w : World) : Prop :=
  Dr w d ∧ Bx w q0 24 #[I 0, .slice none 0 0] ∧ Bx w q 24 #[I r2, V] ∧ w.ownsRow w0.heap.size 29 4 V k xs ∧ w0.grownBy w (some d)
theorem SR.kp {d q0 q : Nat} {r2 : Int} {V : Value} {k : Nat} {xs : List Value} {w0 w w' : World} (h : SR d q0 q r2 V k xs w0 w) (hk : w.grownBy w' (some d)) (hd : Dr w' d) : SR d q0 q r2 V k xs w0 w' :=
  ⟨hd, h.2.1.kp hk (bx_ne h.2.1 h.1 (by decide)), h.2.2.1.kp hk (bx_ne h.2.2.1 h.1 (by decide)), own_kp h.2.2.2.1 h.1 hk (by decide), kp_trans h.2.2.2.2 hk⟩
theorem SR.below {d q0 q : Nat} {r2 : Int} {V : Value} {k : Nat} {xs : List Value} {w0 w w' : World} (h : SR d q0 q r2 V k xs w0 w) (hk : w.grownBy w' none) : SR d q0 q r2 V k xs w0 w' := by
  refine h.kp (kp_none hk) ?_
  obtain ⟨x, hx, hw⟩ := h.1
  exact ⟨x, (hk.block d (lt_of_heap hx) (by simp)).trans hx, hw⟩

def SchoolPost (d : Nat) (most : Int) (w : World) (e : Ending) (w' : World) : Prop :=
  ∃ (r : Int) (A : Option Addr) (c : Nat) (ws : List Wg), e = .returned (.agg #[I r, .slice A ws.length c]) ∧ SlW w' 29 A ws ∧ Dr w' d ∧ w.grownBy w' (some d) ∧
    1 ≤ r ∧ r ≤ 2000 ∧ 1 ≤ ws.length ∧ (ws.length : Int) ≤ most ∧ MadeWs ws ∧ ws.length ≤ c

theorem infoWing : (Try.prog.info? 29).map (fun i => (i.zero, i.size, i.bytes)) = some (some (.agg #[.string ByteArray.empty, I 0, I 0, I 0]), 4, 40) := by kernel_rfl

theorem snoc_made {ws : List Wg} {g : Wg} (h : MadeWs ws) (hg : MadeW ws.length g) : MadeWs (ws ++ [g]) := by
  intro k hk
  by_cases hkl : k < ws.length
  · rw [List.getElem_append_left hkl]; exact h k hkl
  · have : k = ws.length := by simp at hk; omega
    subst this
    simpa using hg

set_option maxRecDepth 100000 in
set_option maxHeartbeats 1000000 in
theorem schoolOf_c (d : Nat) (most : Int) (w : World) (hd : Dr w d) (h1 : 1 ≤ most) (h2 : most ≤ 8) :
    Calls Try.prog 16 #[.pointer (some ⟨d, 0, none⟩), I most] w (SchoolPost d most w) := by
  have hlt := hd.lt
  go_enter Try.func16, Try.ntmps16
  go_wp2_with fail
  refine (any_c d _ _ 3 [60, 400, 2000] 60 2000 _ ((hd.alloc _).alloc _) (Sl.ofBx (Bx.new' _ 3 #[I 60, I 400, I 2000] _ (by simp))) (by decide) (by simp) (by simp) (by simp)).mono ?_
  rintro e w1 ⟨r1, rfl, hr1, hr2, hd1, hk1⟩
  go_wp2_with fail
  refine (mid_c d 1 r1 2000 _ hd1 (by omega) (by omega) (by omega) (by omega) (by omega) (by omega) (by omega)).mono ?_
  rintro e w2 ⟨r2, rfl, hr3, hr4, hd2, hk2⟩
  go_wp2_with fail
  refine (mid_c d 1 most most _ (hd2.alloc _) (by omega) (by omega) (by omega) (by omega) (by omega) (by omega) (by omega)).mono ?_
  rintro e w3 ⟨r3, rfl, hr5, hr6, hd3, hk3⟩
  have hW : w.grownBy w3 (some d) := kp_trans (kp_alloc (kp_trans (kp_trans (kp_alloc (World.grownBy_alloc _ _ _) _) hk1) hk2) _) hk3
  have hq0 : Bx w3 w.heap.size 24 #[I 0, .slice none 0 0] := ((((((Bx.new w 24 #[I 0, .slice none 0 0]).alloc _).kp hk1 (by omega)).kp hk2 (by omega)).alloc _).kp hk3 (by omega))
  have hs2 : w.heap.size < w2.heap.size := by have := hk1.size; have := hk2.size; simp at *; omega
  have hq : Bx w3 w2.heap.size 24 #[I r2, .slice none 0 0] := (Bx.new w2 24 #[I r2, .slice none 0 0]).kp hk3 (by omega)
  have hqd : d < w2.heap.size := hd2.lt
  generalize hqq : w2.heap.size = q at *
  clear hk1 hk2 hk3 hd1 hd2 hqq
  go_wp2_with fail
  go_loopw [6] (fun i wr => ∃ (k : Nat) (V : Value) (ws : List Wg), i = .int .i64 (r3 - k) ∧ (k : Int) ≤ r3 ∧ ws.length = k ∧ MadeWs ws ∧ Dr wr d ∧ Bx wr w.heap.size 24 #[I 0, .slice none 0 0] ∧ Bx wr q 24 #[I r2, V] ∧ wr.ownsRow w.heap.size 29 4 V k (ws.flatMap Wg.cells) ∧ w.grownBy wr (some d)) (fun i _ => (intOf i).toNat)
  case atStart => exact ⟨0, .slice none 0 0, [], by simp, by omega, rfl, fun k h => absurd h (by simp), hd3, hq0, hq, World.ownsRow_nil _ _ _ _, hW⟩
  case round =>
    obtain ⟨k, V, ws, rfl, hk, hws, hmade, hdr, hb0, hb, hown, hgr⟩ := hrel
    by_cases hlt' : (k : Int) < r3
    · have hpos : 0 < r3 - (k : Int) := by omega
      go_wp2_with fail
      refine (any_c d _ _ 3 [5, 40] 5 40 _ (hdr.alloc _) (Sl.ofBx (Bx.new' _ 3 #[I 5, I 40] _ (by simp))) (by decide) (by simp) (by simp) (by simp)).mono ?_
      rintro e w4 ⟨r4, rfl, hr7, hr8, hd4, hk4⟩
      go_wp2_with fail
      refine (mid_c d 1 r4 40 _ hd4 (by omega) (by omega) (by omega) (by omega) (by omega) (by omega) (by omega)).mono ?_
      rintro e w5 ⟨pace, rfl, hp1, hp2, hd5, hk5⟩
      have hdn : d < wr.heap.size := hdr.lt
      have hb5 := ((hb.alloc _).kp hk4 (bx_ne hb hdr (by decide))).kp hk5 (bx_ne hb hdr (by decide))
      have hb05 := ((hb0.alloc _).kp hk4 (bx_ne hb0 hdr (by decide))).kp hk5 (bx_ne hb0 hdr (by decide))
      have hown5 := own_kp (own_kp (hown.alloc _) (hdr.alloc _) hk4 (by decide)) hd4 hk5 (by decide)
      have hgr5 := kp_trans (kp_trans (kp_alloc hgr _) hk4) hk5
      clear hk4 hk5 hd4 hb hb0 hown hgr hdr
      obtain ⟨A, c, rfl, _⟩ := Sl.ofOwn hown5
      go_wp2_with fail
      have hk8 : (k : Int) < 8 := by omega
      have hRd : ∀ w', SR d w.heap.size q r2 (.slice A k c) k (ws.flatMap Wg.cells) w w' → Dr w' d := fun _ h => h.1
      refine wp_region_list_of (by kernel_rfl) (R := SR d w.heap.size q r2 (.slice A k c) k (ws.flatMap Wg.cells) w) (F := DF d)
        [As.is _ _ (.pointer (some ⟨q, 1, none⟩)),
          As.is _ _ (.slice A k c),
          asBox _ d hRd 9 wnames 8 8 (by decide),
          As.is _ _ (.pointer (some ⟨q, 1, none⟩)),
          As.is _ _ (.slice A k c),
          As.is _ _ (I k),
          asElem _ d hRd 9 wnames k (by decide),
          As.is _ _ (.string (wname k)),
          As.is _ _ (.pointer (some ⟨d, 0, none⟩)),
          As.is _ _ (.pointer (some ⟨d, 0, none⟩)),
          asBox _ d hRd 3 #[I 10, I 80] 2 2 (by decide),
          asInt _ _ 10 80,
          asInt _ _ 1 80,
          As.is _ _ (I pace),
          As.is _ _ (I pace),
          As.is _ _ (.pointer (some ⟨d, 0, none⟩)),
          As.is _ _ (.pointer (some ⟨d, 0, none⟩)),
          asInt _ _ 0 3,
          As.is _ _ (.pointer (some ⟨d, 0, none⟩)),
          asInt _ _ 0 29,
          asThree _ d hRd 3 29,
          asInt _ _ 0 29,
          asInt _ _ pace (pace + 29),
          As.pure _ _ fun v => ∃ r : Int, v = .agg #[I pace, I r] ∧ pace ≤ r ∧ r ≤ pace + 29,
          As.pure _ _ fun v => ∃ g : Wg, v = g.val ∧ MadeW k g,
          asWing _ d hRd k] 55 (by kernel_rfl) rfl ?_ ?_ ?_
      · exact ⟨hd5, hb05, hb5, hown5, kp_drew hgr5⟩
      · intro i hi o ho ev w' hR hc hf hg hs hd
        match i, hi, ho with
        | 0, _, ho =>
          cases ho
          have e5 : ev (.tmp 5) = .pointer (some ⟨q, 0, none⟩) := hs 5 (by kernel_rfl)
          go_simp
          exact ⟨rfl, hR, World.grownBy.refl _ _⟩
        | 1, _, ho =>
          cases ho
          have e26 : ev (.tmp 26) = (.pointer (some ⟨q, 1, none⟩)) := hd 0 26 (by kernel_rfl)
          have hc1 := hR.2.2.1.cell
          go_simp
          exact ⟨rfl, hR, World.grownBy.refl _ _⟩
        | 2, _, ho =>
          cases ho
          go_simp
          refine (wingNames_c w').mono ?_
          rintro e w1 ⟨b, rfl, hb1, hk1⟩
          exact ⟨⟨b, rfl, hb1⟩, hR.below hk1, kp_none hk1⟩
        | 3, _, ho =>
          cases ho
          have e5 : ev (.tmp 5) = .pointer (some ⟨q, 0, none⟩) := hs 5 (by kernel_rfl)
          go_simp
          exact ⟨rfl, hR, World.grownBy.refl _ _⟩
        | 4, _, ho =>
          cases ho
          have e29 : ev (.tmp 29) = (.pointer (some ⟨q, 1, none⟩)) := hd 3 29 (by kernel_rfl)
          have hc1 := hR.2.2.1.cell
          go_simp
          exact ⟨rfl, hR, World.grownBy.refl _ _⟩
        | 5, _, ho =>
          cases ho
          have e30 : ev (.tmp 30) = (.slice A k c) := hd 4 30 (by kernel_rfl)
          go_simp
          exact ⟨rfl, hR, World.grownBy.refl _ _⟩
        | 6, _, ho =>
          cases ho
          obtain ⟨b, e28, hb1⟩ : ∃ b, ev (.tmp 28) = .slice (some ⟨b, 0, none⟩) 8 8 ∧ Bx w' b 9 wnames := hd 2 28 (by kernel_rfl)
          have e31 : ev (.tmp 31) = I k := hd 5 31 (by kernel_rfl)
          go_simp
          exact ⟨⟨b, rfl, hb1⟩, hR, World.grownBy.refl _ _⟩
        | 7, _, ho =>
          cases ho
          obtain ⟨b, e32, hb1⟩ : ∃ b, ev (.tmp 32) = .pointer (some ⟨b, k, none⟩) ∧ Bx w' b 9 wnames := hd 6 32 (by kernel_rfl)
          have hc1 := (hb1.cell k).trans (wnames_at k (by omega))
          go_simp
          exact ⟨rfl, hR, World.grownBy.refl _ _⟩
        | 8, _, ho =>
          cases ho
          have e0 : ev (.tmp 0) = .pointer (some ⟨d, 0, none⟩) := hs 0 (by kernel_rfl)
          go_simp
          exact ⟨rfl, hR, World.grownBy.refl _ _⟩
        | 9, _, ho =>
          cases ho
          have e0 : ev (.tmp 0) = .pointer (some ⟨d, 0, none⟩) := hs 0 (by kernel_rfl)
          go_simp
          exact ⟨rfl, hR, World.grownBy.refl _ _⟩
        | 10, _, ho =>
          cases ho
          go_simp
          exact ⟨⟨_, rfl, Bx.new _ _ _⟩, hR.below (World.grownBy_alloc _ _ _), World.grownBy_alloc _ _ _⟩
        | 11, _, ho =>
          cases ho
          have e35 : ev (.tmp 35) = (.pointer (some ⟨d, 0, none⟩)) := hd 9 35 (by kernel_rfl)
          obtain ⟨b, e36, hb1⟩ : ∃ b, ev (.tmp 36) = .slice (some ⟨b, 0, none⟩) 2 2 ∧ Bx w' b 3 #[I 10, I 80] := hd 10 36 (by kernel_rfl)
          go_simp
          refine (any_c d _ _ 3 [10, 80] 10 80 _ hR.1 (Sl.ofBx hb1) (by decide) (by simp) (by simp) (by simp)).mono ?_
          rintro e w1 ⟨r, rfl, hr1, hr2, hd1, hk1⟩
          exact ⟨⟨r, rfl, hr1, hr2⟩, hR.kp hk1 hd1, hk1⟩
        | 12, _, ho =>
          cases ho
          have e34 : ev (.tmp 34) = (.pointer (some ⟨d, 0, none⟩)) := hd 8 34 (by kernel_rfl)
          obtain ⟨x, e37, hx1, hx2⟩ : ∃ r : Int, ev (.tmp 37) = I r ∧ 10 ≤ r ∧ r ≤ 80 := hd 11 37 (by kernel_rfl)
          go_simp
          refine (mid_c d 1 x 80 _ hR.1 (by omega) (by omega) (by omega) (by omega) (by omega) (by omega) (by omega)).mono ?_
          rintro e w1 ⟨r, rfl, hr1, hr2, hd1, hk1⟩
          exact ⟨⟨r, rfl, hr1, hr2⟩, hR.kp hk1 hd1, hk1⟩
        | 13, _, ho =>
          cases ho
          have e7 : ev (.tmp 7) = I pace := hs 7 (by kernel_rfl)
          go_simp
          exact ⟨rfl, hR, World.grownBy.refl _ _⟩
        | 14, _, ho =>
          cases ho
          have e7 : ev (.tmp 7) = I pace := hs 7 (by kernel_rfl)
          go_simp
          exact ⟨rfl, hR, World.grownBy.refl _ _⟩
        | 15, _, ho =>
          cases ho
          have e0 : ev (.tmp 0) = .pointer (some ⟨d, 0, none⟩) := hs 0 (by kernel_rfl)
          go_simp
          exact ⟨rfl, hR, World.grownBy.refl _ _⟩
        | 16, _, ho =>
          cases ho
          have e0 : ev (.tmp 0) = .pointer (some ⟨d, 0, none⟩) := hs 0 (by kernel_rfl)
          go_simp
          exact ⟨rfl, hR, World.grownBy.refl _ _⟩
        | 17, _, ho =>
          cases ho
          have e42 : ev (.tmp 42) = (.pointer (some ⟨d, 0, none⟩)) := hd 16 42 (by kernel_rfl)
          go_simp
          refine (roll_c d 4 3 _ hR.1 (by omega) (by omega) (by omega) (by omega)).mono ?_
          rintro e w1 ⟨r, rfl, hr1, hr2, hd1, hk1⟩
          exact ⟨⟨r, rfl, hr1, hr2⟩, hR.kp hk1 hd1, hk1⟩
        | 18, _, ho =>
          cases ho
          have e0 : ev (.tmp 0) = .pointer (some ⟨d, 0, none⟩) := hs 0 (by kernel_rfl)
          go_simp
          exact ⟨rfl, hR, World.grownBy.refl _ _⟩
        | 19, _, ho =>
          cases ho
          have e44 : ev (.tmp 44) = (.pointer (some ⟨d, 0, none⟩)) := hd 18 44 (by kernel_rfl)
          go_simp
          refine (roll_c d 30 29 _ hR.1 (by omega) (by omega) (by omega) (by omega)).mono ?_
          rintro e w1 ⟨r, rfl, hr1, hr2, hd1, hk1⟩
          exact ⟨⟨r, rfl, hr1, hr2⟩, hR.kp hk1 hd1, hk1⟩
        | 20, _, ho =>
          cases ho
          obtain ⟨x, e43, hx1, hx2⟩ : ∃ r : Int, ev (.tmp 43) = I r ∧ 0 ≤ r ∧ r ≤ 3 := hd 17 43 (by kernel_rfl)
          obtain ⟨y, e45, hy1, hy2⟩ : ∃ r : Int, ev (.tmp 45) = I r ∧ 0 ≤ r ∧ r ≤ 29 := hd 19 45 (by kernel_rfl)
          go_simp
          exact ⟨⟨_, x, y, rfl, hx1, hx2, hy1, hy2, Bx.new _ _ _⟩, hR.below (World.grownBy_alloc _ _ _), World.grownBy_alloc _ _ _⟩
        | 21, _, ho =>
          cases ho
          have e41 : ev (.tmp 41) = (.pointer (some ⟨d, 0, none⟩)) := hd 15 41 (by kernel_rfl)
          obtain ⟨b, x, y, e46, hx1, hx2, hy1, hy2, hb1⟩ : ∃ b x y, ev (.tmp 46) = .slice (some ⟨b, 0, none⟩) 3 3 ∧ 0 ≤ x ∧ x ≤ 3 ∧ 0 ≤ y ∧ y ≤ 29 ∧ Bx w' b 3 #[I 0, I x, I y] := hd 20 46 (by kernel_rfl)
          go_simp
          refine (any_c d _ _ 3 [0, x, y] 0 29 _ hR.1 (Sl.ofBx hb1) (by decide) (by simp) (by simp) (by simp; omega)).mono ?_
          rintro e w1 ⟨r, rfl, hr1, hr2, hd1, hk1⟩
          exact ⟨⟨r, rfl, hr1, hr2⟩, hR.kp hk1 hd1, hk1⟩
        | 22, _, ho =>
          cases ho
          have e40 : ev (.tmp 40) = I pace := hd 14 40 (by kernel_rfl)
          obtain ⟨x, e47, hx1, hx2⟩ : ∃ r : Int, ev (.tmp 47) = I r ∧ 0 ≤ r ∧ r ≤ 29 := hd 21 47 (by kernel_rfl)
          have ew : IntKind.i64.wrap (pace + x) = pace + x := IntWalk.i64_in _ (by omega)
          go_simp
          clear ew
          exact ⟨⟨_, rfl, by omega, by omega⟩, hR, World.grownBy.refl _ _⟩
        | 23, _, ho =>
          cases ho
          have e39 : ev (.tmp 39) = I pace := hd 13 39 (by kernel_rfl)
          obtain ⟨x, e48, hx1, hx2⟩ : ∃ r : Int, ev (.tmp 48) = I r ∧ pace ≤ r ∧ r ≤ (pace + 29) := hd 22 48 (by kernel_rfl)
          go_simp
          exact ⟨⟨_, rfl, hx1, hx2⟩, hR, World.grownBy.refl _ _⟩
        | 24, _, ho =>
          cases ho
          have e33 : ev (.tmp 33) = .string (wname k) := hd 7 33 (by kernel_rfl)
          obtain ⟨x, e38, hx1, hx2⟩ : ∃ r : Int, ev (.tmp 38) = I r ∧ 1 ≤ r ∧ r ≤ 80 := hd 12 38 (by kernel_rfl)
          obtain ⟨y, e49, hy1, hy2⟩ : ∃ r : Int, ev (.tmp 49) = .agg #[I pace, I r] ∧ pace ≤ r ∧ r ≤ pace + 29 := hd 23 49 (by kernel_rfl)
          go_simp
          exact ⟨⟨⟨wname k, x, pace, y⟩, rfl, rfl, hx1, hx2, hp1, by simp only []; omega, hy1, by simp only []; omega⟩, hR, World.grownBy.refl _ _⟩
        | 25, _, ho =>
          cases ho
          obtain ⟨g, e50, hg1⟩ : ∃ g : Wg, ev (.tmp 50) = g.val ∧ MadeW k g := hd 24 50 (by kernel_rfl)
          unfold Wg.val at e50
          go_simp
          exact ⟨⟨_, g, rfl, hg1, Bx.new _ _ _⟩, hR.below (World.grownBy_alloc _ _ _), World.grownBy_alloc _ _ _⟩
        | n + 26, hi, _ => exact absurd hi (by simp)
      · intro ρ w6 hR hρ K hK
        have p1 : ρ 1 = .slice A k c := hρ 1 (by simp)
        obtain ⟨b, g, p25, hg1, hb1⟩ : ∃ b g, ρ 25 = .slice (some ⟨b, 0, none⟩) 1 1 ∧ MadeW k g ∧ Bx w6 b 29 g.cells.toArray := hρ 25 (by simp)
        show K (putAll _ _ ρ 26) _
        simp only [putAll, dOf, List.getElem?_toArray, List.getElem?_cons_zero, List.getElem?_cons_succ, Option.bind_some, Act.put, List.setIfInBounds_toArray, List.set_cons_zero, List.set_cons_succ]
        rw [p1, p25]
        refine hK _ _ ?_
        change wpList _ _ _ [_, _, _] _ _
        clear hK K hρ
        obtain ⟨i0, hi0, hz0, hz1, hz2⟩ := info_parts infoWing
        obtain ⟨hdr6, hq06, hq6, hown6, hgr6⟩ := hR
        refine wpList_append_own _ rfl _ _ 22 rfl w.heap.size 29 i0 _ 4 40 Try.underlying22 hi0 hz0 hz1 hz2 rfl (by decide) _ _ _ rfl hown6 ⟨b, 0, none⟩ 1 1 g.cells rfl rfl ?c1 ?c2 ?c3 ?c4 ?c5 ?_
        case c1 => exact hb1.news
        case c2 => simp [Wg.cells, Value.oneCell']
        case c3 => unfold maxLen; omega
        case c4 => omega
        case c5 => exact hgr6.size
        intro V' w7 hown7 hgr7 _
        have hgr8 := kp_own hgr6 hown6 (Nat.le_refl _) hgr7
        have hdr7 := hdr6.grown hgr7 (own_dr hown6 hdr6 (by decide))
        have hq07 := hq06.grown hgr7 (own_ne hown6 hq06 (by decide))
        have hq7 := hq6.grown hgr7 (own_ne hown6 hq6 (by decide))
        have hqn : q ≠ w.heap.size := by omega
        have hqd' : q ≠ d := by omega
        obtain ⟨A', c', rfl, _⟩ := Sl.ofOwn hown7
        have hc7 := hq7.cell
        have hf7 := hq7.free
        clear hgr7 hown6 hdr6 hq06 hq6 hgr6 hb1 p1 p25
        go_wp2
        go_roundw
        case rel =>
          have e2 : (ws ++ [g]).flatMap Wg.cells = ws.flatMap Wg.cells ++ g.cells := by simp
          refine ⟨k + 1, .slice A' (k + 1) c', ws ++ [g], by go_num, by omega, by simp [hws], snoc_made hmade (by rw [hws]; exact hg1), hdr7.far (p := ⟨q, 1, none⟩) (Ne.symm hqd') _, hq07.far (p := ⟨q, 1, none⟩) (Ne.symm hqn) _, hq7.set_ 1 _, ?_, kp_setNew hgr8 (by simp only []; omega) _⟩
          rw [e2]
          exact hown7.kept (kp_setCell _ q 1 _) (.inr (Ne.symm (own_ne hown7 hq7 (by decide))))
        case measure => simp [intOf]; omega
    · have hpos : ¬ 0 < r3 - (k : Int) := by omega
      have hk3 : r3 = (k : Int) := by omega
      obtain ⟨A, c, rfl, hsl, hcap⟩ := Sl.ofOwn2 hown
      have hc1 := hb.cell
      have hc0 := hb0.cell
      have hf0 := hb0.free
      go_wp2
      have hb2 := (hb0.set_ 0 (I r2)).set_ 1 (.slice A k c)
      have hc2 := hb2.cell
      refine bodyPost_ret (v := .agg #[I r2, .slice A k c]) (by simp [results, Try.results16, go_sem, hc2]) rfl ?_
      have hne1 : d ≠ w.heap.size := by omega
      refine ⟨r2, A, c, ws, by rw [hws], ?_, (hdr.far (p := ⟨w.heap.size, 0, none⟩) hne1 _).far (p := ⟨w.heap.size, 1, none⟩) hne1 _, kp_setNew (kp_setNew hgr (Nat.le_refl _) _) (Nat.le_refl _) _, hr3, hr4, by omega, by rw [hws]; omega, hmade, by omega⟩
      exact (hsl.setCell (p := ⟨w.heap.size, 0, none⟩) hb0 (by decide) _).setCell (p := ⟨w.heap.size, 1, none⟩) (hb0.set_ 0 (I r2)) (by decide) _
end Go.Proofs.Ytnihkgdkdinliaa
