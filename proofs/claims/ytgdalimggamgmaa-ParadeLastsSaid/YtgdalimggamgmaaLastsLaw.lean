/- ParadeLasts. Own work. -/
import Derived.Test.YtgdalimggamgmaaLawKit
import Derived.Test.YtgdalimggamgmaaAskB
import Derived.Deep.Cut
import Derived.Deep.CutRange
namespace Go.Proofs.Ytgdalimggamgmaa
open Go.RowKit Go.ChangeShapes Go.WideShapes Go.ChangeAt
set_option linter.unusedVariables false
set_option linter.unusedSimpArgs false

/-- What holds in the law. -/
def LaR (d q : Nat) (r : Int) (A : Option Addr) (c : Nat) (ws : List Wg) (B : Option Addr) (sts : List Int) (qs : Nat) (ss : Array Value) (qr : Nat) (sr : Array Value) (w0 w : World) : Prop :=
  LK d q r A c ws w0 w ∧ SlI w 3 B sts ∧ Bx w qs 24 ss ∧ Bx w qr 54 sr
section
variable {d q : Nat} {r : Int} {A : Option Addr} {c : Nat} {ws : List Wg} {B : Option Addr} {sts : List Int} {qs qr : Nat} {ss sr : Array Value} {w0 w w' : World}
theorem LaR.kp (h : LaR d q r A c ws B sts qs ss qr sr w0 w) (hk : w.grownBy w' (some d)) (hd : Dr w' d) : LaR d q r A c ws B sts qs ss qr sr w0 w' :=
  ⟨h.1.kp hk hd, Sl.kp h.2.1 h.1.dr hk (by decide), h.2.2.1.kp hk (bx_ne h.2.2.1 h.1.dr (by decide)), h.2.2.2.kp hk (bx_ne h.2.2.2 h.1.dr (by decide))⟩
theorem LaR.grow (h : LaR d q r A c ws B sts qs ss qr sr w0 w) (hb : Below w.heap.size w w') : LaR d q r A c ws B sts qs ss qr sr w0 w' :=
  h.kp (kp_of_below hb (Nat.le_refl _)) (h.1.dr.below hb h.1.dr.lt)
/-- A store into a box of rules of the law's own. -/
theorem LaR.set (h : LaR d q r A c ws B sts qs ss qr sr w0 w) {b : Nat} {cs : Array Value} (hb : Bx w b 54 cs) (hn : w0.heap.size ≤ b) (hd : d ≠ b) (hqr : qr ≠ b) (i : Nat) (u : Value) : LaR d q r A c ws B sts qs ss qr sr w0 (w.setCell ⟨b, i, none⟩ u) := by
  obtain ⟨h1, h2, h3, h4⟩ := h
  have ne : ∀ {k : Nat} {T : TypeId} {zs : Array Value}, Bx w k T zs → T ≠ 54 → k ≠ b := fun hk hT e => by
    subst e
    unfold Bx at hk hb
    rw [hk] at hb
    injection hb with hb
    injection hb with _ ht
    exact hT ht
  exact ⟨h1.set (p := ⟨b, i, none⟩) hb (by decide) hn hd (ne h1.box (by decide)) u, h2.setCell (p := ⟨b, i, none⟩) hb (by decide) u, h3.far (p := ⟨b, i, none⟩) (ne h3 (by decide)) u, h4.far (p := ⟨b, i, none⟩) hqr u⟩
end

set_option maxRecDepth 100000 in
set_option maxHeartbeats 6000000 in
theorem lastsL_c (rs : Int) (Ar : Option Addr) (cs : Nat) (wss : List Wg) (Ts : TypeId) (Bs : Option Addr) (cbs : Nat) (stss : List Int) (Tt : TypeId) (ra rb rg : Int) (A0 : Option Addr) (c0 : Nat) (T0 : TypeId) (zs : List Int) (w : World)
    (ok : Qu.ok ⟨rs, Ar, cs, wss, Ts, Bs, cbs, stss, Tt⟩ w) (hs0 : SlI w T0 A0 zs) (hl0 : zs.length ≤ maxLen) :
    Calls Try.prog 5 #[.agg #[I rs, .slice Ar wss.length cs], .slice Bs stss.length cbs, .agg #[I ra, I rb, I rg], .slice A0 zs.length c0] w (LawPost w) := by
  have xs0 := (Bx.new w 24 #[I rs, .slice Ar wss.length cs]).alloc (.cells #[I ra, I rb, I rg] 54)
  have xr0 := Bx.new' (w.alloc (.cells #[I rs, .slice Ar wss.length cs] 24)) 54 #[I ra, I rb, I rg] (w.heap.size + 1) (by simp)
  have hA := ((Below.refl w.heap.size w).alloc (Nat.le_refl _) (.cells #[I rs, .slice Ar wss.length cs] 24)).alloc (by simp) (.cells #[I ra, I rb, I rg] 54)
  have hl2 := ok.l2
  unfold maxLen at hl2
  have hcs0 := xs0.cell
  go_enter Try.func5, Try.ntmps5
  go_wp2_with fail
  refine (long_c rs Ar cs wss Ts _ (ok.grow hA).h1 ok.fit ok.l1).mono ?_
  rintro e wA ⟨bl, rfl, hbA⟩
  have hB0 := hA.trans (hbA.mono hA.size)
  have xsA := xs0.below hbA xs0.lt
  have xrA := xr0.below hbA xr0.lt
  clear xs0 xr0 hcs0 hA hbA
  by_cases hgo : bl = true ∨ 20 < stss.length
  · have haw : ∀ W, Below w.heap.size w W → Calls Try.prog 14 #[] W fun e w' => e = .returned (.bool true) ∧ Below w.heap.size w w' := fun W hW => (awake_c W).mono fun e w' ⟨he, hb⟩ => ⟨he, hW.trans (hb.mono hW.size)⟩
    cases bl with
    | true =>
      go_wp2_with fail
      refine (haw _ hB0).mono ?_
      rintro e w20 ⟨rfl, hB⟩
      go_wp2
      go_ret
      exact ⟨rfl, hB⟩
    | false =>
      have hlong : 20 < stss.length := by simpa using hgo
      go_wp2_with fail
      refine (haw _ hB0).mono ?_
      rintro e w20 ⟨rfl, hB⟩
      go_wp2
      go_ret
      exact ⟨rfl, hB⟩
  obtain ⟨hbl, hshort⟩ : bl = false ∧ stss.length ≤ 20 := by
    constructor
    · cases bl with
      | true => exact absurd (.inl rfl) hgo
      | false => rfl
    · by_cases h : 20 < stss.length
      · exact absurd (.inr h) hgo
      · omega
  subst hbl
  clear hgo
  have hsA : SlI wA T0 A0 zs := Sl.below hs0 hB0 (Nat.le_refl _)
  go_wp2_with fail
  refine (drumOf_c A0 c0 T0 zs _ hsA hl0).mono ?_
  rintro e w1 ⟨d, rfl, hd1, hdn', hb1'⟩
  have hdn : w.heap.size ≤ d := Nat.le_trans hB0.size hdn'
  have hb1 := hB0.trans (hb1'.mono hB0.size)
  have xs1 := xsA.below hb1' xsA.lt
  have xr1 := xrA.below hb1' xrA.lt
  clear hb1' hB0 xsA xrA hsA
  go_wp2_with fail
  refine (schoolOf_c d 6 _ hd1 (by omega) (by omega)).mono ?_
  rintro e w2 ⟨r, A, c, ws, rfl, hws2, hd2, hk2, hr1, hr2, hn1, hn2, hm, hcap⟩
  have hB2 := below_of_kp hb1 hk2 hdn hb1.size
  have L3 : LK d w2.heap.size r A c ws w (w2.alloc (.cells #[I r, .slice A ws.length c] 24)) :=
    ⟨hd2.alloc _, Bx.new _ _ _, hws2.alloc _, hB2.alloc hB2.size _, hdn, hB2.size⟩
  have xs3 := (xs1.kp hk2 (bx_ne xs1 hd1 (by decide))).alloc (.cells #[I r, .slice A ws.length c] 24)
  have xr3 := (xr1.kp hk2 (bx_ne xr1 hd1 (by decide))).alloc (.cells #[I r, .slice A ws.length c] 24)
  clear hb1 hk2 hd1 hws2 hd2 xs1 xr1
  have hchk := made_chk hm hr1 hr2 hn1 (by omega)
  have hn6 : ws.length ≤ 6 := by omega
  have hc3 := L3.box.cell
  go_wp2_with fail
  refine (startsOf_c d r A c ws _ L3.dr L3.wings hm hchk).mono ?_
  rintro e w4 ⟨B, cb, sts, rfl, hsl4, hcapb, hd4, hk4, hlen, hcst, hst⟩
  have T4 : LaR d w2.heap.size r A c ws B sts w.heap.size #[I rs, .slice Ar wss.length cs] (w.heap.size + 1) #[I ra, I rb, I rg] w w4 := ⟨L3.kp hk4 hd4, hsl4, xs3.kp hk4 (bx_ne xs3 L3.dr (by decide)), xr3.kp hk4 (bx_ne xr3 L3.dr (by decide))⟩
  have V : LV r c ws sts cb := ⟨hm, hr1, hr2, hn1, by omega, hcap, hlen, hcapb, hcst, hst⟩
  clear hk4 hd4 hcst hst hlen hcapb L3 xs3 xr3 hc3 hsl4
  go_wp2_with fail
  refine (rulesOf_c d _ T4.1.dr).mono ?_
  rintro e w5 ⟨a, b, g, rfl, _, _, _, _, _, _, hd5, hk5⟩
  have T5 := (T4.kp hk5 hd5).grow ((Below.refl _ _).alloc (Nat.le_refl _) (.cells #[I a, I b, I g] 54))
  have x12 := Bx.new w5 54 #[I a, I b, I g]
  have hq12 : w.heap.size + 2 ≤ w5.heap.size := by have := (T4.kp hk5 hd5).2.2.2.lt; omega
  have hd12 : d ≠ w5.heap.size := by have := hd5.lt; omega
  clear hk5 hd5 T4
  have hc5 := T5.1.box.cell
  have hc12 := x12.cell
  go_wp2_with fail
  generalize w5.heap.size = q12 at *
  refine (lastsR_c r A B c cb ws sts 29 3 _ T5.1.wings T5.2.1 V.fit V.max.1 V.cap V.max.2 V.capb a b g).mono ?_
  rintro e w6 ⟨rfl, hb6⟩
  generalize laV r ws sts a b g = lv at *
  generalize laLo r ws sts a b g = ll at *
  generalize laHi r ws sts a b g = lh at *
  generalize laE r ws sts a b g = le at *
  have T6 := (T5.grow hb6).grow ((Below.refl _ _).alloc (Nat.le_refl _) (.cells #[I ll, I lh] 27))
  have x12b := (x12.below hb6 x12.lt).alloc (.cells #[I ll, I lh] 27)
  have x14 := Bx.new w6 27 #[I ll, I lh]
  clear hb6 T5 x12 hc5 hc12
  go_wp2_with fail
  refine (rare_c d 2 _ T6.1.dr (by omega) (by omega)).mono ?_
  rintro e w7 ⟨⟨tt, rfl⟩, hd7, hk7⟩
  have T7 := T6.kp hk7 hd7
  have x12c := x12b.kp hk7 (bx_ne x12b T6.1.dr (by decide))
  have x14b := x14.kp hk7 (bx_ne x14 T6.1.dr (by decide))
  clear hk7 hd7 T6 x12b x14
  generalize w6.heap.size = q14 at *
  go_upto_if 52 with (fail)
  go_cut [] from 53 (fun wx => LaR d w2.heap.size r A c ws B sts w.heap.size #[I rs, .slice Ar wss.length cs] (w.heap.size + 1) #[I ra, I rb, I rg] w wx ∧ ∃ a' b' g' : Int, Bx wx q12 54 #[I a', I b', I g'])
  case first =>
    cases tt with
    | false =>
      go_wp2_with fail
      go_meet
      case rel => exact ⟨T7, _, _, _, x12c⟩
    | true =>
      have hc14 := x14b.cell
      have hc12 := x12c.cell
      have hf12 := x12c.free
      go_wp2_with fail
      refine (any4_c d _ _ _ _ _ _ (T7.1.dr.alloc _) (Bx.new _ _ _)).mono ?_
      rintro e w8 ⟨⟨v1, rfl⟩, hd8, hk8⟩
      have T8 := (T7.grow ((Below.refl _ _).alloc (Nat.le_refl _) _)).kp hk8 hd8
      have x12e := (x12c.alloc _).kp hk8 (Ne.symm hd12)
      have x14c := (x14b.alloc _).kp hk8 (bx_ne x14b T7.1.dr (by decide))
      clear hk8 hd8 hc14 hc12 hf12
      have hc12 := x12e.cell
      have hf12 := x12e.free
      have hq1412 : q14 ≠ q12 := fun e => by
        subst e
        have h1 := x12c
        have h2 := x14b
        unfold Bx at h1 h2
        rw [h1] at h2
        injection h2 with h2
        injection h2 with _ ht
        exact absurd ht (by decide)
      by_cases hv : 0 < v1
      · have hv1 : 0 < v1 := hv
        have T9 := T8.set x12e (by omega) hd12 (by omega) 0 (I v1)
        have x12f : Bx (w8.setCell ⟨q12, 0, none⟩ (I v1)) q12 54 #[I v1, I b, I g] := x12e.set_ 0 (I v1)
        have x14d := x14c.far (p := ⟨q12, 0, none⟩) hq1412 (I v1)
        go_wp2_with fail
        clear hc12 hf12
        have hRd : ∀ w', (fun w' => LaR d w2.heap.size r A c ws B sts w.heap.size #[I rs, .slice Ar wss.length cs] (w.heap.size + 1) #[I ra, I rb, I rg] w w' ∧ Bx w' q12 54 #[I v1, I b, I g] ∧ Bx w' q14 27 #[I ll, I lh]) w' → Dr w' d := fun _ h => h.1.1.dr
        refine wp_region_list_s (by kernel_rfl) (R := (fun w' => LaR d w2.heap.size r A c ws B sts w.heap.size #[I rs, .slice Ar wss.length cs] (w.heap.size + 1) #[I ra, I rb, I rg] w w' ∧ Bx w' q12 54 #[I v1, I b, I g] ∧ Bx w' q14 27 #[I ll, I lh])) (F := DF d) [] [] []
            [As.is _ _ (.pointer (some ⟨q12, 0, none⟩)),
            As.is _ _ (I v1),
            As.is _ _ (.pointer (some ⟨d, 0, none⟩)),
            As.is _ _ (.pointer (some ⟨q14, 0, none⟩)),
            As.is _ _ (I ll),
            As.is _ _ (.pointer (some ⟨q14, 0, none⟩)),
            As.is _ _ (I ll),
            As.pure _ _ fun v => ∃ y : Int, v = I y,
            As.is _ _ (.pointer (some ⟨q14, 1, none⟩)),
            As.is _ _ (I lh),
            As.is _ _ (.pointer (some ⟨q14, 1, none⟩)),
            As.is _ _ (I lh),
            As.pure _ _ fun v => ∃ y : Int, v = I y,
            asFour _ d hRd,
            As.pure _ _ fun v => ∃ y : Int, v = I y,
            As.pure _ _ fun v => ∃ y : Int, v = I y] 151 (by kernel_rfl) rfl (⟨T9.grow (Below.refl _ _).drew, x12f, x14d⟩) (by simp) (by simp) ?_ (fun _ => World.grownBy.refl _ _) ?_ ?_ ?_
        · intro i' hi' o' ho k' b' hg u w' hR hu
          match i', hi', ho with
          | 0, _, ho => cases ho; cases hg
          | 1, _, ho => cases ho; cases hg
          | 2, _, ho => cases ho; cases hg
          | 3, _, ho => cases ho; cases hg
          | 4, _, ho => cases ho; cases hg
          | 5, _, ho => cases ho; cases hg
          | 6, _, ho => cases ho; cases hg
          | 7, _, ho => cases ho; cases hg
          | 8, _, ho => cases ho; cases hg
          | 9, _, ho => cases ho; cases hg
          | 10, _, ho => cases ho; cases hg
          | 11, _, ho => cases ho; cases hg
          | 12, _, ho => cases ho; cases hg
          | 13, _, ho => cases ho; cases hg
          | 14, _, ho => cases ho; cases hg
          | 15, _, ho => cases ho; cases hg
          | n + 16, hi, _ => exact absurd hi (by simp)
        · intro i' hi' hsk; cases hsk
        · intro i' hi' hsk o' ho ev w' hR hc hf hg hs hd
          match i', hi', ho with
          | 0, _, ho =>
            clear hsk
            cases ho
            have e12 : ev (.tmp 12) = .pointer (some ⟨q12, 0, none⟩) := hs 12 (by kernel_rfl)
            go_simp
            first | exact ⟨rfl, hR, World.grownBy.refl _ _⟩ | exact ⟨⟨rfl, rfl⟩, hR, World.grownBy.refl _ _⟩ | exact ⟨⟨rfl, fun h => absurd h (by decide)⟩, hR, World.grownBy.refl _ _⟩ | exact ⟨⟨rfl, rfl, fun h => absurd h (by decide)⟩, hR, World.grownBy.refl _ _⟩
          | 1, _, ho =>
            clear hsk
            cases ho
            have e68 : ev (.tmp 68) = .pointer (some ⟨q12, 0, none⟩) := hd 0 68 (by kernel_rfl)
            have m4 := hR.2.1.cell
            go_simp
            first | exact ⟨rfl, hR, World.grownBy.refl _ _⟩ | exact ⟨⟨rfl, rfl⟩, hR, World.grownBy.refl _ _⟩ | exact ⟨⟨rfl, fun h => absurd h (by decide)⟩, hR, World.grownBy.refl _ _⟩ | exact ⟨⟨rfl, rfl, fun h => absurd h (by decide)⟩, hR, World.grownBy.refl _ _⟩
          | 2, _, ho =>
            clear hsk
            cases ho
            have e9 : ev (.tmp 9) = .pointer (some ⟨d, 0, none⟩) := hs 9 (by kernel_rfl)
            go_simp
            first | exact ⟨rfl, hR, World.grownBy.refl _ _⟩ | exact ⟨⟨rfl, rfl⟩, hR, World.grownBy.refl _ _⟩ | exact ⟨⟨rfl, fun h => absurd h (by decide)⟩, hR, World.grownBy.refl _ _⟩ | exact ⟨⟨rfl, rfl, fun h => absurd h (by decide)⟩, hR, World.grownBy.refl _ _⟩
          | 3, _, ho =>
            clear hsk
            cases ho
            have e14 : ev (.tmp 14) = .pointer (some ⟨q14, 0, none⟩) := hs 14 (by kernel_rfl)
            go_simp
            first | exact ⟨rfl, hR, World.grownBy.refl _ _⟩ | exact ⟨⟨rfl, rfl⟩, hR, World.grownBy.refl _ _⟩ | exact ⟨⟨rfl, fun h => absurd h (by decide)⟩, hR, World.grownBy.refl _ _⟩ | exact ⟨⟨rfl, rfl, fun h => absurd h (by decide)⟩, hR, World.grownBy.refl _ _⟩
          | 4, _, ho =>
            clear hsk
            cases ho
            have e71 : ev (.tmp 71) = .pointer (some ⟨q14, 0, none⟩) := hd 3 71 (by kernel_rfl)
            have m4 := hR.2.2.cell
            go_simp
            first | exact ⟨rfl, hR, World.grownBy.refl _ _⟩ | exact ⟨⟨rfl, rfl⟩, hR, World.grownBy.refl _ _⟩ | exact ⟨⟨rfl, fun h => absurd h (by decide)⟩, hR, World.grownBy.refl _ _⟩ | exact ⟨⟨rfl, rfl, fun h => absurd h (by decide)⟩, hR, World.grownBy.refl _ _⟩
          | 5, _, ho =>
            clear hsk
            cases ho
            have e14 : ev (.tmp 14) = .pointer (some ⟨q14, 0, none⟩) := hs 14 (by kernel_rfl)
            go_simp
            first | exact ⟨rfl, hR, World.grownBy.refl _ _⟩ | exact ⟨⟨rfl, rfl⟩, hR, World.grownBy.refl _ _⟩ | exact ⟨⟨rfl, fun h => absurd h (by decide)⟩, hR, World.grownBy.refl _ _⟩ | exact ⟨⟨rfl, rfl, fun h => absurd h (by decide)⟩, hR, World.grownBy.refl _ _⟩
          | 6, _, ho =>
            clear hsk
            cases ho
            have e73 : ev (.tmp 73) = .pointer (some ⟨q14, 0, none⟩) := hd 5 73 (by kernel_rfl)
            have m4 := hR.2.2.cell
            go_simp
            first | exact ⟨rfl, hR, World.grownBy.refl _ _⟩ | exact ⟨⟨rfl, rfl⟩, hR, World.grownBy.refl _ _⟩ | exact ⟨⟨rfl, fun h => absurd h (by decide)⟩, hR, World.grownBy.refl _ _⟩ | exact ⟨⟨rfl, rfl, fun h => absurd h (by decide)⟩, hR, World.grownBy.refl _ _⟩
          | 7, _, ho =>
            clear hsk
            cases ho
            have e74 : ev (.tmp 74) = I ll := hd 6 74 (by kernel_rfl)
            go_simp
            first | exact ⟨⟨_, rfl⟩, hR, World.grownBy.refl _ _⟩ | exact ⟨⟨rfl, ⟨_, rfl⟩⟩, hR, World.grownBy.refl _ _⟩ | exact ⟨⟨⟨_, rfl⟩, fun h => absurd h (by decide)⟩, hR, World.grownBy.refl _ _⟩ | exact ⟨⟨rfl, ⟨_, rfl⟩, fun h => absurd h (by decide)⟩, hR, World.grownBy.refl _ _⟩
          | 8, _, ho =>
            clear hsk
            cases ho
            have e14 : ev (.tmp 14) = .pointer (some ⟨q14, 0, none⟩) := hs 14 (by kernel_rfl)
            go_simp
            first | exact ⟨rfl, hR, World.grownBy.refl _ _⟩ | exact ⟨⟨rfl, rfl⟩, hR, World.grownBy.refl _ _⟩ | exact ⟨⟨rfl, fun h => absurd h (by decide)⟩, hR, World.grownBy.refl _ _⟩ | exact ⟨⟨rfl, rfl, fun h => absurd h (by decide)⟩, hR, World.grownBy.refl _ _⟩
          | 9, _, ho =>
            clear hsk
            cases ho
            have e76 : ev (.tmp 76) = .pointer (some ⟨q14, 1, none⟩) := hd 8 76 (by kernel_rfl)
            have m4 := hR.2.2.cell
            go_simp
            first | exact ⟨rfl, hR, World.grownBy.refl _ _⟩ | exact ⟨⟨rfl, rfl⟩, hR, World.grownBy.refl _ _⟩ | exact ⟨⟨rfl, fun h => absurd h (by decide)⟩, hR, World.grownBy.refl _ _⟩ | exact ⟨⟨rfl, rfl, fun h => absurd h (by decide)⟩, hR, World.grownBy.refl _ _⟩
          | 10, _, ho =>
            clear hsk
            cases ho
            have e14 : ev (.tmp 14) = .pointer (some ⟨q14, 0, none⟩) := hs 14 (by kernel_rfl)
            go_simp
            first | exact ⟨rfl, hR, World.grownBy.refl _ _⟩ | exact ⟨⟨rfl, rfl⟩, hR, World.grownBy.refl _ _⟩ | exact ⟨⟨rfl, fun h => absurd h (by decide)⟩, hR, World.grownBy.refl _ _⟩ | exact ⟨⟨rfl, rfl, fun h => absurd h (by decide)⟩, hR, World.grownBy.refl _ _⟩
          | 11, _, ho =>
            clear hsk
            cases ho
            have e78 : ev (.tmp 78) = .pointer (some ⟨q14, 1, none⟩) := hd 10 78 (by kernel_rfl)
            have m4 := hR.2.2.cell
            go_simp
            first | exact ⟨rfl, hR, World.grownBy.refl _ _⟩ | exact ⟨⟨rfl, rfl⟩, hR, World.grownBy.refl _ _⟩ | exact ⟨⟨rfl, fun h => absurd h (by decide)⟩, hR, World.grownBy.refl _ _⟩ | exact ⟨⟨rfl, rfl, fun h => absurd h (by decide)⟩, hR, World.grownBy.refl _ _⟩
          | 12, _, ho =>
            clear hsk
            cases ho
            have e79 : ev (.tmp 79) = I lh := hd 11 79 (by kernel_rfl)
            go_simp
            first | exact ⟨⟨_, rfl⟩, hR, World.grownBy.refl _ _⟩ | exact ⟨⟨rfl, ⟨_, rfl⟩⟩, hR, World.grownBy.refl _ _⟩ | exact ⟨⟨⟨_, rfl⟩, fun h => absurd h (by decide)⟩, hR, World.grownBy.refl _ _⟩ | exact ⟨⟨rfl, ⟨_, rfl⟩, fun h => absurd h (by decide)⟩, hR, World.grownBy.refl _ _⟩
          | 13, _, ho =>
            clear hsk
            cases ho
            have e72 : ev (.tmp 72) = I ll := hd 4 72 (by kernel_rfl)
            obtain ⟨y75, e75⟩ : ∃ y : Int, ev (.tmp 75) = I y := hd 7 75 (by kernel_rfl)
            have e77 : ev (.tmp 77) = I lh := hd 9 77 (by kernel_rfl)
            obtain ⟨y80, e80⟩ : ∃ y : Int, ev (.tmp 80) = I y := hd 12 80 (by kernel_rfl)
            go_simp
            have hal := fun o => (Below.refl w'.heap.size w').alloc (Nat.le_refl _) o
            first | exact ⟨⟨_, _, _, _, _, rfl, Bx.new _ _ _⟩, ⟨hR.1.grow (hal _), hR.2.1.below (hal _) hR.2.1.lt, hR.2.2.below (hal _) hR.2.2.lt⟩, World.grownBy_alloc _ _ _⟩ | exact ⟨⟨rfl, ⟨_, _, _, _, _, rfl, Bx.new _ _ _⟩⟩, ⟨hR.1.grow (hal _), hR.2.1.below (hal _) hR.2.1.lt, hR.2.2.below (hal _) hR.2.2.lt⟩, World.grownBy_alloc _ _ _⟩ | exact ⟨⟨⟨_, _, _, _, _, rfl, Bx.new _ _ _⟩, fun h => absurd h (by decide)⟩, ⟨hR.1.grow (hal _), hR.2.1.below (hal _) hR.2.1.lt, hR.2.2.below (hal _) hR.2.2.lt⟩, World.grownBy_alloc _ _ _⟩ | exact ⟨⟨rfl, ⟨_, _, _, _, _, rfl, Bx.new _ _ _⟩, fun h => absurd h (by decide)⟩, ⟨hR.1.grow (hal _), hR.2.1.below (hal _) hR.2.1.lt, hR.2.2.below (hal _) hR.2.2.lt⟩, World.grownBy_alloc _ _ _⟩
          | 14, _, ho =>
            clear hsk
            cases ho
            have e70 : ev (.tmp 70) = .pointer (some ⟨d, 0, none⟩) := hd 2 70 (by kernel_rfl)
            obtain ⟨bf, f1, f2, f3, f4, e81, hbf⟩ : ∃ k x y z u, ev (.tmp 81) = .slice (some ⟨k, 0, none⟩) 4 4 ∧ Bx w' k 3 #[I x, I y, I z, I u] := hd 13 81 (by kernel_rfl)
            go_simp
            refine (any4_c d bf f1 f2 f3 f4 _ hR.1.1.dr hbf).mono ?_
            rintro e w1 ⟨⟨y, rfl⟩, hd1, hk1⟩
            first | exact ⟨⟨y, rfl⟩, ⟨hR.1.kp hk1 hd1, hR.2.1.kp hk1 (Ne.symm hd12), hR.2.2.kp hk1 (bx_ne hR.2.2 hR.1.1.dr (by decide))⟩, hk1⟩ | exact ⟨⟨rfl, ⟨y, rfl⟩⟩, ⟨hR.1.kp hk1 hd1, hR.2.1.kp hk1 (Ne.symm hd12), hR.2.2.kp hk1 (bx_ne hR.2.2 hR.1.1.dr (by decide))⟩, hk1⟩ | exact ⟨⟨⟨y, rfl⟩, fun h => absurd h (by decide)⟩, ⟨hR.1.kp hk1 hd1, hR.2.1.kp hk1 (Ne.symm hd12), hR.2.2.kp hk1 (bx_ne hR.2.2 hR.1.1.dr (by decide))⟩, hk1⟩ | exact ⟨⟨rfl, ⟨y, rfl⟩, fun h => absurd h (by decide)⟩, ⟨hR.1.kp hk1 hd1, hR.2.1.kp hk1 (Ne.symm hd12), hR.2.2.kp hk1 (bx_ne hR.2.2 hR.1.1.dr (by decide))⟩, hk1⟩
          | 15, _, ho =>
            clear hsk
            cases ho
            have e69 : ev (.tmp 69) = I v1 := hd 1 69 (by kernel_rfl)
            obtain ⟨y82, e82⟩ : ∃ y : Int, ev (.tmp 82) = I y := hd 14 82 (by kernel_rfl)
            go_simp
            first | (first | exact ⟨⟨_, rfl⟩, hR, World.grownBy.refl _ _⟩ | exact ⟨⟨rfl, ⟨_, rfl⟩⟩, hR, World.grownBy.refl _ _⟩ | exact ⟨⟨⟨_, rfl⟩, fun h => absurd h (by decide)⟩, hR, World.grownBy.refl _ _⟩ | exact ⟨⟨rfl, ⟨_, rfl⟩, fun h => absurd h (by decide)⟩, hR, World.grownBy.refl _ _⟩) | (split <;> (first | exact ⟨⟨_, rfl⟩, hR, World.grownBy.refl _ _⟩ | exact ⟨⟨rfl, ⟨_, rfl⟩⟩, hR, World.grownBy.refl _ _⟩ | exact ⟨⟨⟨_, rfl⟩, fun h => absurd h (by decide)⟩, hR, World.grownBy.refl _ _⟩ | exact ⟨⟨rfl, ⟨_, rfl⟩, fun h => absurd h (by decide)⟩, hR, World.grownBy.refl _ _⟩))
          | n + 16, hi, _ => exact absurd hi (by simp)
        intro ρ wE hR hρ hne K hK
        obtain ⟨mx, p15⟩ : ∃ y : Int, ρ 15 = I y := hρ 15 (by simp)
        show K (putAll _ _ ρ 16) _
        simp only [putAll, dOf, List.getElem?_toArray, List.getElem?_cons_zero, List.getElem?_cons_succ, Option.bind_some, Act.put, List.setIfInBounds_toArray, List.set_cons_zero, List.set_cons_succ]
        rw [p15]
        refine hK _ _ ?_
        change wpList _ _ _ [_, _] _ _
        obtain ⟨T10, x12g, _⟩ := hR
        clear hK K p15 hρ hne hRd
        have hc12 := x12g.cell
        have hf12 := x12g.free
        go_wp2_with fail
        go_meet
        case rel => exact ⟨T10.set x12g (by omega) hd12 (by omega) 1 _, _, _, _, x12g.set_ 1 (I mx)⟩
      · have hv1 : ¬ 0 < v1 := hv
        have T9 := T8.set x12e (by omega) hd12 (by omega) 0 (I 0)
        have x12f : Bx (w8.setCell ⟨q12, 0, none⟩ (I 0)) q12 54 #[I 0, I b, I g] := x12e.set_ 0 (I 0)
        have x14d := x14c.far (p := ⟨q12, 0, none⟩) hq1412 (I 0)
        go_wp2_with fail
        clear hc12 hf12
        have hRd : ∀ w', (fun w' => LaR d w2.heap.size r A c ws B sts w.heap.size #[I rs, .slice Ar wss.length cs] (w.heap.size + 1) #[I ra, I rb, I rg] w w' ∧ Bx w' q12 54 #[I 0, I b, I g] ∧ Bx w' q14 27 #[I ll, I lh]) w' → Dr w' d := fun _ h => h.1.1.dr
        refine wp_region_list_s (by kernel_rfl) (R := (fun w' => LaR d w2.heap.size r A c ws B sts w.heap.size #[I rs, .slice Ar wss.length cs] (w.heap.size + 1) #[I ra, I rb, I rg] w w' ∧ Bx w' q12 54 #[I 0, I b, I g] ∧ Bx w' q14 27 #[I ll, I lh])) (F := DF d) [] [] []
            [As.is _ _ (.pointer (some ⟨q12, 0, none⟩)),
            As.is _ _ (I 0),
            As.is _ _ (.pointer (some ⟨d, 0, none⟩)),
            As.is _ _ (.pointer (some ⟨q14, 0, none⟩)),
            As.is _ _ (I ll),
            As.is _ _ (.pointer (some ⟨q14, 0, none⟩)),
            As.is _ _ (I ll),
            As.pure _ _ fun v => ∃ y : Int, v = I y,
            As.is _ _ (.pointer (some ⟨q14, 1, none⟩)),
            As.is _ _ (I lh),
            As.is _ _ (.pointer (some ⟨q14, 1, none⟩)),
            As.is _ _ (I lh),
            As.pure _ _ fun v => ∃ y : Int, v = I y,
            asFour _ d hRd,
            As.pure _ _ fun v => ∃ y : Int, v = I y,
            As.pure _ _ fun v => ∃ y : Int, v = I y] 151 (by kernel_rfl) rfl (⟨T9.grow (Below.refl _ _).drew, x12f, x14d⟩) (by simp) (by simp) ?_ (fun _ => World.grownBy.refl _ _) ?_ ?_ ?_
        · intro i' hi' o' ho k' b' hg u w' hR hu
          match i', hi', ho with
          | 0, _, ho => cases ho; cases hg
          | 1, _, ho => cases ho; cases hg
          | 2, _, ho => cases ho; cases hg
          | 3, _, ho => cases ho; cases hg
          | 4, _, ho => cases ho; cases hg
          | 5, _, ho => cases ho; cases hg
          | 6, _, ho => cases ho; cases hg
          | 7, _, ho => cases ho; cases hg
          | 8, _, ho => cases ho; cases hg
          | 9, _, ho => cases ho; cases hg
          | 10, _, ho => cases ho; cases hg
          | 11, _, ho => cases ho; cases hg
          | 12, _, ho => cases ho; cases hg
          | 13, _, ho => cases ho; cases hg
          | 14, _, ho => cases ho; cases hg
          | 15, _, ho => cases ho; cases hg
          | n + 16, hi, _ => exact absurd hi (by simp)
        · intro i' hi' hsk; cases hsk
        · intro i' hi' hsk o' ho ev w' hR hc hf hg hs hd
          match i', hi', ho with
          | 0, _, ho =>
            clear hsk
            cases ho
            have e12 : ev (.tmp 12) = .pointer (some ⟨q12, 0, none⟩) := hs 12 (by kernel_rfl)
            go_simp
            first | exact ⟨rfl, hR, World.grownBy.refl _ _⟩ | exact ⟨⟨rfl, rfl⟩, hR, World.grownBy.refl _ _⟩ | exact ⟨⟨rfl, fun h => absurd h (by decide)⟩, hR, World.grownBy.refl _ _⟩ | exact ⟨⟨rfl, rfl, fun h => absurd h (by decide)⟩, hR, World.grownBy.refl _ _⟩
          | 1, _, ho =>
            clear hsk
            cases ho
            have e68 : ev (.tmp 68) = .pointer (some ⟨q12, 0, none⟩) := hd 0 68 (by kernel_rfl)
            have m4 := hR.2.1.cell
            go_simp
            first | exact ⟨rfl, hR, World.grownBy.refl _ _⟩ | exact ⟨⟨rfl, rfl⟩, hR, World.grownBy.refl _ _⟩ | exact ⟨⟨rfl, fun h => absurd h (by decide)⟩, hR, World.grownBy.refl _ _⟩ | exact ⟨⟨rfl, rfl, fun h => absurd h (by decide)⟩, hR, World.grownBy.refl _ _⟩
          | 2, _, ho =>
            clear hsk
            cases ho
            have e9 : ev (.tmp 9) = .pointer (some ⟨d, 0, none⟩) := hs 9 (by kernel_rfl)
            go_simp
            first | exact ⟨rfl, hR, World.grownBy.refl _ _⟩ | exact ⟨⟨rfl, rfl⟩, hR, World.grownBy.refl _ _⟩ | exact ⟨⟨rfl, fun h => absurd h (by decide)⟩, hR, World.grownBy.refl _ _⟩ | exact ⟨⟨rfl, rfl, fun h => absurd h (by decide)⟩, hR, World.grownBy.refl _ _⟩
          | 3, _, ho =>
            clear hsk
            cases ho
            have e14 : ev (.tmp 14) = .pointer (some ⟨q14, 0, none⟩) := hs 14 (by kernel_rfl)
            go_simp
            first | exact ⟨rfl, hR, World.grownBy.refl _ _⟩ | exact ⟨⟨rfl, rfl⟩, hR, World.grownBy.refl _ _⟩ | exact ⟨⟨rfl, fun h => absurd h (by decide)⟩, hR, World.grownBy.refl _ _⟩ | exact ⟨⟨rfl, rfl, fun h => absurd h (by decide)⟩, hR, World.grownBy.refl _ _⟩
          | 4, _, ho =>
            clear hsk
            cases ho
            have e71 : ev (.tmp 71) = .pointer (some ⟨q14, 0, none⟩) := hd 3 71 (by kernel_rfl)
            have m4 := hR.2.2.cell
            go_simp
            first | exact ⟨rfl, hR, World.grownBy.refl _ _⟩ | exact ⟨⟨rfl, rfl⟩, hR, World.grownBy.refl _ _⟩ | exact ⟨⟨rfl, fun h => absurd h (by decide)⟩, hR, World.grownBy.refl _ _⟩ | exact ⟨⟨rfl, rfl, fun h => absurd h (by decide)⟩, hR, World.grownBy.refl _ _⟩
          | 5, _, ho =>
            clear hsk
            cases ho
            have e14 : ev (.tmp 14) = .pointer (some ⟨q14, 0, none⟩) := hs 14 (by kernel_rfl)
            go_simp
            first | exact ⟨rfl, hR, World.grownBy.refl _ _⟩ | exact ⟨⟨rfl, rfl⟩, hR, World.grownBy.refl _ _⟩ | exact ⟨⟨rfl, fun h => absurd h (by decide)⟩, hR, World.grownBy.refl _ _⟩ | exact ⟨⟨rfl, rfl, fun h => absurd h (by decide)⟩, hR, World.grownBy.refl _ _⟩
          | 6, _, ho =>
            clear hsk
            cases ho
            have e73 : ev (.tmp 73) = .pointer (some ⟨q14, 0, none⟩) := hd 5 73 (by kernel_rfl)
            have m4 := hR.2.2.cell
            go_simp
            first | exact ⟨rfl, hR, World.grownBy.refl _ _⟩ | exact ⟨⟨rfl, rfl⟩, hR, World.grownBy.refl _ _⟩ | exact ⟨⟨rfl, fun h => absurd h (by decide)⟩, hR, World.grownBy.refl _ _⟩ | exact ⟨⟨rfl, rfl, fun h => absurd h (by decide)⟩, hR, World.grownBy.refl _ _⟩
          | 7, _, ho =>
            clear hsk
            cases ho
            have e74 : ev (.tmp 74) = I ll := hd 6 74 (by kernel_rfl)
            go_simp
            first | exact ⟨⟨_, rfl⟩, hR, World.grownBy.refl _ _⟩ | exact ⟨⟨rfl, ⟨_, rfl⟩⟩, hR, World.grownBy.refl _ _⟩ | exact ⟨⟨⟨_, rfl⟩, fun h => absurd h (by decide)⟩, hR, World.grownBy.refl _ _⟩ | exact ⟨⟨rfl, ⟨_, rfl⟩, fun h => absurd h (by decide)⟩, hR, World.grownBy.refl _ _⟩
          | 8, _, ho =>
            clear hsk
            cases ho
            have e14 : ev (.tmp 14) = .pointer (some ⟨q14, 0, none⟩) := hs 14 (by kernel_rfl)
            go_simp
            first | exact ⟨rfl, hR, World.grownBy.refl _ _⟩ | exact ⟨⟨rfl, rfl⟩, hR, World.grownBy.refl _ _⟩ | exact ⟨⟨rfl, fun h => absurd h (by decide)⟩, hR, World.grownBy.refl _ _⟩ | exact ⟨⟨rfl, rfl, fun h => absurd h (by decide)⟩, hR, World.grownBy.refl _ _⟩
          | 9, _, ho =>
            clear hsk
            cases ho
            have e76 : ev (.tmp 76) = .pointer (some ⟨q14, 1, none⟩) := hd 8 76 (by kernel_rfl)
            have m4 := hR.2.2.cell
            go_simp
            first | exact ⟨rfl, hR, World.grownBy.refl _ _⟩ | exact ⟨⟨rfl, rfl⟩, hR, World.grownBy.refl _ _⟩ | exact ⟨⟨rfl, fun h => absurd h (by decide)⟩, hR, World.grownBy.refl _ _⟩ | exact ⟨⟨rfl, rfl, fun h => absurd h (by decide)⟩, hR, World.grownBy.refl _ _⟩
          | 10, _, ho =>
            clear hsk
            cases ho
            have e14 : ev (.tmp 14) = .pointer (some ⟨q14, 0, none⟩) := hs 14 (by kernel_rfl)
            go_simp
            first | exact ⟨rfl, hR, World.grownBy.refl _ _⟩ | exact ⟨⟨rfl, rfl⟩, hR, World.grownBy.refl _ _⟩ | exact ⟨⟨rfl, fun h => absurd h (by decide)⟩, hR, World.grownBy.refl _ _⟩ | exact ⟨⟨rfl, rfl, fun h => absurd h (by decide)⟩, hR, World.grownBy.refl _ _⟩
          | 11, _, ho =>
            clear hsk
            cases ho
            have e78 : ev (.tmp 78) = .pointer (some ⟨q14, 1, none⟩) := hd 10 78 (by kernel_rfl)
            have m4 := hR.2.2.cell
            go_simp
            first | exact ⟨rfl, hR, World.grownBy.refl _ _⟩ | exact ⟨⟨rfl, rfl⟩, hR, World.grownBy.refl _ _⟩ | exact ⟨⟨rfl, fun h => absurd h (by decide)⟩, hR, World.grownBy.refl _ _⟩ | exact ⟨⟨rfl, rfl, fun h => absurd h (by decide)⟩, hR, World.grownBy.refl _ _⟩
          | 12, _, ho =>
            clear hsk
            cases ho
            have e79 : ev (.tmp 79) = I lh := hd 11 79 (by kernel_rfl)
            go_simp
            first | exact ⟨⟨_, rfl⟩, hR, World.grownBy.refl _ _⟩ | exact ⟨⟨rfl, ⟨_, rfl⟩⟩, hR, World.grownBy.refl _ _⟩ | exact ⟨⟨⟨_, rfl⟩, fun h => absurd h (by decide)⟩, hR, World.grownBy.refl _ _⟩ | exact ⟨⟨rfl, ⟨_, rfl⟩, fun h => absurd h (by decide)⟩, hR, World.grownBy.refl _ _⟩
          | 13, _, ho =>
            clear hsk
            cases ho
            have e72 : ev (.tmp 72) = I ll := hd 4 72 (by kernel_rfl)
            obtain ⟨y75, e75⟩ : ∃ y : Int, ev (.tmp 75) = I y := hd 7 75 (by kernel_rfl)
            have e77 : ev (.tmp 77) = I lh := hd 9 77 (by kernel_rfl)
            obtain ⟨y80, e80⟩ : ∃ y : Int, ev (.tmp 80) = I y := hd 12 80 (by kernel_rfl)
            go_simp
            have hal := fun o => (Below.refl w'.heap.size w').alloc (Nat.le_refl _) o
            first | exact ⟨⟨_, _, _, _, _, rfl, Bx.new _ _ _⟩, ⟨hR.1.grow (hal _), hR.2.1.below (hal _) hR.2.1.lt, hR.2.2.below (hal _) hR.2.2.lt⟩, World.grownBy_alloc _ _ _⟩ | exact ⟨⟨rfl, ⟨_, _, _, _, _, rfl, Bx.new _ _ _⟩⟩, ⟨hR.1.grow (hal _), hR.2.1.below (hal _) hR.2.1.lt, hR.2.2.below (hal _) hR.2.2.lt⟩, World.grownBy_alloc _ _ _⟩ | exact ⟨⟨⟨_, _, _, _, _, rfl, Bx.new _ _ _⟩, fun h => absurd h (by decide)⟩, ⟨hR.1.grow (hal _), hR.2.1.below (hal _) hR.2.1.lt, hR.2.2.below (hal _) hR.2.2.lt⟩, World.grownBy_alloc _ _ _⟩ | exact ⟨⟨rfl, ⟨_, _, _, _, _, rfl, Bx.new _ _ _⟩, fun h => absurd h (by decide)⟩, ⟨hR.1.grow (hal _), hR.2.1.below (hal _) hR.2.1.lt, hR.2.2.below (hal _) hR.2.2.lt⟩, World.grownBy_alloc _ _ _⟩
          | 14, _, ho =>
            clear hsk
            cases ho
            have e70 : ev (.tmp 70) = .pointer (some ⟨d, 0, none⟩) := hd 2 70 (by kernel_rfl)
            obtain ⟨bf, f1, f2, f3, f4, e81, hbf⟩ : ∃ k x y z u, ev (.tmp 81) = .slice (some ⟨k, 0, none⟩) 4 4 ∧ Bx w' k 3 #[I x, I y, I z, I u] := hd 13 81 (by kernel_rfl)
            go_simp
            refine (any4_c d bf f1 f2 f3 f4 _ hR.1.1.dr hbf).mono ?_
            rintro e w1 ⟨⟨y, rfl⟩, hd1, hk1⟩
            first | exact ⟨⟨y, rfl⟩, ⟨hR.1.kp hk1 hd1, hR.2.1.kp hk1 (Ne.symm hd12), hR.2.2.kp hk1 (bx_ne hR.2.2 hR.1.1.dr (by decide))⟩, hk1⟩ | exact ⟨⟨rfl, ⟨y, rfl⟩⟩, ⟨hR.1.kp hk1 hd1, hR.2.1.kp hk1 (Ne.symm hd12), hR.2.2.kp hk1 (bx_ne hR.2.2 hR.1.1.dr (by decide))⟩, hk1⟩ | exact ⟨⟨⟨y, rfl⟩, fun h => absurd h (by decide)⟩, ⟨hR.1.kp hk1 hd1, hR.2.1.kp hk1 (Ne.symm hd12), hR.2.2.kp hk1 (bx_ne hR.2.2 hR.1.1.dr (by decide))⟩, hk1⟩ | exact ⟨⟨rfl, ⟨y, rfl⟩, fun h => absurd h (by decide)⟩, ⟨hR.1.kp hk1 hd1, hR.2.1.kp hk1 (Ne.symm hd12), hR.2.2.kp hk1 (bx_ne hR.2.2 hR.1.1.dr (by decide))⟩, hk1⟩
          | 15, _, ho =>
            clear hsk
            cases ho
            have e69 : ev (.tmp 69) = I 0 := hd 1 69 (by kernel_rfl)
            obtain ⟨y82, e82⟩ : ∃ y : Int, ev (.tmp 82) = I y := hd 14 82 (by kernel_rfl)
            go_simp
            first | (first | exact ⟨⟨_, rfl⟩, hR, World.grownBy.refl _ _⟩ | exact ⟨⟨rfl, ⟨_, rfl⟩⟩, hR, World.grownBy.refl _ _⟩ | exact ⟨⟨⟨_, rfl⟩, fun h => absurd h (by decide)⟩, hR, World.grownBy.refl _ _⟩ | exact ⟨⟨rfl, ⟨_, rfl⟩, fun h => absurd h (by decide)⟩, hR, World.grownBy.refl _ _⟩) | (split <;> (first | exact ⟨⟨_, rfl⟩, hR, World.grownBy.refl _ _⟩ | exact ⟨⟨rfl, ⟨_, rfl⟩⟩, hR, World.grownBy.refl _ _⟩ | exact ⟨⟨⟨_, rfl⟩, fun h => absurd h (by decide)⟩, hR, World.grownBy.refl _ _⟩ | exact ⟨⟨rfl, ⟨_, rfl⟩, fun h => absurd h (by decide)⟩, hR, World.grownBy.refl _ _⟩))
          | n + 16, hi, _ => exact absurd hi (by simp)
        intro ρ wE hR hρ hne K hK
        obtain ⟨mx, p15⟩ : ∃ y : Int, ρ 15 = I y := hρ 15 (by simp)
        show K (putAll _ _ ρ 16) _
        simp only [putAll, dOf, List.getElem?_toArray, List.getElem?_cons_zero, List.getElem?_cons_succ, Option.bind_some, Act.put, List.setIfInBounds_toArray, List.set_cons_zero, List.set_cons_succ]
        rw [p15]
        refine hK _ _ ?_
        change wpList _ _ _ [_, _] _ _
        obtain ⟨T10, x12g, _⟩ := hR
        clear hK K p15 hρ hne hRd
        have hc12 := x12g.cell
        have hf12 := x12g.free
        go_wp2_with fail
        go_meet
        case rel => exact ⟨T10.set x12g (by omega) hd12 (by omega) 1 _, _, _, _, x12g.set_ 1 (I mx)⟩
  case rest =>
    obtain ⟨T8, a', b', g', x12d⟩ := hcut
    go_wp2_with fail
    refine wp_region_list_s (by kernel_rfl) (R := RB wc.heap.size wc) (F := FB) [] [] []
        [As.is _ _ (.agg #[I rs, .slice Ar wss.length cs]),
        As.is _ _ (.agg #[I r, .slice A ws.length c]),
        As.is _ _ (.agg #[I r, .slice A ws.length c]),
        asLit _ 24 #[I rs, .slice Ar wss.length cs, I r, .slice A ws.length c, I r, .slice A ws.length c] 3 3,
        As.is _ _ (.slice Bs stss.length cbs),
        As.is _ _ (.slice B sts.length cb),
        As.is _ _ (.slice B sts.length cb),
        asLit _ 25 #[.slice Bs stss.length cbs, .slice B sts.length cb, .slice B sts.length cb] 3 3,
        As.is _ _ (.agg #[I ra, I rb, I rg]),
        As.is _ _ (.agg #[I a', I b', I g']),
        As.is _ _ (.agg #[I ra, I rb, I rg]),
        asLit _ 54 #[I ra, I rb, I rg, I a', I b', I g', I ra, I rb, I rg] 3 3,
        asLit _ 24 #[I rs, .slice Ar wss.length cs, I r, .slice A ws.length c, I r, .slice A ws.length c] 3 3,
        asLit _ 25 #[.slice Bs stss.length cbs, .slice B sts.length cb, .slice B sts.length cb] 3 3,
        asLit _ 54 #[I ra, I rb, I rg, I a', I b', I g', I ra, I rb, I rg] 3 3] 151 (by kernel_rfl) rfl ((Below.refl _ _).drew) (by simp) (by simp) ?_ (fun _ => Below.refl _ _) ?_ ?_ ?_
    · intro i' hi' o' ho k' b' hg u w' hR hu
      match i', hi', ho with
      | 0, _, ho => cases ho; cases hg
      | 1, _, ho => cases ho; cases hg
      | 2, _, ho => cases ho; cases hg
      | 3, _, ho => cases ho; cases hg
      | 4, _, ho => cases ho; cases hg
      | 5, _, ho => cases ho; cases hg
      | 6, _, ho => cases ho; cases hg
      | 7, _, ho => cases ho; cases hg
      | 8, _, ho => cases ho; cases hg
      | 9, _, ho => cases ho; cases hg
      | 10, _, ho => cases ho; cases hg
      | 11, _, ho => cases ho; cases hg
      | 12, _, ho => cases ho; cases hg
      | 13, _, ho => cases ho; cases hg
      | 14, _, ho => cases ho; cases hg
      | n + 15, hi, _ => exact absurd hi (by simp)
    · intro i' hi' hsk; cases hsk
    · intro i' hi' hsk o' ho ev w' hR hc hf hg hs hd
      match i', hi', ho with
      | 0, _, ho =>
        clear hsk
        cases ho
        have e4 : ev (.tmp 4) = .pointer (some ⟨w.heap.size, 0, none⟩) := hs 4 (by kernel_rfl)
        have m4 := (T8.2.2.1.below hR T8.2.2.1.lt).cell
        go_simp
        first | exact ⟨rfl, hR, Below.refl _ _⟩ | exact ⟨⟨rfl, rfl⟩, hR, Below.refl _ _⟩ | exact ⟨⟨rfl, fun h => absurd h (by decide)⟩, hR, Below.refl _ _⟩ | exact ⟨⟨rfl, rfl, fun h => absurd h (by decide)⟩, hR, Below.refl _ _⟩
      | 1, _, ho =>
        clear hsk
        cases ho
        have e10 : ev (.tmp 10) = .pointer (some ⟨w2.heap.size, 0, none⟩) := hs 10 (by kernel_rfl)
        have m4 := (T8.1.box.below hR T8.1.box.lt).cell
        go_simp
        first | exact ⟨rfl, hR, Below.refl _ _⟩ | exact ⟨⟨rfl, rfl⟩, hR, Below.refl _ _⟩ | exact ⟨⟨rfl, fun h => absurd h (by decide)⟩, hR, Below.refl _ _⟩ | exact ⟨⟨rfl, rfl, fun h => absurd h (by decide)⟩, hR, Below.refl _ _⟩
      | 2, _, ho =>
        clear hsk
        cases ho
        have e10 : ev (.tmp 10) = .pointer (some ⟨w2.heap.size, 0, none⟩) := hs 10 (by kernel_rfl)
        have m4 := (T8.1.box.below hR T8.1.box.lt).cell
        go_simp
        first | exact ⟨rfl, hR, Below.refl _ _⟩ | exact ⟨⟨rfl, rfl⟩, hR, Below.refl _ _⟩ | exact ⟨⟨rfl, fun h => absurd h (by decide)⟩, hR, Below.refl _ _⟩ | exact ⟨⟨rfl, rfl, fun h => absurd h (by decide)⟩, hR, Below.refl _ _⟩
      | 3, _, ho =>
        clear hsk
        cases ho
        have e85 : ev (.tmp 85) = .agg #[I rs, .slice Ar wss.length cs] := hd 0 85 (by kernel_rfl)
        have e86 : ev (.tmp 86) = .agg #[I r, .slice A ws.length c] := hd 1 86 (by kernel_rfl)
        have e87 : ev (.tmp 87) = .agg #[I r, .slice A ws.length c] := hd 2 87 (by kernel_rfl)
        go_simp
        first | exact ⟨⟨_, rfl, Bx.new _ _ _⟩, hR.alloc hR.size _, (Below.refl _ _).alloc (Nat.le_refl _) _⟩ | exact ⟨⟨rfl, ⟨_, rfl, Bx.new _ _ _⟩⟩, hR.alloc hR.size _, (Below.refl _ _).alloc (Nat.le_refl _) _⟩ | exact ⟨⟨⟨_, rfl, Bx.new _ _ _⟩, fun h => absurd h (by decide)⟩, hR.alloc hR.size _, (Below.refl _ _).alloc (Nat.le_refl _) _⟩ | exact ⟨⟨rfl, ⟨_, rfl, Bx.new _ _ _⟩, fun h => absurd h (by decide)⟩, hR.alloc hR.size _, (Below.refl _ _).alloc (Nat.le_refl _) _⟩
      | 4, _, ho =>
        clear hsk
        cases ho
        have e1 : ev (.tmp 1) = .slice Bs stss.length cbs := hs 1 (by kernel_rfl)
        go_simp
        first | exact ⟨rfl, hR, Below.refl _ _⟩ | exact ⟨⟨rfl, rfl⟩, hR, Below.refl _ _⟩ | exact ⟨⟨rfl, fun h => absurd h (by decide)⟩, hR, Below.refl _ _⟩ | exact ⟨⟨rfl, rfl, fun h => absurd h (by decide)⟩, hR, Below.refl _ _⟩
      | 5, _, ho =>
        clear hsk
        cases ho
        have e11 : ev (.tmp 11) = .slice B sts.length cb := hs 11 (by kernel_rfl)
        go_simp
        first | exact ⟨rfl, hR, Below.refl _ _⟩ | exact ⟨⟨rfl, rfl⟩, hR, Below.refl _ _⟩ | exact ⟨⟨rfl, fun h => absurd h (by decide)⟩, hR, Below.refl _ _⟩ | exact ⟨⟨rfl, rfl, fun h => absurd h (by decide)⟩, hR, Below.refl _ _⟩
      | 6, _, ho =>
        clear hsk
        cases ho
        have e11 : ev (.tmp 11) = .slice B sts.length cb := hs 11 (by kernel_rfl)
        go_simp
        first | exact ⟨rfl, hR, Below.refl _ _⟩ | exact ⟨⟨rfl, rfl⟩, hR, Below.refl _ _⟩ | exact ⟨⟨rfl, fun h => absurd h (by decide)⟩, hR, Below.refl _ _⟩ | exact ⟨⟨rfl, rfl, fun h => absurd h (by decide)⟩, hR, Below.refl _ _⟩
      | 7, _, ho =>
        clear hsk
        cases ho
        have e89 : ev (.tmp 89) = .slice Bs stss.length cbs := hd 4 89 (by kernel_rfl)
        have e90 : ev (.tmp 90) = .slice B sts.length cb := hd 5 90 (by kernel_rfl)
        have e91 : ev (.tmp 91) = .slice B sts.length cb := hd 6 91 (by kernel_rfl)
        go_simp
        first | exact ⟨⟨_, rfl, Bx.new _ _ _⟩, hR.alloc hR.size _, (Below.refl _ _).alloc (Nat.le_refl _) _⟩ | exact ⟨⟨rfl, ⟨_, rfl, Bx.new _ _ _⟩⟩, hR.alloc hR.size _, (Below.refl _ _).alloc (Nat.le_refl _) _⟩ | exact ⟨⟨⟨_, rfl, Bx.new _ _ _⟩, fun h => absurd h (by decide)⟩, hR.alloc hR.size _, (Below.refl _ _).alloc (Nat.le_refl _) _⟩ | exact ⟨⟨rfl, ⟨_, rfl, Bx.new _ _ _⟩, fun h => absurd h (by decide)⟩, hR.alloc hR.size _, (Below.refl _ _).alloc (Nat.le_refl _) _⟩
      | 8, _, ho =>
        clear hsk
        cases ho
        have e6 : ev (.tmp 6) = .pointer (some ⟨w.heap.size + 1, 0, none⟩) := hs 6 (by kernel_rfl)
        have m4 := (T8.2.2.2.below hR T8.2.2.2.lt).cell
        go_simp
        first | exact ⟨rfl, hR, Below.refl _ _⟩ | exact ⟨⟨rfl, rfl⟩, hR, Below.refl _ _⟩ | exact ⟨⟨rfl, fun h => absurd h (by decide)⟩, hR, Below.refl _ _⟩ | exact ⟨⟨rfl, rfl, fun h => absurd h (by decide)⟩, hR, Below.refl _ _⟩
      | 9, _, ho =>
        clear hsk
        cases ho
        have e12 : ev (.tmp 12) = .pointer (some ⟨q12, 0, none⟩) := hs 12 (by kernel_rfl)
        have m4 := (x12d.below hR x12d.lt).cell
        go_simp
        first | exact ⟨rfl, hR, Below.refl _ _⟩ | exact ⟨⟨rfl, rfl⟩, hR, Below.refl _ _⟩ | exact ⟨⟨rfl, fun h => absurd h (by decide)⟩, hR, Below.refl _ _⟩ | exact ⟨⟨rfl, rfl, fun h => absurd h (by decide)⟩, hR, Below.refl _ _⟩
      | 10, _, ho =>
        clear hsk
        cases ho
        have e6 : ev (.tmp 6) = .pointer (some ⟨w.heap.size + 1, 0, none⟩) := hs 6 (by kernel_rfl)
        have m4 := (T8.2.2.2.below hR T8.2.2.2.lt).cell
        go_simp
        first | exact ⟨rfl, hR, Below.refl _ _⟩ | exact ⟨⟨rfl, rfl⟩, hR, Below.refl _ _⟩ | exact ⟨⟨rfl, fun h => absurd h (by decide)⟩, hR, Below.refl _ _⟩ | exact ⟨⟨rfl, rfl, fun h => absurd h (by decide)⟩, hR, Below.refl _ _⟩
      | 11, _, ho =>
        clear hsk
        cases ho
        have e93 : ev (.tmp 93) = .agg #[I ra, I rb, I rg] := hd 8 93 (by kernel_rfl)
        have e94 : ev (.tmp 94) = .agg #[I a', I b', I g'] := hd 9 94 (by kernel_rfl)
        have e95 : ev (.tmp 95) = .agg #[I ra, I rb, I rg] := hd 10 95 (by kernel_rfl)
        go_simp
        first | exact ⟨⟨_, rfl, Bx.new _ _ _⟩, hR.alloc hR.size _, (Below.refl _ _).alloc (Nat.le_refl _) _⟩ | exact ⟨⟨rfl, ⟨_, rfl, Bx.new _ _ _⟩⟩, hR.alloc hR.size _, (Below.refl _ _).alloc (Nat.le_refl _) _⟩ | exact ⟨⟨⟨_, rfl, Bx.new _ _ _⟩, fun h => absurd h (by decide)⟩, hR.alloc hR.size _, (Below.refl _ _).alloc (Nat.le_refl _) _⟩ | exact ⟨⟨rfl, ⟨_, rfl, Bx.new _ _ _⟩, fun h => absurd h (by decide)⟩, hR.alloc hR.size _, (Below.refl _ _).alloc (Nat.le_refl _) _⟩
      | 12, _, ho =>
        clear hsk
        cases ho
        obtain ⟨bb88, e88, hbb88⟩ : ∃ bz, ev (.tmp 88) = .slice (some ⟨bz, 0, none⟩) 3 3 ∧ Bx w' bz 24 #[I rs, .slice Ar wss.length cs, I r, .slice A ws.length c, I r, .slice A ws.length c] := hd 3 88 (by kernel_rfl)
        go_simp
        first | exact ⟨⟨bb88, rfl, hbb88⟩, hR, Below.refl _ _⟩ | exact ⟨⟨rfl, ⟨bb88, rfl, hbb88⟩⟩, hR, Below.refl _ _⟩ | exact ⟨⟨⟨bb88, rfl, hbb88⟩, fun h => absurd h (by decide)⟩, hR, Below.refl _ _⟩ | exact ⟨⟨rfl, ⟨bb88, rfl, hbb88⟩, fun h => absurd h (by decide)⟩, hR, Below.refl _ _⟩
      | 13, _, ho =>
        clear hsk
        cases ho
        obtain ⟨bb92, e92, hbb92⟩ : ∃ bz, ev (.tmp 92) = .slice (some ⟨bz, 0, none⟩) 3 3 ∧ Bx w' bz 25 #[.slice Bs stss.length cbs, .slice B sts.length cb, .slice B sts.length cb] := hd 7 92 (by kernel_rfl)
        go_simp
        first | exact ⟨⟨bb92, rfl, hbb92⟩, hR, Below.refl _ _⟩ | exact ⟨⟨rfl, ⟨bb92, rfl, hbb92⟩⟩, hR, Below.refl _ _⟩ | exact ⟨⟨⟨bb92, rfl, hbb92⟩, fun h => absurd h (by decide)⟩, hR, Below.refl _ _⟩ | exact ⟨⟨rfl, ⟨bb92, rfl, hbb92⟩, fun h => absurd h (by decide)⟩, hR, Below.refl _ _⟩
      | 14, _, ho =>
        clear hsk
        cases ho
        obtain ⟨bb96, e96, hbb96⟩ : ∃ bz, ev (.tmp 96) = .slice (some ⟨bz, 0, none⟩) 3 3 ∧ Bx w' bz 54 #[I ra, I rb, I rg, I a', I b', I g', I ra, I rb, I rg] := hd 11 96 (by kernel_rfl)
        go_simp
        first | exact ⟨⟨bb96, rfl, hbb96⟩, hR, Below.refl _ _⟩ | exact ⟨⟨rfl, ⟨bb96, rfl, hbb96⟩⟩, hR, Below.refl _ _⟩ | exact ⟨⟨⟨bb96, rfl, hbb96⟩, fun h => absurd h (by decide)⟩, hR, Below.refl _ _⟩ | exact ⟨⟨rfl, ⟨bb96, rfl, hbb96⟩, fun h => absurd h (by decide)⟩, hR, Below.refl _ _⟩
      | n + 15, hi, _ => exact absurd hi (by simp)
    intro ρ wE hR hρ hne K hK
    obtain ⟨b16, p12, x16⟩ : ∃ bz, ρ 12 = .slice (some ⟨bz, 0, none⟩) 3 3 ∧ Bx wE bz 24 #[I rs, .slice Ar wss.length cs, I r, .slice A ws.length c, I r, .slice A ws.length c] := hρ 12 (by simp)
    obtain ⟨b17, p13, x17⟩ : ∃ bz, ρ 13 = .slice (some ⟨bz, 0, none⟩) 3 3 ∧ Bx wE bz 25 #[.slice Bs stss.length cbs, .slice B sts.length cb, .slice B sts.length cb] := hρ 13 (by simp)
    obtain ⟨b18, p14, x18⟩ : ∃ bz, ρ 14 = .slice (some ⟨bz, 0, none⟩) 3 3 ∧ Bx wE bz 54 #[I ra, I rb, I rg, I a', I b', I g', I ra, I rb, I rg] := hρ 14 (by simp)
    show K (putAll _ _ ρ 15) _
    simp only [putAll, dOf, List.getElem?_toArray, List.getElem?_cons_zero, List.getElem?_cons_succ, Option.bind_some, Act.put, List.setIfInBounds_toArray, List.set_cons_zero, List.set_cons_succ]
    rw [p12, p13, p14]
    refine hK _ _ ?_
    change wpList _ _ _ [] _ _
    clear hK K p12 p13 p14 hρ hne
    have S7 : QT ⟨rs, Ar, cs, wss, Ts, Bs, cbs, stss, Tt⟩ ⟨r, A, c, ws, 29, B, cb, sts, 3⟩ b16 b17 b18 #[I rs, .slice Ar wss.length cs, I r, .slice A ws.length c, I r, .slice A ws.length c] #[.slice Bs stss.length cbs, .slice B sts.length cb, .slice B sts.length cb] #[I ra, I rb, I rg, I a', I b', I g', I ra, I rb, I rg] w wE :=
      have hW := T8.1.below.trans (hR.mono T8.1.below.size)
      ⟨⟨ok.grow hW, ⟨T8.1.wings.below hR (Nat.le_refl _), V.fit, V.max.1, V.cap, Sl.below T8.2.1 hR (Nat.le_refl _), V.max.2, V.capb⟩, x16, x17, by simp, hW⟩, x18⟩
    clear x16 x17 x18 T8 hR x12d T7 x12c x14b
    go_wp2_with fail
    go_loopw [19] (fun i wr => ∃ n : Nat, i = .int .i64 n ∧ n ≤ 3 ∧ QT ⟨rs, Ar, cs, wss, Ts, Bs, cbs, stss, Tt⟩ ⟨r, A, c, ws, 29, B, cb, sts, 3⟩ b16 b17 b18 #[I rs, .slice Ar wss.length cs, I r, .slice A ws.length c, I r, .slice A ws.length c] #[.slice Bs stss.length cbs, .slice B sts.length cb, .slice B sts.length cb] #[I ra, I rb, I rg, I a', I b', I g', I ra, I rb, I rg] w wr) (fun i _ => 3 - (intOf i).toNat)
    case atStart => exact ⟨0, rfl, by omega, S7⟩
    case round =>
      obtain ⟨i, rfl, hi4, hT⟩ := hrel
      clear S7
      by_cases hlt : i < 3
      · obtain ⟨x, u, v, z, qf⟩ := lasts_row hlt hT
        have hW := (Below.refl wr.heap.size wr)
        go_wp2_with fail
        refine wp_region_list_s (by kernel_rfl) (R := RB wr.heap.size wr) (F := FS Option.none wr.heap.size (fun x' y' : Int => x' = laLo x.r x.ws x.sts u v z ∧ y' = laHi x.r x.ws x.sts u v z)) [] [] [(19, 17)]
            [As.is _ _ (.slice (some ⟨b16, 0, none⟩) 3 3),
            As.is _ _ (I (i : Int)),
            As.is _ _ (.pointer (some ⟨b16, i * 2, none⟩)),
            As.is _ _ (.agg #[I x.r, .slice x.A x.ws.length x.c]),
            As.is _ _ (.slice (some ⟨b17, 0, none⟩) 3 3),
            As.is _ _ (I (i : Int)),
            As.is _ _ (.pointer (some ⟨b17, i, none⟩)),
            As.is _ _ (.slice x.B x.sts.length x.cb),
            As.is _ _ (.slice (some ⟨b18, 0, none⟩) 3 3),
            As.is _ _ (I (i : Int)),
            As.is _ _ (.pointer (some ⟨b18, i * 3, none⟩)),
            As.is _ _ (.agg #[I u, I v, I z]),
            As.is _ _ (.tuple #[I (laV x.r x.ws x.sts u v z), Sp (laLo x.r x.ws x.sts u v z) (laHi x.r x.ws x.sts u v z), I (laE x.r x.ws x.sts u v z)]),
            As.is _ _ (.tuple #[I (laV x.r x.ws x.sts u v z), Sp (laLo x.r x.ws x.sts u v z) (laHi x.r x.ws x.sts u v z), I (laE x.r x.ws x.sts u v z)]),
            As.is _ _ (I (laV x.r x.ws x.sts u v z)),
            As.is _ _ (Sp (laLo x.r x.ws x.sts u v z) (laHi x.r x.ws x.sts u v z)),
            As.is _ _ (I (laE x.r x.ws x.sts u v z)),
            asSp0 _ Option.none wr.heap.size (fun x' y' : Int => x' = laLo x.r x.ws x.sts u v z ∧ y' = laHi x.r x.ws x.sts u v z),
            As.is _ _ (I (laV x.r x.ws x.sts u v z)),
            asSp1 _ Option.none wr.heap.size (fun x' y' : Int => x' = laLo x.r x.ws x.sts u v z ∧ y' = laHi x.r x.ws x.sts u v z)] 151 (by kernel_rfl) rfl ((Below.refl _ _).drew) (by simp) (by simp) ?_ (fun _ => FS.refl _ _ _ _) ?_ ?_ ?_
        · intro i' hi' o' ho k' b' hg u w' hR hu
          match i', hi', ho with
          | 0, _, ho => cases ho; cases hg
          | 1, _, ho => cases ho; cases hg
          | 2, _, ho => cases ho; cases hg
          | 3, _, ho => cases ho; cases hg
          | 4, _, ho => cases ho; cases hg
          | 5, _, ho => cases ho; cases hg
          | 6, _, ho => cases ho; cases hg
          | 7, _, ho => cases ho; cases hg
          | 8, _, ho => cases ho; cases hg
          | 9, _, ho => cases ho; cases hg
          | 10, _, ho => cases ho; cases hg
          | 11, _, ho => cases ho; cases hg
          | 12, _, ho => cases ho; cases hg
          | 13, _, ho => cases ho; cases hg
          | 14, _, ho => cases ho; cases hg
          | 15, _, ho => cases ho; cases hg
          | 16, _, ho => cases ho; cases hg
          | 17, _, ho => cases ho; cases hg
          | 18, _, ho => cases ho; cases hg
          | 19, _, ho => cases ho; cases hg
          | n + 20, hi, _ => exact absurd hi (by simp)
        · intro i' hi' hsk; cases hsk
        · intro i' hi' hsk o' ho ev w' hR hc hf hg hs hd
          match i', hi', ho with
          | 0, _, ho =>
            clear hsk
            cases ho
            have e16 : ev (.tmp 16) = .slice (some ⟨b16, 0, none⟩) 3 3 := hs 16 (by kernel_rfl)
            go_simp
            first | exact ⟨rfl, hR, FS.refl _ _ _ _⟩ | exact ⟨⟨rfl, rfl⟩, hR, FS.refl _ _ _ _⟩ | exact ⟨⟨rfl, fun h => absurd h (by decide)⟩, hR, FS.refl _ _ _ _⟩ | exact ⟨⟨rfl, rfl, fun h => absurd h (by decide)⟩, hR, FS.refl _ _ _ _⟩
          | 1, _, ho =>
            clear hsk
            cases ho
            have e19 : ev (.tmp 19) = I (i : Int) := hs 19 (by kernel_rfl)
            go_simp
            first | exact ⟨rfl, hR, FS.refl _ _ _ _⟩ | exact ⟨⟨rfl, rfl⟩, hR, FS.refl _ _ _ _⟩ | exact ⟨⟨rfl, fun h => absurd h (by decide)⟩, hR, FS.refl _ _ _ _⟩ | exact ⟨⟨rfl, rfl, fun h => absurd h (by decide)⟩, hR, FS.refl _ _ _ _⟩
          | 2, _, ho =>
            clear hsk
            cases ho
            have e104 : ev (.tmp 104) = .slice (some ⟨b16, 0, none⟩) 3 3 := hd 0 104 (by kernel_rfl)
            have e105 : ev (.tmp 105) = I (i : Int) := hd 1 105 (by kernel_rfl)
            have hil : (i : Int) < 3 := by omega
            go_simp
            first | exact ⟨rfl, hR, FS.refl _ _ _ _⟩ | exact ⟨⟨rfl, rfl⟩, hR, FS.refl _ _ _ _⟩ | exact ⟨⟨rfl, fun h => absurd h (by decide)⟩, hR, FS.refl _ _ _ _⟩ | exact ⟨⟨rfl, rfl, fun h => absurd h (by decide)⟩, hR, FS.refl _ _ _ _⟩
          | 3, _, ho =>
            clear hsk
            cases ho
            have e106 : ev (.tmp 106) = .pointer (some ⟨b16, i * 2, none⟩) := hd 2 106 (by kernel_rfl)
            have m1 := (qf.grow hR).f.cr
            have m2 := (qf.grow hR).f.cs
            go_simp
            first | exact ⟨rfl, hR, FS.refl _ _ _ _⟩ | exact ⟨⟨rfl, rfl⟩, hR, FS.refl _ _ _ _⟩ | exact ⟨⟨rfl, fun h => absurd h (by decide)⟩, hR, FS.refl _ _ _ _⟩ | exact ⟨⟨rfl, rfl, fun h => absurd h (by decide)⟩, hR, FS.refl _ _ _ _⟩
          | 4, _, ho =>
            clear hsk
            cases ho
            have e17 : ev (.tmp 17) = .slice (some ⟨b17, 0, none⟩) 3 3 := hs 17 (by kernel_rfl)
            go_simp
            first | exact ⟨rfl, hR, FS.refl _ _ _ _⟩ | exact ⟨⟨rfl, rfl⟩, hR, FS.refl _ _ _ _⟩ | exact ⟨⟨rfl, fun h => absurd h (by decide)⟩, hR, FS.refl _ _ _ _⟩ | exact ⟨⟨rfl, rfl, fun h => absurd h (by decide)⟩, hR, FS.refl _ _ _ _⟩
          | 5, _, ho =>
            clear hsk
            cases ho
            have e19 : ev (.tmp 19) = I (i : Int) := hs 19 (by kernel_rfl)
            go_simp
            first | exact ⟨rfl, hR, FS.refl _ _ _ _⟩ | exact ⟨⟨rfl, rfl⟩, hR, FS.refl _ _ _ _⟩ | exact ⟨⟨rfl, fun h => absurd h (by decide)⟩, hR, FS.refl _ _ _ _⟩ | exact ⟨⟨rfl, rfl, fun h => absurd h (by decide)⟩, hR, FS.refl _ _ _ _⟩
          | 6, _, ho =>
            clear hsk
            cases ho
            have e108 : ev (.tmp 108) = .slice (some ⟨b17, 0, none⟩) 3 3 := hd 4 108 (by kernel_rfl)
            have e109 : ev (.tmp 109) = I (i : Int) := hd 5 109 (by kernel_rfl)
            have hil : (i : Int) < 3 := by omega
            go_simp
            first | exact ⟨rfl, hR, FS.refl _ _ _ _⟩ | exact ⟨⟨rfl, rfl⟩, hR, FS.refl _ _ _ _⟩ | exact ⟨⟨rfl, fun h => absurd h (by decide)⟩, hR, FS.refl _ _ _ _⟩ | exact ⟨⟨rfl, rfl, fun h => absurd h (by decide)⟩, hR, FS.refl _ _ _ _⟩
          | 7, _, ho =>
            clear hsk
            cases ho
            have e110 : ev (.tmp 110) = .pointer (some ⟨b17, i, none⟩) := hd 6 110 (by kernel_rfl)
            have m1 := (qf.grow hR).f.cl
            go_simp
            first | exact ⟨rfl, hR, FS.refl _ _ _ _⟩ | exact ⟨⟨rfl, rfl⟩, hR, FS.refl _ _ _ _⟩ | exact ⟨⟨rfl, fun h => absurd h (by decide)⟩, hR, FS.refl _ _ _ _⟩ | exact ⟨⟨rfl, rfl, fun h => absurd h (by decide)⟩, hR, FS.refl _ _ _ _⟩
          | 8, _, ho =>
            clear hsk
            cases ho
            have e18 : ev (.tmp 18) = .slice (some ⟨b18, 0, none⟩) 3 3 := hs 18 (by kernel_rfl)
            go_simp
            first | exact ⟨rfl, hR, FS.refl _ _ _ _⟩ | exact ⟨⟨rfl, rfl⟩, hR, FS.refl _ _ _ _⟩ | exact ⟨⟨rfl, fun h => absurd h (by decide)⟩, hR, FS.refl _ _ _ _⟩ | exact ⟨⟨rfl, rfl, fun h => absurd h (by decide)⟩, hR, FS.refl _ _ _ _⟩
          | 9, _, ho =>
            clear hsk
            cases ho
            have e19 : ev (.tmp 19) = I (i : Int) := hs 19 (by kernel_rfl)
            go_simp
            first | exact ⟨rfl, hR, FS.refl _ _ _ _⟩ | exact ⟨⟨rfl, rfl⟩, hR, FS.refl _ _ _ _⟩ | exact ⟨⟨rfl, fun h => absurd h (by decide)⟩, hR, FS.refl _ _ _ _⟩ | exact ⟨⟨rfl, rfl, fun h => absurd h (by decide)⟩, hR, FS.refl _ _ _ _⟩
          | 10, _, ho =>
            clear hsk
            cases ho
            have e112 : ev (.tmp 112) = .slice (some ⟨b18, 0, none⟩) 3 3 := hd 8 112 (by kernel_rfl)
            have e113 : ev (.tmp 113) = I (i : Int) := hd 9 113 (by kernel_rfl)
            have hil : (i : Int) < 3 := by omega
            go_simp
            first | exact ⟨rfl, hR, FS.refl _ _ _ _⟩ | exact ⟨⟨rfl, rfl⟩, hR, FS.refl _ _ _ _⟩ | exact ⟨⟨rfl, fun h => absurd h (by decide)⟩, hR, FS.refl _ _ _ _⟩ | exact ⟨⟨rfl, rfl, fun h => absurd h (by decide)⟩, hR, FS.refl _ _ _ _⟩
          | 11, _, ho =>
            clear hsk
            cases ho
            have e114 : ev (.tmp 114) = .pointer (some ⟨b18, i * 3, none⟩) := hd 10 114 (by kernel_rfl)
            have m1 := (qf.grow hR).ca
            have m2 := (qf.grow hR).cb
            have m3 := (qf.grow hR).cg
            go_simp
            first | exact ⟨rfl, hR, FS.refl _ _ _ _⟩ | exact ⟨⟨rfl, rfl⟩, hR, FS.refl _ _ _ _⟩ | exact ⟨⟨rfl, fun h => absurd h (by decide)⟩, hR, FS.refl _ _ _ _⟩ | exact ⟨⟨rfl, rfl, fun h => absurd h (by decide)⟩, hR, FS.refl _ _ _ _⟩
          | 12, _, ho =>
            clear hsk
            cases ho
            have e107 : ev (.tmp 107) = .agg #[I x.r, .slice x.A x.ws.length x.c] := hd 3 107 (by kernel_rfl)
            have e111 : ev (.tmp 111) = .slice x.B x.sts.length x.cb := hd 7 111 (by kernel_rfl)
            have e115 : ev (.tmp 115) = .agg #[I u, I v, I z] := hd 11 115 (by kernel_rfl)
            go_simp
            refine ((qf.grow hR).f.ok.lastsP _ _ _).mono ?_
            rintro e wz ⟨rfl, hwz⟩
            first | exact ⟨rfl, hR.trans (hwz.mono hR.size), FS.below hwz⟩ | exact ⟨⟨rfl, rfl⟩, hR.trans (hwz.mono hR.size), FS.below hwz⟩ | exact ⟨⟨rfl, fun h => absurd h (by decide)⟩, hR.trans (hwz.mono hR.size), FS.below hwz⟩ | exact ⟨⟨rfl, rfl, fun h => absurd h (by decide)⟩, hR.trans (hwz.mono hR.size), FS.below hwz⟩
          | 13, _, ho =>
            clear hsk
            cases ho
            have e116 : ev (.tmp 116) = .tuple #[I (laV x.r x.ws x.sts u v z), Sp (laLo x.r x.ws x.sts u v z) (laHi x.r x.ws x.sts u v z), I (laE x.r x.ws x.sts u v z)] := hd 12 116 (by kernel_rfl)
            go_simp
            first | exact ⟨rfl, hR, FS.refl _ _ _ _⟩ | exact ⟨⟨rfl, rfl⟩, hR, FS.refl _ _ _ _⟩ | exact ⟨⟨rfl, fun h => absurd h (by decide)⟩, hR, FS.refl _ _ _ _⟩ | exact ⟨⟨rfl, rfl, fun h => absurd h (by decide)⟩, hR, FS.refl _ _ _ _⟩
          | 14, _, ho =>
            clear hsk
            cases ho
            have e103 : ev (.tmp 103) = .tuple #[I (laV x.r x.ws x.sts u v z), Sp (laLo x.r x.ws x.sts u v z) (laHi x.r x.ws x.sts u v z), I (laE x.r x.ws x.sts u v z)] := hd 13 103 (by kernel_rfl)
            go_simp
            first | exact ⟨rfl, hR, FS.refl _ _ _ _⟩ | exact ⟨⟨rfl, rfl⟩, hR, FS.refl _ _ _ _⟩ | exact ⟨⟨rfl, fun h => absurd h (by decide)⟩, hR, FS.refl _ _ _ _⟩ | exact ⟨⟨rfl, rfl, fun h => absurd h (by decide)⟩, hR, FS.refl _ _ _ _⟩
          | 15, _, ho =>
            clear hsk
            cases ho
            have e103 : ev (.tmp 103) = .tuple #[I (laV x.r x.ws x.sts u v z), Sp (laLo x.r x.ws x.sts u v z) (laHi x.r x.ws x.sts u v z), I (laE x.r x.ws x.sts u v z)] := hd 13 103 (by kernel_rfl)
            go_simp
            first | exact ⟨rfl, hR, FS.refl _ _ _ _⟩ | exact ⟨⟨rfl, rfl⟩, hR, FS.refl _ _ _ _⟩ | exact ⟨⟨rfl, fun h => absurd h (by decide)⟩, hR, FS.refl _ _ _ _⟩ | exact ⟨⟨rfl, rfl, fun h => absurd h (by decide)⟩, hR, FS.refl _ _ _ _⟩
          | 16, _, ho =>
            clear hsk
            cases ho
            have e103 : ev (.tmp 103) = .tuple #[I (laV x.r x.ws x.sts u v z), Sp (laLo x.r x.ws x.sts u v z) (laHi x.r x.ws x.sts u v z), I (laE x.r x.ws x.sts u v z)] := hd 13 103 (by kernel_rfl)
            go_simp
            first | exact ⟨rfl, hR, FS.refl _ _ _ _⟩ | exact ⟨⟨rfl, rfl⟩, hR, FS.refl _ _ _ _⟩ | exact ⟨⟨rfl, fun h => absurd h (by decide)⟩, hR, FS.refl _ _ _ _⟩ | exact ⟨⟨rfl, rfl, fun h => absurd h (by decide)⟩, hR, FS.refl _ _ _ _⟩
          | 17, _, ho =>
            clear hsk
            cases ho
            go_simp
            first | exact ⟨⟨_, rfl, hR.size, (by simp), SpB.new _ _⟩, hR.alloc hR.size _, FS.below ((Below.refl _ _).alloc (Nat.le_refl _) _)⟩ | exact ⟨⟨rfl, ⟨_, rfl, hR.size, (by simp), SpB.new _ _⟩⟩, hR.alloc hR.size _, FS.below ((Below.refl _ _).alloc (Nat.le_refl _) _)⟩ | exact ⟨⟨⟨_, rfl, hR.size, (by simp), SpB.new _ _⟩, fun h => absurd h (by decide)⟩, hR.alloc hR.size _, FS.below ((Below.refl _ _).alloc (Nat.le_refl _) _)⟩ | exact ⟨⟨rfl, ⟨_, rfl, hR.size, (by simp), SpB.new _ _⟩, fun h => absurd h (by decide)⟩, hR.alloc hR.size _, FS.below ((Below.refl _ _).alloc (Nat.le_refl _) _)⟩
          | 18, _, ho =>
            clear hsk
            cases ho
            have e117 : ev (.tmp 117) = I (laV x.r x.ws x.sts u v z) := hd 14 117 (by kernel_rfl)
            go_simp
            first | exact ⟨rfl, hR, FS.refl _ _ _ _⟩ | exact ⟨⟨rfl, rfl⟩, hR, FS.refl _ _ _ _⟩ | exact ⟨⟨rfl, fun h => absurd h (by decide)⟩, hR, FS.refl _ _ _ _⟩ | exact ⟨⟨rfl, rfl, fun h => absurd h (by decide)⟩, hR, FS.refl _ _ _ _⟩
          | 19, _, ho =>
            clear hsk
            cases ho
            obtain ⟨bx, e21, hb1, hb2, hb3⟩ : ∃ b, ev (.tmp 21) = .pointer (some ⟨b, 0, none⟩) ∧ wr.heap.size ≤ b ∧ some b ≠ Option.none ∧ SpB (P0 (fun x' y' : Int => x' = laLo x.r x.ws x.sts u v z ∧ y' = laHi x.r x.ws x.sts u v z)) w' b := hd 17 21 (by kernel_rfl)
            have e118 : ev (.tmp 118) = Sp (laLo x.r x.ws x.sts u v z) (laHi x.r x.ws x.sts u v z) := hd 15 118 (by kernel_rfl)
            obtain ⟨x0, y0, _, hbx⟩ := hb3
            have hcx := hbx.cell
            have hfx := hbx.free
            go_simp
            have hP : (fun x' y' : Int => x' = laLo x.r x.ws x.sts u v z ∧ y' = laHi x.r x.ws x.sts u v z) _ _ := ⟨rfl, rfl⟩
            have hin : SpB (P0 (fun x' y' : Int => x' = laLo x.r x.ws x.sts u v z ∧ y' = laHi x.r x.ws x.sts u v z)) w' bx := ⟨x0, y0, ‹_›, hbx⟩
            first | exact ⟨⟨rfl, fun t ht => (by cases ht; exact ⟨bx, e21, hb1, hb2, hin.put hP⟩)⟩, below_put hR hb1 _ _, FS.put hb1 hin hP⟩ | exact ⟨fun t ht => (by cases ht; exact ⟨bx, e21, hb1, hb2, hin.put hP⟩), below_put hR hb1 _ _, FS.put hb1 hin hP⟩
          | n + 20, hi, _ => exact absurd hi (by simp)
        intro ρ wa hR hρ hne K hK
        have p16 : ρ 16 = I (laE x.r x.ws x.sts u v z) := hρ 16 (by simp)
        have p18 : ρ 18 = I (laV x.r x.ws x.sts u v z) := hρ 18 (by simp)
        obtain ⟨qa, p17, _, _, _, _, ⟨rfl, rfl⟩, xa⟩ : ∃ b, ρ 17 = .pointer (some ⟨b, 0, none⟩) ∧ wr.heap.size ≤ b ∧ some b ≠ Option.none ∧ SpB (fun x' y' : Int => x' = laLo x.r x.ws x.sts u v z ∧ y' = laHi x.r x.ws x.sts u v z) wa b := hρ 19 (by simp)
        show K (putAll _ _ ρ 20) _
        simp only [putAll, dOf, List.getElem?_toArray, List.getElem?_cons_zero, List.getElem?_cons_succ, Option.bind_some, Act.put, List.setIfInBounds_toArray, List.set_cons_zero, List.set_cons_succ]
        rw [p16, p17, p18]
        refine hK _ _ ?_
        change wpList _ _ _ [_] _ _
        clear hK K p16 p17 p18 hρ hne
        have qf := qf.grow hR
        have hWa := hW.trans (hR.mono hW.size)
        clear hW hR
        go_wp2_with fail
        refine wp_region_list_s (by kernel_rfl) (R := RB wa.heap.size wa) (F := FS Option.none wa.heap.size (fun x' y' : Int => x' = laLo x.r x.ws x.sts u v z ∧ y' = laHi x.r x.ws x.sts u v z)) [] [] [(19, 17)]
            [As.is _ _ (.slice (some ⟨b16, 0, none⟩) 3 3),
            As.is _ _ (I (i : Int)),
            As.is _ _ (.pointer (some ⟨b16, i * 2, none⟩)),
            As.is _ _ (.agg #[I x.r, .slice x.A x.ws.length x.c]),
            As.is _ _ (.slice (some ⟨b17, 0, none⟩) 3 3),
            As.is _ _ (I (i : Int)),
            As.is _ _ (.pointer (some ⟨b17, i, none⟩)),
            As.is _ _ (.slice x.B x.sts.length x.cb),
            As.is _ _ (.slice (some ⟨b18, 0, none⟩) 3 3),
            As.is _ _ (I (i : Int)),
            As.is _ _ (.pointer (some ⟨b18, i * 3, none⟩)),
            As.is _ _ (.agg #[I u, I v, I z]),
            As.is _ _ (.tuple #[I (laV x.r x.ws x.sts u v z), Sp (laLo x.r x.ws x.sts u v z) (laHi x.r x.ws x.sts u v z), I (laE x.r x.ws x.sts u v z)]),
            As.is _ _ (.tuple #[I (laV x.r x.ws x.sts u v z), Sp (laLo x.r x.ws x.sts u v z) (laHi x.r x.ws x.sts u v z), I (laE x.r x.ws x.sts u v z)]),
            As.is _ _ (I (laV x.r x.ws x.sts u v z)),
            As.is _ _ (Sp (laLo x.r x.ws x.sts u v z) (laHi x.r x.ws x.sts u v z)),
            As.is _ _ (I (laE x.r x.ws x.sts u v z)),
            asSp0 _ Option.none wa.heap.size (fun x' y' : Int => x' = laLo x.r x.ws x.sts u v z ∧ y' = laHi x.r x.ws x.sts u v z),
            As.is _ _ (I (laV x.r x.ws x.sts u v z)),
            asSp1 _ Option.none wa.heap.size (fun x' y' : Int => x' = laLo x.r x.ws x.sts u v z ∧ y' = laHi x.r x.ws x.sts u v z)] 151 (by kernel_rfl) rfl ((Below.refl _ _).drew) (by simp) (by simp) ?_ (fun _ => FS.refl _ _ _ _) ?_ ?_ ?_
        · intro i' hi' o' ho k' b' hg u w' hR hu
          match i', hi', ho with
          | 0, _, ho => cases ho; cases hg
          | 1, _, ho => cases ho; cases hg
          | 2, _, ho => cases ho; cases hg
          | 3, _, ho => cases ho; cases hg
          | 4, _, ho => cases ho; cases hg
          | 5, _, ho => cases ho; cases hg
          | 6, _, ho => cases ho; cases hg
          | 7, _, ho => cases ho; cases hg
          | 8, _, ho => cases ho; cases hg
          | 9, _, ho => cases ho; cases hg
          | 10, _, ho => cases ho; cases hg
          | 11, _, ho => cases ho; cases hg
          | 12, _, ho => cases ho; cases hg
          | 13, _, ho => cases ho; cases hg
          | 14, _, ho => cases ho; cases hg
          | 15, _, ho => cases ho; cases hg
          | 16, _, ho => cases ho; cases hg
          | 17, _, ho => cases ho; cases hg
          | 18, _, ho => cases ho; cases hg
          | 19, _, ho => cases ho; cases hg
          | n + 20, hi, _ => exact absurd hi (by simp)
        · intro i' hi' hsk; cases hsk
        · intro i' hi' hsk o' ho ev w' hR hc hf hg hs hd
          match i', hi', ho with
          | 0, _, ho =>
            clear hsk
            cases ho
            have e16 : ev (.tmp 16) = .slice (some ⟨b16, 0, none⟩) 3 3 := hs 16 (by kernel_rfl)
            go_simp
            first | exact ⟨rfl, hR, FS.refl _ _ _ _⟩ | exact ⟨⟨rfl, rfl⟩, hR, FS.refl _ _ _ _⟩ | exact ⟨⟨rfl, fun h => absurd h (by decide)⟩, hR, FS.refl _ _ _ _⟩ | exact ⟨⟨rfl, rfl, fun h => absurd h (by decide)⟩, hR, FS.refl _ _ _ _⟩
          | 1, _, ho =>
            clear hsk
            cases ho
            have e19 : ev (.tmp 19) = I (i : Int) := hs 19 (by kernel_rfl)
            go_simp
            first | exact ⟨rfl, hR, FS.refl _ _ _ _⟩ | exact ⟨⟨rfl, rfl⟩, hR, FS.refl _ _ _ _⟩ | exact ⟨⟨rfl, fun h => absurd h (by decide)⟩, hR, FS.refl _ _ _ _⟩ | exact ⟨⟨rfl, rfl, fun h => absurd h (by decide)⟩, hR, FS.refl _ _ _ _⟩
          | 2, _, ho =>
            clear hsk
            cases ho
            have e121 : ev (.tmp 121) = .slice (some ⟨b16, 0, none⟩) 3 3 := hd 0 121 (by kernel_rfl)
            have e122 : ev (.tmp 122) = I (i : Int) := hd 1 122 (by kernel_rfl)
            have hil : (i : Int) < 3 := by omega
            go_simp
            first | exact ⟨rfl, hR, FS.refl _ _ _ _⟩ | exact ⟨⟨rfl, rfl⟩, hR, FS.refl _ _ _ _⟩ | exact ⟨⟨rfl, fun h => absurd h (by decide)⟩, hR, FS.refl _ _ _ _⟩ | exact ⟨⟨rfl, rfl, fun h => absurd h (by decide)⟩, hR, FS.refl _ _ _ _⟩
          | 3, _, ho =>
            clear hsk
            cases ho
            have e123 : ev (.tmp 123) = .pointer (some ⟨b16, i * 2, none⟩) := hd 2 123 (by kernel_rfl)
            have m1 := (qf.grow hR).f.cr
            have m2 := (qf.grow hR).f.cs
            go_simp
            first | exact ⟨rfl, hR, FS.refl _ _ _ _⟩ | exact ⟨⟨rfl, rfl⟩, hR, FS.refl _ _ _ _⟩ | exact ⟨⟨rfl, fun h => absurd h (by decide)⟩, hR, FS.refl _ _ _ _⟩ | exact ⟨⟨rfl, rfl, fun h => absurd h (by decide)⟩, hR, FS.refl _ _ _ _⟩
          | 4, _, ho =>
            clear hsk
            cases ho
            have e17 : ev (.tmp 17) = .slice (some ⟨b17, 0, none⟩) 3 3 := hs 17 (by kernel_rfl)
            go_simp
            first | exact ⟨rfl, hR, FS.refl _ _ _ _⟩ | exact ⟨⟨rfl, rfl⟩, hR, FS.refl _ _ _ _⟩ | exact ⟨⟨rfl, fun h => absurd h (by decide)⟩, hR, FS.refl _ _ _ _⟩ | exact ⟨⟨rfl, rfl, fun h => absurd h (by decide)⟩, hR, FS.refl _ _ _ _⟩
          | 5, _, ho =>
            clear hsk
            cases ho
            have e19 : ev (.tmp 19) = I (i : Int) := hs 19 (by kernel_rfl)
            go_simp
            first | exact ⟨rfl, hR, FS.refl _ _ _ _⟩ | exact ⟨⟨rfl, rfl⟩, hR, FS.refl _ _ _ _⟩ | exact ⟨⟨rfl, fun h => absurd h (by decide)⟩, hR, FS.refl _ _ _ _⟩ | exact ⟨⟨rfl, rfl, fun h => absurd h (by decide)⟩, hR, FS.refl _ _ _ _⟩
          | 6, _, ho =>
            clear hsk
            cases ho
            have e125 : ev (.tmp 125) = .slice (some ⟨b17, 0, none⟩) 3 3 := hd 4 125 (by kernel_rfl)
            have e126 : ev (.tmp 126) = I (i : Int) := hd 5 126 (by kernel_rfl)
            have hil : (i : Int) < 3 := by omega
            go_simp
            first | exact ⟨rfl, hR, FS.refl _ _ _ _⟩ | exact ⟨⟨rfl, rfl⟩, hR, FS.refl _ _ _ _⟩ | exact ⟨⟨rfl, fun h => absurd h (by decide)⟩, hR, FS.refl _ _ _ _⟩ | exact ⟨⟨rfl, rfl, fun h => absurd h (by decide)⟩, hR, FS.refl _ _ _ _⟩
          | 7, _, ho =>
            clear hsk
            cases ho
            have e127 : ev (.tmp 127) = .pointer (some ⟨b17, i, none⟩) := hd 6 127 (by kernel_rfl)
            have m1 := (qf.grow hR).f.cl
            go_simp
            first | exact ⟨rfl, hR, FS.refl _ _ _ _⟩ | exact ⟨⟨rfl, rfl⟩, hR, FS.refl _ _ _ _⟩ | exact ⟨⟨rfl, fun h => absurd h (by decide)⟩, hR, FS.refl _ _ _ _⟩ | exact ⟨⟨rfl, rfl, fun h => absurd h (by decide)⟩, hR, FS.refl _ _ _ _⟩
          | 8, _, ho =>
            clear hsk
            cases ho
            have e18 : ev (.tmp 18) = .slice (some ⟨b18, 0, none⟩) 3 3 := hs 18 (by kernel_rfl)
            go_simp
            first | exact ⟨rfl, hR, FS.refl _ _ _ _⟩ | exact ⟨⟨rfl, rfl⟩, hR, FS.refl _ _ _ _⟩ | exact ⟨⟨rfl, fun h => absurd h (by decide)⟩, hR, FS.refl _ _ _ _⟩ | exact ⟨⟨rfl, rfl, fun h => absurd h (by decide)⟩, hR, FS.refl _ _ _ _⟩
          | 9, _, ho =>
            clear hsk
            cases ho
            have e19 : ev (.tmp 19) = I (i : Int) := hs 19 (by kernel_rfl)
            go_simp
            first | exact ⟨rfl, hR, FS.refl _ _ _ _⟩ | exact ⟨⟨rfl, rfl⟩, hR, FS.refl _ _ _ _⟩ | exact ⟨⟨rfl, fun h => absurd h (by decide)⟩, hR, FS.refl _ _ _ _⟩ | exact ⟨⟨rfl, rfl, fun h => absurd h (by decide)⟩, hR, FS.refl _ _ _ _⟩
          | 10, _, ho =>
            clear hsk
            cases ho
            have e129 : ev (.tmp 129) = .slice (some ⟨b18, 0, none⟩) 3 3 := hd 8 129 (by kernel_rfl)
            have e130 : ev (.tmp 130) = I (i : Int) := hd 9 130 (by kernel_rfl)
            have hil : (i : Int) < 3 := by omega
            go_simp
            first | exact ⟨rfl, hR, FS.refl _ _ _ _⟩ | exact ⟨⟨rfl, rfl⟩, hR, FS.refl _ _ _ _⟩ | exact ⟨⟨rfl, fun h => absurd h (by decide)⟩, hR, FS.refl _ _ _ _⟩ | exact ⟨⟨rfl, rfl, fun h => absurd h (by decide)⟩, hR, FS.refl _ _ _ _⟩
          | 11, _, ho =>
            clear hsk
            cases ho
            have e131 : ev (.tmp 131) = .pointer (some ⟨b18, i * 3, none⟩) := hd 10 131 (by kernel_rfl)
            have m1 := (qf.grow hR).ca
            have m2 := (qf.grow hR).cb
            have m3 := (qf.grow hR).cg
            go_simp
            first | exact ⟨rfl, hR, FS.refl _ _ _ _⟩ | exact ⟨⟨rfl, rfl⟩, hR, FS.refl _ _ _ _⟩ | exact ⟨⟨rfl, fun h => absurd h (by decide)⟩, hR, FS.refl _ _ _ _⟩ | exact ⟨⟨rfl, rfl, fun h => absurd h (by decide)⟩, hR, FS.refl _ _ _ _⟩
          | 12, _, ho =>
            clear hsk
            cases ho
            have e124 : ev (.tmp 124) = .agg #[I x.r, .slice x.A x.ws.length x.c] := hd 3 124 (by kernel_rfl)
            have e128 : ev (.tmp 128) = .slice x.B x.sts.length x.cb := hd 7 128 (by kernel_rfl)
            have e132 : ev (.tmp 132) = .agg #[I u, I v, I z] := hd 11 132 (by kernel_rfl)
            go_simp
            refine ((qf.grow hR).f.ok.lastsR _ _ _).mono ?_
            rintro e wz ⟨rfl, hwz⟩
            first | exact ⟨rfl, hR.trans (hwz.mono hR.size), FS.below hwz⟩ | exact ⟨⟨rfl, rfl⟩, hR.trans (hwz.mono hR.size), FS.below hwz⟩ | exact ⟨⟨rfl, fun h => absurd h (by decide)⟩, hR.trans (hwz.mono hR.size), FS.below hwz⟩ | exact ⟨⟨rfl, rfl, fun h => absurd h (by decide)⟩, hR.trans (hwz.mono hR.size), FS.below hwz⟩
          | 13, _, ho =>
            clear hsk
            cases ho
            have e133 : ev (.tmp 133) = .tuple #[I (laV x.r x.ws x.sts u v z), Sp (laLo x.r x.ws x.sts u v z) (laHi x.r x.ws x.sts u v z), I (laE x.r x.ws x.sts u v z)] := hd 12 133 (by kernel_rfl)
            go_simp
            first | exact ⟨rfl, hR, FS.refl _ _ _ _⟩ | exact ⟨⟨rfl, rfl⟩, hR, FS.refl _ _ _ _⟩ | exact ⟨⟨rfl, fun h => absurd h (by decide)⟩, hR, FS.refl _ _ _ _⟩ | exact ⟨⟨rfl, rfl, fun h => absurd h (by decide)⟩, hR, FS.refl _ _ _ _⟩
          | 14, _, ho =>
            clear hsk
            cases ho
            have e120 : ev (.tmp 120) = .tuple #[I (laV x.r x.ws x.sts u v z), Sp (laLo x.r x.ws x.sts u v z) (laHi x.r x.ws x.sts u v z), I (laE x.r x.ws x.sts u v z)] := hd 13 120 (by kernel_rfl)
            go_simp
            first | exact ⟨rfl, hR, FS.refl _ _ _ _⟩ | exact ⟨⟨rfl, rfl⟩, hR, FS.refl _ _ _ _⟩ | exact ⟨⟨rfl, fun h => absurd h (by decide)⟩, hR, FS.refl _ _ _ _⟩ | exact ⟨⟨rfl, rfl, fun h => absurd h (by decide)⟩, hR, FS.refl _ _ _ _⟩
          | 15, _, ho =>
            clear hsk
            cases ho
            have e120 : ev (.tmp 120) = .tuple #[I (laV x.r x.ws x.sts u v z), Sp (laLo x.r x.ws x.sts u v z) (laHi x.r x.ws x.sts u v z), I (laE x.r x.ws x.sts u v z)] := hd 13 120 (by kernel_rfl)
            go_simp
            first | exact ⟨rfl, hR, FS.refl _ _ _ _⟩ | exact ⟨⟨rfl, rfl⟩, hR, FS.refl _ _ _ _⟩ | exact ⟨⟨rfl, fun h => absurd h (by decide)⟩, hR, FS.refl _ _ _ _⟩ | exact ⟨⟨rfl, rfl, fun h => absurd h (by decide)⟩, hR, FS.refl _ _ _ _⟩
          | 16, _, ho =>
            clear hsk
            cases ho
            have e120 : ev (.tmp 120) = .tuple #[I (laV x.r x.ws x.sts u v z), Sp (laLo x.r x.ws x.sts u v z) (laHi x.r x.ws x.sts u v z), I (laE x.r x.ws x.sts u v z)] := hd 13 120 (by kernel_rfl)
            go_simp
            first | exact ⟨rfl, hR, FS.refl _ _ _ _⟩ | exact ⟨⟨rfl, rfl⟩, hR, FS.refl _ _ _ _⟩ | exact ⟨⟨rfl, fun h => absurd h (by decide)⟩, hR, FS.refl _ _ _ _⟩ | exact ⟨⟨rfl, rfl, fun h => absurd h (by decide)⟩, hR, FS.refl _ _ _ _⟩
          | 17, _, ho =>
            clear hsk
            cases ho
            go_simp
            first | exact ⟨⟨_, rfl, hR.size, (by simp), SpB.new _ _⟩, hR.alloc hR.size _, FS.below ((Below.refl _ _).alloc (Nat.le_refl _) _)⟩ | exact ⟨⟨rfl, ⟨_, rfl, hR.size, (by simp), SpB.new _ _⟩⟩, hR.alloc hR.size _, FS.below ((Below.refl _ _).alloc (Nat.le_refl _) _)⟩ | exact ⟨⟨⟨_, rfl, hR.size, (by simp), SpB.new _ _⟩, fun h => absurd h (by decide)⟩, hR.alloc hR.size _, FS.below ((Below.refl _ _).alloc (Nat.le_refl _) _)⟩ | exact ⟨⟨rfl, ⟨_, rfl, hR.size, (by simp), SpB.new _ _⟩, fun h => absurd h (by decide)⟩, hR.alloc hR.size _, FS.below ((Below.refl _ _).alloc (Nat.le_refl _) _)⟩
          | 18, _, ho =>
            clear hsk
            cases ho
            have e134 : ev (.tmp 134) = I (laV x.r x.ws x.sts u v z) := hd 14 134 (by kernel_rfl)
            go_simp
            first | exact ⟨rfl, hR, FS.refl _ _ _ _⟩ | exact ⟨⟨rfl, rfl⟩, hR, FS.refl _ _ _ _⟩ | exact ⟨⟨rfl, fun h => absurd h (by decide)⟩, hR, FS.refl _ _ _ _⟩ | exact ⟨⟨rfl, rfl, fun h => absurd h (by decide)⟩, hR, FS.refl _ _ _ _⟩
          | 19, _, ho =>
            clear hsk
            cases ho
            obtain ⟨bx, e24, hb1, hb2, hb3⟩ : ∃ b, ev (.tmp 24) = .pointer (some ⟨b, 0, none⟩) ∧ wa.heap.size ≤ b ∧ some b ≠ Option.none ∧ SpB (P0 (fun x' y' : Int => x' = laLo x.r x.ws x.sts u v z ∧ y' = laHi x.r x.ws x.sts u v z)) w' b := hd 17 24 (by kernel_rfl)
            have e135 : ev (.tmp 135) = Sp (laLo x.r x.ws x.sts u v z) (laHi x.r x.ws x.sts u v z) := hd 15 135 (by kernel_rfl)
            obtain ⟨x0, y0, _, hbx⟩ := hb3
            have hcx := hbx.cell
            have hfx := hbx.free
            go_simp
            have hP : (fun x' y' : Int => x' = laLo x.r x.ws x.sts u v z ∧ y' = laHi x.r x.ws x.sts u v z) _ _ := ⟨rfl, rfl⟩
            have hin : SpB (P0 (fun x' y' : Int => x' = laLo x.r x.ws x.sts u v z ∧ y' = laHi x.r x.ws x.sts u v z)) w' bx := ⟨x0, y0, ‹_›, hbx⟩
            first | exact ⟨⟨rfl, fun t ht => (by cases ht; exact ⟨bx, e24, hb1, hb2, hin.put hP⟩)⟩, below_put hR hb1 _ _, FS.put hb1 hin hP⟩ | exact ⟨fun t ht => (by cases ht; exact ⟨bx, e24, hb1, hb2, hin.put hP⟩), below_put hR hb1 _ _, FS.put hb1 hin hP⟩
          | n + 20, hi, _ => exact absurd hi (by simp)
        intro ρ wb hR hρ hne K hK
        have p16 : ρ 16 = I (laE x.r x.ws x.sts u v z) := hρ 16 (by simp)
        have p18 : ρ 18 = I (laV x.r x.ws x.sts u v z) := hρ 18 (by simp)
        obtain ⟨qb, p17, _, _, _, _, ⟨rfl, rfl⟩, xb⟩ : ∃ b, ρ 17 = .pointer (some ⟨b, 0, none⟩) ∧ wa.heap.size ≤ b ∧ some b ≠ Option.none ∧ SpB (fun x' y' : Int => x' = laLo x.r x.ws x.sts u v z ∧ y' = laHi x.r x.ws x.sts u v z) wb b := hρ 19 (by simp)
        show K (putAll _ _ ρ 20) _
        simp only [putAll, dOf, List.getElem?_toArray, List.getElem?_cons_zero, List.getElem?_cons_succ, Option.bind_some, Act.put, List.setIfInBounds_toArray, List.set_cons_zero, List.set_cons_succ]
        rw [p16, p17, p18]
        refine hK _ _ ?_
        change wpList _ _ _ [_] _ _
        clear hK K p16 p17 p18 hρ hne
        have xa := xa.below hR xa.lt
        have hT' := hT.grow (hWa.trans (hR.mono hWa.size))
        clear hWa hR qf hT
        have ha := xa.cell
        have hb := xb.cell
        clear xa xb
        go_wp2
        exact ⟨⟨i + 1, by go_num, by omega, hT'⟩, by simp [intOf]; omega⟩
      · go_wp2_with fail
        refine (awake_c _).mono ?_
        rintro e w20 ⟨rfl, hb20⟩
        have hB := hT.q.below.trans (hb20.mono hT.q.below.size)
        go_wp2
        go_ret
        exact ⟨rfl, hB⟩


namespace paradeLasts
open Go.ChangeShapes Go.WideShapes Go.ChangeAt Go.RowKit

set_option maxRecDepth 100000 in
theorem lifted (os : Os) (started : os.Started) (H : Type) (enc : TypeId × Value → H) :
    ReturnsInHanded {} Try.checked os 5 .any (Rows.paradeLastsSpec.pre6 enc Try.prog Try.f5 Rows.paradeLastsRow.domain false) (Rows.paradeLastsSpec.post enc Try.prog Try.f5 false true false false) := by
  refine returnsInHanded_of_change (C := Try.checked) prog_own started (by kernel_rfl) Try.func5
    (ChangeSpec.witness6 (enc := enc) (C := Try.checked) false ⟨#[], #[.agg #[.int .i64 0, .slice none 0 0], .slice none 0 0, .agg #[.int .i64 0, .int .i64 0, .int .i64 0], .slice none 0 0], []⟩ 8 (by kernel_rfl) (by kernel_rfl) (by kernel_rfl) (by kernel_rfl)) ?_
  intro W base args ds gs before hval0 hW hcnd _
  have hval : ∀ (j : Nat) t v, Try.f5.params[j]? = some t → args[j]? = some v → Value.okWide Try.prog W .any base t v := hval0
  have hW' := hW
  obtain ⟨p, q, hA0, hV, rfl, hfz, hnd⟩ := hW
  have hA : DataW.TrodAll enc Try.prog W 0 (fun _ => true) true Try.f5.params.toList args.toList ds p := hA0
  rw [Try.params5] at hA hval
  obtain ⟨v0, vs0, d0, ds0, p0, q0, hargs, rfl, rfl, h0, r0⟩ := trodAll_cons hA
  obtain ⟨v1, vs1, d1, ds1, p1, q1, rfl, rfl, rfl, h1, r1⟩ := trodAll_cons r0
  obtain ⟨v2, vs2, d2, ds2, p2, q2, rfl, rfl, rfl, h2, r2⟩ := trodAll_cons r1
  obtain ⟨v3, vs3, d3, ds3, p3, q3, rfl, rfl, rfl, h3, r3⟩ := trodAll_cons r2
  obtain ⟨rfl, rfl, rfl⟩ := trodAll_nil r3
  obtain rfl : args = #[v0, v1, v2, v3] := by cases args; simp_all
  obtain ⟨rfl, rfl⟩ := trodVars_none hV
  have k0 := h0
  have lt0 : ∀ x ∈ p0, x.block < W.heap.size := by obtain ⟨m, hm⟩ := k0; exact DataW.trod_lt m _ _ _ hm
  obtain ⟨rs0, A0, c0, T0, ws0, rfl, hs0, fit0, hm0, hc0, wr0⟩ := school_sl (hval 0 24 v0 rfl rfl) h0
  have k1 := h1
  have lt1 : ∀ x ∈ p1, x.block < W.heap.size := by obtain ⟨m, hm⟩ := k1; exact DataW.trod_lt m _ _ _ hm
  obtain ⟨a1, len1, cap1, rfl⟩ := okWide_slice Try.underlying25 (hval 1 25 v1 rfl rfl)
  have hcap1 := ints_cap h1
  obtain ⟨T1, zs1, rfl, hs1, hm1⟩ := ints_sl h1
  have k2 := h2
  have lt2 : ∀ x ∈ p2, x.block < W.heap.size := by obtain ⟨m, hm⟩ := k2; exact DataW.trod_lt m _ _ _ hm
  obtain ⟨x2, y2, z2, rfl⟩ := rules_sl (hval 2 54 v2 rfl rfl) h2
  have k3 := h3
  have lt3 : ∀ x ∈ p3, x.block < W.heap.size := by obtain ⟨m, hm⟩ := k3; exact DataW.trod_lt m _ _ _ hm
  obtain ⟨a3, len3, cap3, rfl⟩ := okWide_slice Try.underlying25 (hval 3 25 v3 rfl rfl)
  obtain ⟨T3, zs3, rfl, hs3, hm3⟩ := ints_sl h3
  clear hA0 hval0
  refine (lastsL_c rs0 A0 c0 ws0 T0 a1 cap1 zs1 T1 x2 y2 z2 a3 cap3 T3 zs3 W ⟨hs0, fit0, hm0, hc0, hs1, hm1, hcap1⟩ hs3 hm3).mono fun e W' ⟨he, bel⟩ => ?_
  subst he
  exact ⟨_, rfl, _, _, _, [], _, [], hW', trodAll_mk1 (shut_bool Try.underlying4 _), (trodAll_cons_mk (Below.trod prog_laid (by kernel_rfl) (of_decide_eq_true (by kernel_rfl)) k0 bel lt0) (trodAll_cons_mk (Below.trod prog_laid (by kernel_rfl) (of_decide_eq_true (by kernel_rfl)) k1 bel lt1) (trodAll_cons_mk (Below.trod prog_laid (by kernel_rfl) (of_decide_eq_true (by kernel_rfl)) k2 bel lt2) (trodAll_cons_mk (Below.trod prog_laid (by kernel_rfl) (of_decide_eq_true (by kernel_rfl)) k3 bel lt3) trodAll_mk0)))), rfl, bel.frame _, fun h => by cases h⟩

theorem proved : Rows.ParadeLastsSaid :=
  OpenClaim.holds_of_wide 5 Try.f5 rfl rfl rfl rfl rfl rfl rfl ⟨rfl, rfl, rfl, rfl, rfl⟩ rfl rfl rfl rfl rfl (by kernel_rfl) Try.func5 (by kernel_rfl)
    (of_decide_eq_true (by kernel_rfl)) (by unfold Func.isWrapper; first | (rw [if_pos (by decide +kernel)]; kernel_rfl) | (rw [if_neg (by decide +kernel)]; exact ⟨rfl, rfl⟩))
    (fun os started H enc _ => lifted os started H enc)
end paradeLasts
end Go.Proofs.Ytgdalimggamgmaa
