/- ParadeGaps: which gaps a wing may have, which open, and the widest one, or which errors there are. Own work. -/
import Derived.Test.YtnihkgdkdinliaaLawKit
import Derived.Test.YtnihkgdkdinliaaAskB
import Derived.Test.YtnihkgdkdinliaaWidest
import Derived.Test.YtnihkgdkdinliaaChecksM
import Derived.Deep.Cut
import Derived.Deep.CutRange
namespace Go.Proofs.Ytnihkgdkdinliaa
open Go.RowKit Go.ChangeShapes Go.WideShapes Go.ChangeAt
set_option linter.unusedVariables false
set_option linter.unusedSimpArgs false

/-- What holds in the law. -/
def GaR (d q : Nat) (r : Int) (A : Option Addr) (c : Nat) (ws : List Wg) (B : Option Addr) (sts : List Int) (qs : Nat) (ss : Array Value) (qr : Nat) (sr : Array Value) (w0 w : World) : Prop :=
  LK d q r A c ws w0 w ∧ SlI w 3 B sts ∧ Bx w qs 24 ss ∧ Bx w qr 54 sr
section
variable {d q : Nat} {r : Int} {A : Option Addr} {c : Nat} {ws : List Wg} {B : Option Addr} {sts : List Int} {qs qr : Nat} {ss sr : Array Value} {w0 w w' : World}
theorem GaR.kp (h : GaR d q r A c ws B sts qs ss qr sr w0 w) (hk : w.grownBy w' (some d)) (hd : Dr w' d) : GaR d q r A c ws B sts qs ss qr sr w0 w' :=
  ⟨h.1.kp hk hd, Sl.kp h.2.1 h.1.dr hk (by decide), h.2.2.1.kp hk (bx_ne h.2.2.1 h.1.dr (by decide)), h.2.2.2.kp hk (bx_ne h.2.2.2 h.1.dr (by decide))⟩
theorem GaR.grow (h : GaR d q r A c ws B sts qs ss qr sr w0 w) (hb : Below w.heap.size w w') : GaR d q r A c ws B sts qs ss qr sr w0 w' :=
  h.kp (kp_of_below hb (Nat.le_refl _)) (h.1.dr.below hb h.1.dr.lt)
/-- A store into a box of rules of the law's own. -/
theorem GaR.set (h : GaR d q r A c ws B sts qs ss qr sr w0 w) {b : Nat} {cs : Array Value} (hb : Bx w b 54 cs) (hn : w0.heap.size ≤ b) (hd : d ≠ b) (hqr : qr ≠ b) (i : Nat) (u : Value) : GaR d q r A c ws B sts qs ss qr sr w0 (w.setCell ⟨b, i, none⟩ u) := by
  obtain ⟨h1, h2, h3, h4⟩ := h
  have ne : ∀ {k : Nat} {T : TypeId} {zs : Array Value}, Bx w k T zs → T ≠ 54 → k ≠ b := fun hk hT e => by
    subst e
    unfold Bx at hk hb
    rw [hk] at hb
    injection hb with hb
    injection hb with _ ht
    exact hT ht
  exact ⟨h1.set (p := ⟨b, i, none⟩) hb (by decide) hn hd (ne h1.box (by decide)) u, h2.setCell (p := ⟨b, i, none⟩) hb (by decide) u, h3.far (p := ⟨b, i, none⟩) (ne h3 (by decide)) u, h4.far (p := ⟨b, i, none⟩) hqr u⟩
end

/-- A row of three numbers, the second of which is any. -/
def asRow3 (R : World → Prop) (d : Nat) (hRd : ∀ w, R w → Dr w d) (a b : Int) : As R (DF d) :=
  ⟨fun v w => ∃ k y, v = .slice (some ⟨k, 0, none⟩) 3 3 ∧ Bx w k 3 #[I a, I y, I b], fun v w w' h _ hk ⟨k, y, e, hb⟩ => ⟨k, y, e, bx_last R d hRd (by decide) h hk hb⟩⟩
/-- What each row asks. -/
structure GQ (xs : Nat → Qu) (wi se ua ub ug : Nat → Int) (b22 b23 b24 b25 b26 : Nat) (w0 w : World) : Prop where
  lt : b22 < w.heap.size ∧ b23 < w.heap.size ∧ b24 < w.heap.size ∧ b25 < w.heap.size ∧ b26 < w.heap.size
  ok : ∀ j, j < 3 → (xs j).ok w
  cr : ∀ j, j < 3 → w.cell? ⟨b22, j * 2, none⟩ = some (I (xs j).r)
  cs : ∀ j, j < 3 → w.cell? ⟨b22, j * 2 + 1, none⟩ = some (.slice (xs j).A (xs j).ws.length (xs j).c)
  cl : ∀ j, j < 3 → w.cell? ⟨b23, j, none⟩ = some (.slice (xs j).B (xs j).sts.length (xs j).cb)
  cw : ∀ j, j < 3 → w.cell? ⟨b24, j, none⟩ = some (I (wi j))
  ct : ∀ j, j < 3 → w.cell? ⟨b25, j, none⟩ = some (I (se j))
  ca : ∀ j, j < 3 → w.cell? ⟨b26, j * 3, none⟩ = some (I (ua j))
  cb : ∀ j, j < 3 → w.cell? ⟨b26, j * 3 + 1, none⟩ = some (I (ub j))
  cg : ∀ j, j < 3 → w.cell? ⟨b26, j * 3 + 2, none⟩ = some (I (ug j))
  below : Below w0.heap.size w0 w
theorem GQ.grow {xs : Nat → Qu} {wi se ua ub ug : Nat → Int} {b22 b23 b24 b25 b26 : Nat} {w0 w w' : World} (h : GQ xs wi se ua ub ug b22 b23 b24 b25 b26 w0 w) (hb : Below w.heap.size w w') : GQ xs wi se ua ub ug b22 b23 b24 b25 b26 w0 w' := by
  obtain ⟨l1, l2, l3, l4, l5⟩ := h.lt
  have hs := hb.size
  exact ⟨⟨by omega, by omega, by omega, by omega, by omega⟩, fun j hj => (h.ok j hj).grow hb, fun j hj => (hb.cell (p := ⟨b22, j * 2, none⟩) l1).trans (h.cr j hj), fun j hj => (hb.cell (p := ⟨b22, j * 2 + 1, none⟩) l1).trans (h.cs j hj),
    fun j hj => (hb.cell (p := ⟨b23, j, none⟩) l2).trans (h.cl j hj), fun j hj => (hb.cell (p := ⟨b24, j, none⟩) l3).trans (h.cw j hj), fun j hj => (hb.cell (p := ⟨b25, j, none⟩) l4).trans (h.ct j hj),
    fun j hj => (hb.cell (p := ⟨b26, j * 3, none⟩) l5).trans (h.ca j hj), fun j hj => (hb.cell (p := ⟨b26, j * 3 + 1, none⟩) l5).trans (h.cb j hj), fun j hj => (hb.cell (p := ⟨b26, j * 3 + 2, none⟩) l5).trans (h.cg j hj), h.below.trans (hb.mono h.below.size)⟩
/-- A slice of numbers, and an error. -/
def asPair (R : World → Prop) (zs : List Int) (e : Int) : As R FB := ⟨fun v w => ∃ B d, v = .tuple #[.slice B zs.length d, I e] ∧ SlI w 3 B zs, fun _ _ _ _ _ hF ⟨B, d, h1, h2⟩ => ⟨B, d, h1, Sl.below h2 hF (Nat.le_refl _)⟩⟩
def asSl (R : World → Prop) (zs : List Int) : As R FB := ⟨fun v w => ∃ B d, v = .slice B zs.length d ∧ SlI w 3 B zs, fun _ _ _ _ _ hF ⟨B, d, h1, h2⟩ => ⟨B, d, h1, Sl.below h2 hF (Nat.le_refl _)⟩⟩

set_option maxRecDepth 100000 in
set_option maxHeartbeats 16000000 in
theorem gapsL_c (rs : Int) (Ar : Option Addr) (cs : Nat) (wss : List Wg) (Ts : TypeId) (Bs : Option Addr) (cbs : Nat) (stss : List Int) (Tt : TypeId) (wing second ra rb rg : Int) (A0 : Option Addr) (c0 : Nat) (T0 : TypeId) (zs : List Int) (w : World)
    (ok : Qu.ok ⟨rs, Ar, cs, wss, Ts, Bs, cbs, stss, Tt⟩ w) (hs0 : SlI w T0 A0 zs) (hl0 : zs.length ≤ maxLen) :
    Calls Try.prog 6 #[.agg #[I rs, .slice Ar wss.length cs], .slice Bs stss.length cbs, I wing, I second, .agg #[I ra, I rb, I rg], .slice A0 zs.length c0] w (LawPost w) := by
  have xs0 := (Bx.new w 24 #[I rs, .slice Ar wss.length cs]).alloc (.cells #[I ra, I rb, I rg] 54)
  have xr0 := Bx.new' (w.alloc (.cells #[I rs, .slice Ar wss.length cs] 24)) 54 #[I ra, I rb, I rg] (w.heap.size + 1) (by simp)
  have hA := ((Below.refl w.heap.size w).alloc (Nat.le_refl _) (.cells #[I rs, .slice Ar wss.length cs] 24)).alloc (by simp) (.cells #[I ra, I rb, I rg] 54)
  have hl2 := ok.l2
  unfold maxLen at hl2
  have hcs0 := xs0.cell
  go_enter Try.func6, Try.ntmps6
  go_wp2_with fail
  refine (long_c rs Ar cs wss Ts _ (ok.grow hA).h1 ok.fit ok.l1).mono ?_
  rintro e wA ⟨bl, rfl, hbA⟩
  have hB0 := hA.trans (hbA.mono hA.size)
  have xsA := xs0.below hbA xs0.lt
  have xrA := xr0.below hbA xr0.lt
  clear xs0 xr0 hcs0 hA hbA
  by_cases hgo : bl = true ∨ 20 < stss.length
  · have haw : ∀ W, Below w.heap.size w W → Calls Try.prog 14 #[] W fun e w' => e = .returned (.bool true) ∧ Below w.heap.size w w' := fun W hW => (awake_c W).mono fun e w' ⟨he, hb⟩ => ⟨he, hW.trans (hb.mono hW.size)⟩
    cases bl with
    | true =>
      go_wp2_with fail
      refine (haw _ hB0).mono ?_
      rintro e w20 ⟨rfl, hB⟩
      go_wp2
      go_ret
      exact ⟨rfl, hB⟩
    | false =>
      have hlong : 20 < stss.length := by simpa using hgo
      go_wp2_with fail
      refine (haw _ hB0).mono ?_
      rintro e w20 ⟨rfl, hB⟩
      go_wp2
      go_ret
      exact ⟨rfl, hB⟩
  obtain ⟨hbl, hshort⟩ : bl = false ∧ stss.length ≤ 20 := by
    constructor
    · cases bl with
      | true => exact absurd (.inl rfl) hgo
      | false => rfl
    · by_cases h : 20 < stss.length
      · exact absurd (.inr h) hgo
      · omega
  subst hbl
  clear hgo
  have hsA : SlI wA T0 A0 zs := Sl.below hs0 hB0 (Nat.le_refl _)
  go_wp2_with fail
  refine (drumOf_c A0 c0 T0 zs _ hsA hl0).mono ?_
  rintro e w1 ⟨d, rfl, hd1, hdn', hb1'⟩
  have hdn : w.heap.size ≤ d := Nat.le_trans hB0.size hdn'
  have hb1 := hB0.trans (hb1'.mono hB0.size)
  have xs1 := xsA.below hb1' xsA.lt
  have xr1 := xrA.below hb1' xrA.lt
  clear hb1' hB0 xsA xrA hsA
  go_wp2_with fail
  refine (schoolOf_c d 6 _ hd1 (by omega) (by omega)).mono ?_
  rintro e w2 ⟨r, A, c, ws, rfl, hws2, hd2, hk2, hr1, hr2, hn1, hn2, hm, hcap⟩
  have hB2 := below_of_kp hb1 hk2 hdn hb1.size
  have L3 : LK d w2.heap.size r A c ws w (w2.alloc (.cells #[I r, .slice A ws.length c] 24)) :=
    ⟨hd2.alloc _, Bx.new _ _ _, hws2.alloc _, hB2.alloc hB2.size _, hdn, hB2.size⟩
  have xs3 := (xs1.kp hk2 (bx_ne xs1 hd1 (by decide))).alloc (.cells #[I r, .slice A ws.length c] 24)
  have xr3 := (xr1.kp hk2 (bx_ne xr1 hd1 (by decide))).alloc (.cells #[I r, .slice A ws.length c] 24)
  clear hb1 hk2 hd1 hws2 hd2 xs1 xr1
  have hchk := made_chk hm hr1 hr2 hn1 (by omega)
  have hn6 : ws.length ≤ 6 := by omega
  have hc3 := L3.box.cell
  go_wp2_with fail
  refine (startsOf_c d r A c ws _ L3.dr L3.wings hm hchk).mono ?_
  rintro e w4 ⟨B, cb, sts, rfl, hsl4, hcapb, hd4, hk4, hlen, hcst, hst⟩
  have T4 : GaR d w2.heap.size r A c ws B sts w.heap.size #[I rs, .slice Ar wss.length cs] (w.heap.size + 1) #[I ra, I rb, I rg] w w4 := ⟨L3.kp hk4 hd4, hsl4, xs3.kp hk4 (bx_ne xs3 L3.dr (by decide)), xr3.kp hk4 (bx_ne xr3 L3.dr (by decide))⟩
  have V : LV r c ws sts cb := ⟨hm, hr1, hr2, hn1, by omega, hcap, hlen, hcapb, hcst, hst⟩
  clear hk4 hd4 hcst hst hlen hcapb L3 xs3 xr3 hc3 hsl4
  go_wp2_with fail
  refine (rulesOf_c d _ T4.1.dr).mono ?_
  rintro e w5 ⟨a, b, g, rfl, _, _, _, _, _, _, hd5, hk5⟩
  have T5 := (T4.kp hk5 hd5).grow ((Below.refl _ _).alloc (Nat.le_refl _) (.cells #[I a, I b, I g] 54))
  have x16 := Bx.new w5 54 #[I a, I b, I g]
  have hq16 : w.heap.size + 2 ≤ w5.heap.size := by have := (T4.kp hk5 hd5).2.2.2.lt; omega
  have hd16 : d ≠ w5.heap.size := by have := hd5.lt; omega
  clear hk5 hd5 T4
  have hc5 := T5.1.box.cell
  have hc16 := x16.cell
  go_wp2_with fail
  generalize w5.heap.size = q16 at *
  refine (widestRR_c r A B c cb ws sts 29 3 _ T5.1.wings T5.2.1 V.fit V.max.1 V.cap V.max.2 V.capb).mono ?_
  rintro e w6 ⟨rfl, hb6⟩
  generalize wiE r ws sts = wie at *
  obtain ⟨wa, wb, gp⟩ := wie
  dsimp only []
  generalize cst r ws sts = we at *
  have T6 := T5.grow hb6
  have x16b := x16.below hb6 x16.lt
  clear hb6 T5 x16 hc5 hc16
  go_wp2_with fail
  refine (rare_c d 3 _ T6.1.dr (by omega) (by omega)).mono ?_
  rintro e w7 ⟨⟨tt, rfl⟩, hd7, hk7⟩
  have T7 := T6.kp hk7 hd7
  have x16c := x16b.kp hk7 (bx_ne x16b T6.1.dr (by decide))
  clear hk7 hd7 T6 x16b
  go_upto_if 70 with (fail)
  go_cut [] from 71 (fun wx => GaR d w2.heap.size r A c ws B sts w.heap.size #[I rs, .slice Ar wss.length cs] (w.heap.size + 1) #[I ra, I rb, I rg] w wx ∧ ∃ g' : Int, Bx wx q16 54 #[I a, I b, I g'])
  case first =>
    cases tt with
    | false =>
      go_wp2_with fail
      go_meet
      case rel => exact ⟨T7, _, x16c⟩
    | true =>
      go_wp2_with fail
      refine (roll_c d 2 1 _ T7.1.dr (by omega) (by omega) (by omega) (by omega)).mono ?_
      rintro e w8 ⟨y8, rfl, hy1, hy2, hd8, hk8⟩
      have T8 := T7.kp hk8 hd8
      have x16d := x16c.kp hk8 (Ne.symm hd16)
      clear hk8 hd8 T7 x16c
      have hc16 := x16d.cell
      have hf16 := x16d.free
      generalize hgy : IntKind.i64.wrap (gp - y8) = gy
      by_cases hpos : 0 < gy
      · have T9 := T8.set x16d (by omega) hd16 (by omega) 2 (I gy)
        have x16e : Bx (w8.setCell ⟨q16, 2, none⟩ (I gy)) q16 54 #[I a, I b, I gy] := x16d.set_ 2 (I gy)
        go_wp2_with fail
        go_meet
        case rel => exact ⟨T9, _, x16e⟩
      · have T9 := T8.set x16d (by omega) hd16 (by omega) 2 (I 0)
        have x16e : Bx (w8.setCell ⟨q16, 2, none⟩ (I 0)) q16 54 #[I a, I b, I 0] := x16d.set_ 2 (I 0)
        go_wp2_with fail
        go_meet
        case rel => exact ⟨T9, _, x16e⟩
  case rest =>
    obtain ⟨T8, g', x16d⟩ := hcut
    have hc8 := T8.1.box.cell
    go_wp2_with fail
    refine (roll_c d ws.length (ws.length - 1) _ T8.1.dr (by omega) (by omega) (by omega) (by omega)).mono ?_
    rintro e w9 ⟨k1, rfl, hk1, hk2, hd9, hg9⟩
    have T9 := T8.kp hg9 hd9
    have x16f := x16d.kp hg9 (Ne.symm hd16)
    clear hc8 hd9 hg9 T8 x16d
    obtain ⟨k, rfl⟩ := Int.eq_ofNat_of_zero_le hk1
    have hi : k < ws.length := by omega
    have hks : k < sts.length := by have := V.len; omega
    have hks' : (k : Int) < sts.length := by omega
    obtain ⟨bo, oo, rfl, _⟩ := SlI.some_ T9.2.1 hks
    have hS := V.start hi
    go_wp2_with fail

    have hRd : ∀ w', (fun w' => GaR d w2.heap.size r A c ws (some ⟨bo, oo, none⟩) sts w.heap.size #[I rs, .slice Ar wss.length cs] (w.heap.size + 1) #[I ra, I rb, I rg] w w' ∧ Bx w' q16 54 #[I a, I b, I g']) w' → Dr w' d := fun _ h => h.1.1.dr
    refine wp_region_list_s (by kernel_rfl) (R := (fun w' => GaR d w2.heap.size r A c ws (some ⟨bo, oo, none⟩) sts w.heap.size #[I rs, .slice Ar wss.length cs] (w.heap.size + 1) #[I ra, I rb, I rg] w w' ∧ Bx w' q16 54 #[I a, I b, I g'])) (F := DF d) [] [] []
        [As.is _ _ (.agg #[I rs, .slice Ar wss.length cs]),
        As.is _ _ (.agg #[I r, .slice A ws.length c]),
        As.is _ _ (.agg #[I r, .slice A ws.length c]),
        asBox _ d hRd 24 #[I rs, .slice Ar wss.length cs, I r, .slice A ws.length c, I r, .slice A ws.length c] 3 3 (by decide),
        As.is _ _ (.slice Bs stss.length cbs),
        As.is _ _ (.slice (some ⟨bo, oo, none⟩) sts.length cb),
        As.is _ _ (.slice (some ⟨bo, oo, none⟩) sts.length cb),
        asBox _ d hRd 25 #[.slice Bs stss.length cbs, .slice (some ⟨bo, oo, none⟩) sts.length cb, .slice (some ⟨bo, oo, none⟩) sts.length cb] 3 3 (by decide),
        As.is _ _ (I wing),
        As.is _ _ (I (k : Int)),
        As.is _ _ (I wing),
        asBox _ d hRd 3 #[I wing, I (k : Int), I wing] 3 3 (by decide),
        As.is _ _ (I second),
        As.is _ _ (.slice (some ⟨bo, oo, none⟩) sts.length cb),
        As.is _ _ (I (k : Int)),
        As.is _ _ (.pointer (some ⟨bo, oo + k, none⟩)),
        As.is _ _ (I (gI sts k)),
        As.is _ _ (.pointer (some ⟨d, 0, none⟩)),
        asInt _ _ 0 99,
        As.pure _ _ fun v => ∃ y : Int, v = I y,
        As.is _ _ (I second),
        asRow3 _ d hRd second second,
        As.is _ _ (.agg #[I ra, I rb, I rg]),
        As.is _ _ (.agg #[I a, I b, I g']),
        As.is _ _ (.agg #[I ra, I rb, I rg]),
        asBox _ d hRd 54 #[I ra, I rb, I rg, I a, I b, I g', I ra, I rb, I rg] 3 3 (by decide),
        asBox _ d hRd 24 #[I rs, .slice Ar wss.length cs, I r, .slice A ws.length c, I r, .slice A ws.length c] 3 3 (by decide),
        asBox _ d hRd 25 #[.slice Bs stss.length cbs, .slice (some ⟨bo, oo, none⟩) sts.length cb, .slice (some ⟨bo, oo, none⟩) sts.length cb] 3 3 (by decide),
        asBox _ d hRd 3 #[I wing, I (k : Int), I wing] 3 3 (by decide),
        asRow3 _ d hRd second second,
        asBox _ d hRd 54 #[I ra, I rb, I rg, I a, I b, I g', I ra, I rb, I rg] 3 3 (by decide)] 254 (by kernel_rfl) rfl (⟨T9.grow (Below.refl _ _).drew, x16f.below (Below.refl _ _).drew x16f.lt⟩) (by simp) (by simp) ?_ (fun _ => World.grownBy.refl _ _) ?_ ?_ ?_
    · intro i' hi' o' ho k' b' hg u w' hR hu
      match i', hi', ho with
      | 0, _, ho => cases ho; cases hg
      | 1, _, ho => cases ho; cases hg
      | 2, _, ho => cases ho; cases hg
      | 3, _, ho => cases ho; cases hg
      | 4, _, ho => cases ho; cases hg
      | 5, _, ho => cases ho; cases hg
      | 6, _, ho => cases ho; cases hg
      | 7, _, ho => cases ho; cases hg
      | 8, _, ho => cases ho; cases hg
      | 9, _, ho => cases ho; cases hg
      | 10, _, ho => cases ho; cases hg
      | 11, _, ho => cases ho; cases hg
      | 12, _, ho => cases ho; cases hg
      | 13, _, ho => cases ho; cases hg
      | 14, _, ho => cases ho; cases hg
      | 15, _, ho => cases ho; cases hg
      | 16, _, ho => cases ho; cases hg
      | 17, _, ho => cases ho; cases hg
      | 18, _, ho => cases ho; cases hg
      | 19, _, ho => cases ho; cases hg
      | 20, _, ho => cases ho; cases hg
      | 21, _, ho => cases ho; cases hg
      | 22, _, ho => cases ho; cases hg
      | 23, _, ho => cases ho; cases hg
      | 24, _, ho => cases ho; cases hg
      | 25, _, ho => cases ho; cases hg
      | 26, _, ho => cases ho; cases hg
      | 27, _, ho => cases ho; cases hg
      | 28, _, ho => cases ho; cases hg
      | 29, _, ho => cases ho; cases hg
      | 30, _, ho => cases ho; cases hg
      | n + 31, hi, _ => exact absurd hi (by simp)
    · intro i' hi' hsk; cases hsk
    · intro i' hi' hsk o' ho ev w' hR hc hf hg hs hd
      match i', hi', ho with
      | 0, _, ho =>
        clear hsk
        cases ho
        have e6 : ev (.tmp 6) = .pointer (some ⟨w.heap.size, 0, none⟩) := hs 6 (by kernel_rfl)
        have m4 := hR.1.2.2.1.cell
        go_simp
        first | exact ⟨rfl, hR, World.grownBy.refl _ _⟩ | exact ⟨⟨rfl, rfl⟩, hR, World.grownBy.refl _ _⟩ | exact ⟨⟨rfl, fun h => absurd h (by decide)⟩, hR, World.grownBy.refl _ _⟩ | exact ⟨⟨rfl, rfl, fun h => absurd h (by decide)⟩, hR, World.grownBy.refl _ _⟩
      | 1, _, ho =>
        clear hsk
        cases ho
        have e14 : ev (.tmp 14) = .pointer (some ⟨w2.heap.size, 0, none⟩) := hs 14 (by kernel_rfl)
        have m4 := hR.1.1.box.cell
        go_simp
        first | exact ⟨rfl, hR, World.grownBy.refl _ _⟩ | exact ⟨⟨rfl, rfl⟩, hR, World.grownBy.refl _ _⟩ | exact ⟨⟨rfl, fun h => absurd h (by decide)⟩, hR, World.grownBy.refl _ _⟩ | exact ⟨⟨rfl, rfl, fun h => absurd h (by decide)⟩, hR, World.grownBy.refl _ _⟩
      | 2, _, ho =>
        clear hsk
        cases ho
        have e14 : ev (.tmp 14) = .pointer (some ⟨w2.heap.size, 0, none⟩) := hs 14 (by kernel_rfl)
        have m4 := hR.1.1.box.cell
        go_simp
        first | exact ⟨rfl, hR, World.grownBy.refl _ _⟩ | exact ⟨⟨rfl, rfl⟩, hR, World.grownBy.refl _ _⟩ | exact ⟨⟨rfl, fun h => absurd h (by decide)⟩, hR, World.grownBy.refl _ _⟩ | exact ⟨⟨rfl, rfl, fun h => absurd h (by decide)⟩, hR, World.grownBy.refl _ _⟩
      | 3, _, ho =>
        clear hsk
        cases ho
        have e82 : ev (.tmp 82) = .agg #[I rs, .slice Ar wss.length cs] := hd 0 82 (by kernel_rfl)
        have e83 : ev (.tmp 83) = .agg #[I r, .slice A ws.length c] := hd 1 83 (by kernel_rfl)
        have e84 : ev (.tmp 84) = .agg #[I r, .slice A ws.length c] := hd 2 84 (by kernel_rfl)
        go_simp
        first | exact ⟨⟨_, rfl, Bx.new _ _ _⟩, ⟨hR.1.grow ((Below.refl _ _).alloc (Nat.le_refl _) _), hR.2.alloc _⟩, World.grownBy_alloc _ _ _⟩ | exact ⟨⟨rfl, ⟨_, rfl, Bx.new _ _ _⟩⟩, ⟨hR.1.grow ((Below.refl _ _).alloc (Nat.le_refl _) _), hR.2.alloc _⟩, World.grownBy_alloc _ _ _⟩ | exact ⟨⟨⟨_, rfl, Bx.new _ _ _⟩, fun h => absurd h (by decide)⟩, ⟨hR.1.grow ((Below.refl _ _).alloc (Nat.le_refl _) _), hR.2.alloc _⟩, World.grownBy_alloc _ _ _⟩ | exact ⟨⟨rfl, ⟨_, rfl, Bx.new _ _ _⟩, fun h => absurd h (by decide)⟩, ⟨hR.1.grow ((Below.refl _ _).alloc (Nat.le_refl _) _), hR.2.alloc _⟩, World.grownBy_alloc _ _ _⟩
      | 4, _, ho =>
        clear hsk
        cases ho
        have e1 : ev (.tmp 1) = .slice Bs stss.length cbs := hs 1 (by kernel_rfl)
        go_simp
        first | exact ⟨rfl, hR, World.grownBy.refl _ _⟩ | exact ⟨⟨rfl, rfl⟩, hR, World.grownBy.refl _ _⟩ | exact ⟨⟨rfl, fun h => absurd h (by decide)⟩, hR, World.grownBy.refl _ _⟩ | exact ⟨⟨rfl, rfl, fun h => absurd h (by decide)⟩, hR, World.grownBy.refl _ _⟩
      | 5, _, ho =>
        clear hsk
        cases ho
        have e15 : ev (.tmp 15) = .slice (some ⟨bo, oo, none⟩) sts.length cb := hs 15 (by kernel_rfl)
        go_simp
        first | exact ⟨rfl, hR, World.grownBy.refl _ _⟩ | exact ⟨⟨rfl, rfl⟩, hR, World.grownBy.refl _ _⟩ | exact ⟨⟨rfl, fun h => absurd h (by decide)⟩, hR, World.grownBy.refl _ _⟩ | exact ⟨⟨rfl, rfl, fun h => absurd h (by decide)⟩, hR, World.grownBy.refl _ _⟩
      | 6, _, ho =>
        clear hsk
        cases ho
        have e15 : ev (.tmp 15) = .slice (some ⟨bo, oo, none⟩) sts.length cb := hs 15 (by kernel_rfl)
        go_simp
        first | exact ⟨rfl, hR, World.grownBy.refl _ _⟩ | exact ⟨⟨rfl, rfl⟩, hR, World.grownBy.refl _ _⟩ | exact ⟨⟨rfl, fun h => absurd h (by decide)⟩, hR, World.grownBy.refl _ _⟩ | exact ⟨⟨rfl, rfl, fun h => absurd h (by decide)⟩, hR, World.grownBy.refl _ _⟩
      | 7, _, ho =>
        clear hsk
        cases ho
        have e86 : ev (.tmp 86) = .slice Bs stss.length cbs := hd 4 86 (by kernel_rfl)
        have e87 : ev (.tmp 87) = .slice (some ⟨bo, oo, none⟩) sts.length cb := hd 5 87 (by kernel_rfl)
        have e88 : ev (.tmp 88) = .slice (some ⟨bo, oo, none⟩) sts.length cb := hd 6 88 (by kernel_rfl)
        go_simp
        first | exact ⟨⟨_, rfl, Bx.new _ _ _⟩, ⟨hR.1.grow ((Below.refl _ _).alloc (Nat.le_refl _) _), hR.2.alloc _⟩, World.grownBy_alloc _ _ _⟩ | exact ⟨⟨rfl, ⟨_, rfl, Bx.new _ _ _⟩⟩, ⟨hR.1.grow ((Below.refl _ _).alloc (Nat.le_refl _) _), hR.2.alloc _⟩, World.grownBy_alloc _ _ _⟩ | exact ⟨⟨⟨_, rfl, Bx.new _ _ _⟩, fun h => absurd h (by decide)⟩, ⟨hR.1.grow ((Below.refl _ _).alloc (Nat.le_refl _) _), hR.2.alloc _⟩, World.grownBy_alloc _ _ _⟩ | exact ⟨⟨rfl, ⟨_, rfl, Bx.new _ _ _⟩, fun h => absurd h (by decide)⟩, ⟨hR.1.grow ((Below.refl _ _).alloc (Nat.le_refl _) _), hR.2.alloc _⟩, World.grownBy_alloc _ _ _⟩
      | 8, _, ho =>
        clear hsk
        cases ho
        have e2 : ev (.tmp 2) = I wing := hs 2 (by kernel_rfl)
        go_simp
        first | exact ⟨rfl, hR, World.grownBy.refl _ _⟩ | exact ⟨⟨rfl, rfl⟩, hR, World.grownBy.refl _ _⟩ | exact ⟨⟨rfl, fun h => absurd h (by decide)⟩, hR, World.grownBy.refl _ _⟩ | exact ⟨⟨rfl, rfl, fun h => absurd h (by decide)⟩, hR, World.grownBy.refl _ _⟩
      | 9, _, ho =>
        clear hsk
        cases ho
        have e21 : ev (.tmp 21) = I (k : Int) := hs 21 (by kernel_rfl)
        go_simp
        first | exact ⟨rfl, hR, World.grownBy.refl _ _⟩ | exact ⟨⟨rfl, rfl⟩, hR, World.grownBy.refl _ _⟩ | exact ⟨⟨rfl, fun h => absurd h (by decide)⟩, hR, World.grownBy.refl _ _⟩ | exact ⟨⟨rfl, rfl, fun h => absurd h (by decide)⟩, hR, World.grownBy.refl _ _⟩
      | 10, _, ho =>
        clear hsk
        cases ho
        have e2 : ev (.tmp 2) = I wing := hs 2 (by kernel_rfl)
        go_simp
        first | exact ⟨rfl, hR, World.grownBy.refl _ _⟩ | exact ⟨⟨rfl, rfl⟩, hR, World.grownBy.refl _ _⟩ | exact ⟨⟨rfl, fun h => absurd h (by decide)⟩, hR, World.grownBy.refl _ _⟩ | exact ⟨⟨rfl, rfl, fun h => absurd h (by decide)⟩, hR, World.grownBy.refl _ _⟩
      | 11, _, ho =>
        clear hsk
        cases ho
        have e90 : ev (.tmp 90) = I wing := hd 8 90 (by kernel_rfl)
        have e91 : ev (.tmp 91) = I (k : Int) := hd 9 91 (by kernel_rfl)
        have e92 : ev (.tmp 92) = I wing := hd 10 92 (by kernel_rfl)
        go_simp
        first | exact ⟨⟨_, rfl, Bx.new _ _ _⟩, ⟨hR.1.grow ((Below.refl _ _).alloc (Nat.le_refl _) _), hR.2.alloc _⟩, World.grownBy_alloc _ _ _⟩ | exact ⟨⟨rfl, ⟨_, rfl, Bx.new _ _ _⟩⟩, ⟨hR.1.grow ((Below.refl _ _).alloc (Nat.le_refl _) _), hR.2.alloc _⟩, World.grownBy_alloc _ _ _⟩ | exact ⟨⟨⟨_, rfl, Bx.new _ _ _⟩, fun h => absurd h (by decide)⟩, ⟨hR.1.grow ((Below.refl _ _).alloc (Nat.le_refl _) _), hR.2.alloc _⟩, World.grownBy_alloc _ _ _⟩ | exact ⟨⟨rfl, ⟨_, rfl, Bx.new _ _ _⟩, fun h => absurd h (by decide)⟩, ⟨hR.1.grow ((Below.refl _ _).alloc (Nat.le_refl _) _), hR.2.alloc _⟩, World.grownBy_alloc _ _ _⟩
      | 12, _, ho =>
        clear hsk
        cases ho
        have e3 : ev (.tmp 3) = I second := hs 3 (by kernel_rfl)
        go_simp
        first | exact ⟨rfl, hR, World.grownBy.refl _ _⟩ | exact ⟨⟨rfl, rfl⟩, hR, World.grownBy.refl _ _⟩ | exact ⟨⟨rfl, fun h => absurd h (by decide)⟩, hR, World.grownBy.refl _ _⟩ | exact ⟨⟨rfl, rfl, fun h => absurd h (by decide)⟩, hR, World.grownBy.refl _ _⟩
      | 13, _, ho =>
        clear hsk
        cases ho
        have e15 : ev (.tmp 15) = .slice (some ⟨bo, oo, none⟩) sts.length cb := hs 15 (by kernel_rfl)
        go_simp
        first | exact ⟨rfl, hR, World.grownBy.refl _ _⟩ | exact ⟨⟨rfl, rfl⟩, hR, World.grownBy.refl _ _⟩ | exact ⟨⟨rfl, fun h => absurd h (by decide)⟩, hR, World.grownBy.refl _ _⟩ | exact ⟨⟨rfl, rfl, fun h => absurd h (by decide)⟩, hR, World.grownBy.refl _ _⟩
      | 14, _, ho =>
        clear hsk
        cases ho
        have e21 : ev (.tmp 21) = I (k : Int) := hs 21 (by kernel_rfl)
        go_simp
        first | exact ⟨rfl, hR, World.grownBy.refl _ _⟩ | exact ⟨⟨rfl, rfl⟩, hR, World.grownBy.refl _ _⟩ | exact ⟨⟨rfl, fun h => absurd h (by decide)⟩, hR, World.grownBy.refl _ _⟩ | exact ⟨⟨rfl, rfl, fun h => absurd h (by decide)⟩, hR, World.grownBy.refl _ _⟩
      | 15, _, ho =>
        clear hsk
        cases ho
        have e95 : ev (.tmp 95) = .slice (some ⟨bo, oo, none⟩) sts.length cb := hd 13 95 (by kernel_rfl)
        have e96 : ev (.tmp 96) = I (k : Int) := hd 14 96 (by kernel_rfl)
        go_simp
        first | exact ⟨rfl, hR, World.grownBy.refl _ _⟩ | exact ⟨⟨rfl, rfl⟩, hR, World.grownBy.refl _ _⟩ | exact ⟨⟨rfl, fun h => absurd h (by decide)⟩, hR, World.grownBy.refl _ _⟩ | exact ⟨⟨rfl, rfl, fun h => absurd h (by decide)⟩, hR, World.grownBy.refl _ _⟩
      | 16, _, ho =>
        clear hsk
        cases ho
        have e97 : ev (.tmp 97) = .pointer (some ⟨bo, oo + k, none⟩) := hd 15 97 (by kernel_rfl)
        have hcl : w'.cell? ⟨bo, oo + k, none⟩ = some (I (gI sts k)) := SlI.cellG hR.1.2.1 hks
        go_simp
        first | exact ⟨rfl, hR, World.grownBy.refl _ _⟩ | exact ⟨⟨rfl, rfl⟩, hR, World.grownBy.refl _ _⟩ | exact ⟨⟨rfl, fun h => absurd h (by decide)⟩, hR, World.grownBy.refl _ _⟩ | exact ⟨⟨rfl, rfl, fun h => absurd h (by decide)⟩, hR, World.grownBy.refl _ _⟩
      | 17, _, ho =>
        clear hsk
        cases ho
        have e13 : ev (.tmp 13) = .pointer (some ⟨d, 0, none⟩) := hs 13 (by kernel_rfl)
        go_simp
        first | exact ⟨rfl, hR, World.grownBy.refl _ _⟩ | exact ⟨⟨rfl, rfl⟩, hR, World.grownBy.refl _ _⟩ | exact ⟨⟨rfl, fun h => absurd h (by decide)⟩, hR, World.grownBy.refl _ _⟩ | exact ⟨⟨rfl, rfl, fun h => absurd h (by decide)⟩, hR, World.grownBy.refl _ _⟩
      | 18, _, ho =>
        clear hsk
        cases ho
        have e99 : ev (.tmp 99) = .pointer (some ⟨d, 0, none⟩) := hd 17 99 (by kernel_rfl)
        go_simp
        refine (roll_c d 100 99 _ hR.1.1.dr (by omega) (by omega) (by omega) (by omega)).mono ?_
        rintro e wz ⟨y, rfl, hr1, hr2, hd1, hk1⟩
        first | exact ⟨⟨y, rfl, hr1, hr2⟩, ⟨hR.1.kp hk1 hd1, hR.2.kp hk1 (Ne.symm hd16)⟩, hk1⟩ | exact ⟨⟨rfl, ⟨y, rfl, hr1, hr2⟩⟩, ⟨hR.1.kp hk1 hd1, hR.2.kp hk1 (Ne.symm hd16)⟩, hk1⟩ | exact ⟨⟨⟨y, rfl, hr1, hr2⟩, fun h => absurd h (by decide)⟩, ⟨hR.1.kp hk1 hd1, hR.2.kp hk1 (Ne.symm hd16)⟩, hk1⟩ | exact ⟨⟨rfl, ⟨y, rfl, hr1, hr2⟩, fun h => absurd h (by decide)⟩, ⟨hR.1.kp hk1 hd1, hR.2.kp hk1 (Ne.symm hd16)⟩, hk1⟩
      | 19, _, ho =>
        clear hsk
        cases ho
        have e98 : ev (.tmp 98) = I (gI sts k) := hd 16 98 (by kernel_rfl)
        obtain ⟨x100, e100, hx1001, hx1002⟩ : ∃ r' : Int, ev (.tmp 100) = I r' ∧ 0 ≤ r' ∧ r' ≤ 99 := hd 18 100 (by kernel_rfl)
        have ew : IntKind.i64.wrap (gI sts k + x100) = gI sts k + x100 := IntWalk.i64_in _ (by omega)
        go_simp
        clear ew
        first | exact ⟨⟨_, rfl⟩, hR, World.grownBy.refl _ _⟩ | exact ⟨⟨rfl, ⟨_, rfl⟩⟩, hR, World.grownBy.refl _ _⟩ | exact ⟨⟨⟨_, rfl⟩, fun h => absurd h (by decide)⟩, hR, World.grownBy.refl _ _⟩ | exact ⟨⟨rfl, ⟨_, rfl⟩, fun h => absurd h (by decide)⟩, hR, World.grownBy.refl _ _⟩
      | 20, _, ho =>
        clear hsk
        cases ho
        have e3 : ev (.tmp 3) = I second := hs 3 (by kernel_rfl)
        go_simp
        first | exact ⟨rfl, hR, World.grownBy.refl _ _⟩ | exact ⟨⟨rfl, rfl⟩, hR, World.grownBy.refl _ _⟩ | exact ⟨⟨rfl, fun h => absurd h (by decide)⟩, hR, World.grownBy.refl _ _⟩ | exact ⟨⟨rfl, rfl, fun h => absurd h (by decide)⟩, hR, World.grownBy.refl _ _⟩
      | 21, _, ho =>
        clear hsk
        cases ho
        have e94 : ev (.tmp 94) = I second := hd 12 94 (by kernel_rfl)
        obtain ⟨y101, e101⟩ : ∃ y : Int, ev (.tmp 101) = I y := hd 19 101 (by kernel_rfl)
        have e102 : ev (.tmp 102) = I second := hd 20 102 (by kernel_rfl)
        go_simp
        first | exact ⟨⟨_, _, rfl, Bx.new _ _ _⟩, ⟨hR.1.grow ((Below.refl _ _).alloc (Nat.le_refl _) _), hR.2.alloc _⟩, World.grownBy_alloc _ _ _⟩ | exact ⟨⟨rfl, ⟨_, _, rfl, Bx.new _ _ _⟩⟩, ⟨hR.1.grow ((Below.refl _ _).alloc (Nat.le_refl _) _), hR.2.alloc _⟩, World.grownBy_alloc _ _ _⟩ | exact ⟨⟨⟨_, _, rfl, Bx.new _ _ _⟩, fun h => absurd h (by decide)⟩, ⟨hR.1.grow ((Below.refl _ _).alloc (Nat.le_refl _) _), hR.2.alloc _⟩, World.grownBy_alloc _ _ _⟩ | exact ⟨⟨rfl, ⟨_, _, rfl, Bx.new _ _ _⟩, fun h => absurd h (by decide)⟩, ⟨hR.1.grow ((Below.refl _ _).alloc (Nat.le_refl _) _), hR.2.alloc _⟩, World.grownBy_alloc _ _ _⟩
      | 22, _, ho =>
        clear hsk
        cases ho
        have e10 : ev (.tmp 10) = .pointer (some ⟨w.heap.size + 1, 0, none⟩) := hs 10 (by kernel_rfl)
        have m4 := hR.1.2.2.2.cell
        go_simp
        first | exact ⟨rfl, hR, World.grownBy.refl _ _⟩ | exact ⟨⟨rfl, rfl⟩, hR, World.grownBy.refl _ _⟩ | exact ⟨⟨rfl, fun h => absurd h (by decide)⟩, hR, World.grownBy.refl _ _⟩ | exact ⟨⟨rfl, rfl, fun h => absurd h (by decide)⟩, hR, World.grownBy.refl _ _⟩
      | 23, _, ho =>
        clear hsk
        cases ho
        have e16 : ev (.tmp 16) = .pointer (some ⟨q16, 0, none⟩) := hs 16 (by kernel_rfl)
        have m4 := hR.2.cell
        go_simp
        first | exact ⟨rfl, hR, World.grownBy.refl _ _⟩ | exact ⟨⟨rfl, rfl⟩, hR, World.grownBy.refl _ _⟩ | exact ⟨⟨rfl, fun h => absurd h (by decide)⟩, hR, World.grownBy.refl _ _⟩ | exact ⟨⟨rfl, rfl, fun h => absurd h (by decide)⟩, hR, World.grownBy.refl _ _⟩
      | 24, _, ho =>
        clear hsk
        cases ho
        have e10 : ev (.tmp 10) = .pointer (some ⟨w.heap.size + 1, 0, none⟩) := hs 10 (by kernel_rfl)
        have m4 := hR.1.2.2.2.cell
        go_simp
        first | exact ⟨rfl, hR, World.grownBy.refl _ _⟩ | exact ⟨⟨rfl, rfl⟩, hR, World.grownBy.refl _ _⟩ | exact ⟨⟨rfl, fun h => absurd h (by decide)⟩, hR, World.grownBy.refl _ _⟩ | exact ⟨⟨rfl, rfl, fun h => absurd h (by decide)⟩, hR, World.grownBy.refl _ _⟩
      | 25, _, ho =>
        clear hsk
        cases ho
        have e104 : ev (.tmp 104) = .agg #[I ra, I rb, I rg] := hd 22 104 (by kernel_rfl)
        have e105 : ev (.tmp 105) = .agg #[I a, I b, I g'] := hd 23 105 (by kernel_rfl)
        have e106 : ev (.tmp 106) = .agg #[I ra, I rb, I rg] := hd 24 106 (by kernel_rfl)
        go_simp
        first | exact ⟨⟨_, rfl, Bx.new _ _ _⟩, ⟨hR.1.grow ((Below.refl _ _).alloc (Nat.le_refl _) _), hR.2.alloc _⟩, World.grownBy_alloc _ _ _⟩ | exact ⟨⟨rfl, ⟨_, rfl, Bx.new _ _ _⟩⟩, ⟨hR.1.grow ((Below.refl _ _).alloc (Nat.le_refl _) _), hR.2.alloc _⟩, World.grownBy_alloc _ _ _⟩ | exact ⟨⟨⟨_, rfl, Bx.new _ _ _⟩, fun h => absurd h (by decide)⟩, ⟨hR.1.grow ((Below.refl _ _).alloc (Nat.le_refl _) _), hR.2.alloc _⟩, World.grownBy_alloc _ _ _⟩ | exact ⟨⟨rfl, ⟨_, rfl, Bx.new _ _ _⟩, fun h => absurd h (by decide)⟩, ⟨hR.1.grow ((Below.refl _ _).alloc (Nat.le_refl _) _), hR.2.alloc _⟩, World.grownBy_alloc _ _ _⟩
      | 26, _, ho =>
        clear hsk
        cases ho
        obtain ⟨bb85, e85, hbb85⟩ : ∃ bz, ev (.tmp 85) = .slice (some ⟨bz, 0, none⟩) 3 3 ∧ Bx w' bz 24 #[I rs, .slice Ar wss.length cs, I r, .slice A ws.length c, I r, .slice A ws.length c] := hd 3 85 (by kernel_rfl)
        go_simp
        first | exact ⟨⟨bb85, rfl, hbb85⟩, hR, World.grownBy.refl _ _⟩ | exact ⟨⟨rfl, ⟨bb85, rfl, hbb85⟩⟩, hR, World.grownBy.refl _ _⟩ | exact ⟨⟨⟨bb85, rfl, hbb85⟩, fun h => absurd h (by decide)⟩, hR, World.grownBy.refl _ _⟩ | exact ⟨⟨rfl, ⟨bb85, rfl, hbb85⟩, fun h => absurd h (by decide)⟩, hR, World.grownBy.refl _ _⟩
      | 27, _, ho =>
        clear hsk
        cases ho
        obtain ⟨bb89, e89, hbb89⟩ : ∃ bz, ev (.tmp 89) = .slice (some ⟨bz, 0, none⟩) 3 3 ∧ Bx w' bz 25 #[.slice Bs stss.length cbs, .slice (some ⟨bo, oo, none⟩) sts.length cb, .slice (some ⟨bo, oo, none⟩) sts.length cb] := hd 7 89 (by kernel_rfl)
        go_simp
        first | exact ⟨⟨bb89, rfl, hbb89⟩, hR, World.grownBy.refl _ _⟩ | exact ⟨⟨rfl, ⟨bb89, rfl, hbb89⟩⟩, hR, World.grownBy.refl _ _⟩ | exact ⟨⟨⟨bb89, rfl, hbb89⟩, fun h => absurd h (by decide)⟩, hR, World.grownBy.refl _ _⟩ | exact ⟨⟨rfl, ⟨bb89, rfl, hbb89⟩, fun h => absurd h (by decide)⟩, hR, World.grownBy.refl _ _⟩
      | 28, _, ho =>
        clear hsk
        cases ho
        obtain ⟨bb93, e93, hbb93⟩ : ∃ bz, ev (.tmp 93) = .slice (some ⟨bz, 0, none⟩) 3 3 ∧ Bx w' bz 3 #[I wing, I (k : Int), I wing] := hd 11 93 (by kernel_rfl)
        go_simp
        first | exact ⟨⟨bb93, rfl, hbb93⟩, hR, World.grownBy.refl _ _⟩ | exact ⟨⟨rfl, ⟨bb93, rfl, hbb93⟩⟩, hR, World.grownBy.refl _ _⟩ | exact ⟨⟨⟨bb93, rfl, hbb93⟩, fun h => absurd h (by decide)⟩, hR, World.grownBy.refl _ _⟩ | exact ⟨⟨rfl, ⟨bb93, rfl, hbb93⟩, fun h => absurd h (by decide)⟩, hR, World.grownBy.refl _ _⟩
      | 29, _, ho =>
        clear hsk
        cases ho
        obtain ⟨bb103, yy103, e103, hbb103⟩ : ∃ b y, ev (.tmp 103) = .slice (some ⟨b, 0, none⟩) 3 3 ∧ Bx w' b 3 #[I second, I y, I second] := hd 21 103 (by kernel_rfl)
        go_simp
        first | exact ⟨⟨bb103, yy103, rfl, hbb103⟩, hR, World.grownBy.refl _ _⟩ | exact ⟨⟨rfl, ⟨bb103, yy103, rfl, hbb103⟩⟩, hR, World.grownBy.refl _ _⟩ | exact ⟨⟨⟨bb103, yy103, rfl, hbb103⟩, fun h => absurd h (by decide)⟩, hR, World.grownBy.refl _ _⟩ | exact ⟨⟨rfl, ⟨bb103, yy103, rfl, hbb103⟩, fun h => absurd h (by decide)⟩, hR, World.grownBy.refl _ _⟩
      | 30, _, ho =>
        clear hsk
        cases ho
        obtain ⟨bb107, e107, hbb107⟩ : ∃ bz, ev (.tmp 107) = .slice (some ⟨bz, 0, none⟩) 3 3 ∧ Bx w' bz 54 #[I ra, I rb, I rg, I a, I b, I g', I ra, I rb, I rg] := hd 25 107 (by kernel_rfl)
        go_simp
        first | exact ⟨⟨bb107, rfl, hbb107⟩, hR, World.grownBy.refl _ _⟩ | exact ⟨⟨rfl, ⟨bb107, rfl, hbb107⟩⟩, hR, World.grownBy.refl _ _⟩ | exact ⟨⟨⟨bb107, rfl, hbb107⟩, fun h => absurd h (by decide)⟩, hR, World.grownBy.refl _ _⟩ | exact ⟨⟨rfl, ⟨bb107, rfl, hbb107⟩, fun h => absurd h (by decide)⟩, hR, World.grownBy.refl _ _⟩
      | n + 31, hi, _ => exact absurd hi (by simp)
    intro ρ wE hR hρ hne K hK
    obtain ⟨b22, p26, z22⟩ : ∃ bz, ρ 26 = .slice (some ⟨bz, 0, none⟩) 3 3 ∧ Bx wE bz 24 #[I rs, .slice Ar wss.length cs, I r, .slice A ws.length c, I r, .slice A ws.length c] := hρ 26 (by simp)
    obtain ⟨b23, p27, z23⟩ : ∃ bz, ρ 27 = .slice (some ⟨bz, 0, none⟩) 3 3 ∧ Bx wE bz 25 #[.slice Bs stss.length cbs, .slice (some ⟨bo, oo, none⟩) sts.length cb, .slice (some ⟨bo, oo, none⟩) sts.length cb] := hρ 27 (by simp)
    obtain ⟨b24, p28, z24⟩ : ∃ bz, ρ 28 = .slice (some ⟨bz, 0, none⟩) 3 3 ∧ Bx wE bz 3 #[I wing, I (k : Int), I wing] := hρ 28 (by simp)
    obtain ⟨b25, s2, p29, z25⟩ : ∃ b y, ρ 29 = .slice (some ⟨b, 0, none⟩) 3 3 ∧ Bx wE b 3 #[I second, I y, I second] := hρ 29 (by simp)
    obtain ⟨b26, p30, z26⟩ : ∃ bz, ρ 30 = .slice (some ⟨bz, 0, none⟩) 3 3 ∧ Bx wE bz 54 #[I ra, I rb, I rg, I a, I b, I g', I ra, I rb, I rg] := hρ 30 (by simp)
    show K (putAll _ _ ρ 31) _
    simp only [putAll, dOf, List.getElem?_toArray, List.getElem?_cons_zero, List.getElem?_cons_succ, Option.bind_some, Act.put, List.setIfInBounds_toArray, List.set_cons_zero, List.set_cons_succ]
    rw [p26, p27, p28, p29, p30]
    refine hK _ _ ?_
    change wpList _ _ _ [] _ _
    obtain ⟨⟨L7, hsl7, _, _⟩, _⟩ := hR
    clear hK K p26 p27 p28 p29 p30 hρ hne hRd
    have hbE := L7.below
    obtain ⟨XS, wi, se, ua, ub, ug, S7⟩ : ∃ (XS : Nat → Qu) (wi se ua ub ug : Nat → Int), GQ XS wi se ua ub ug b22 b23 b24 b25 b26 w wE :=
      ⟨(fun j => match j with
        | 0 => ⟨rs, Ar, cs, wss, Ts, Bs, cbs, stss, Tt⟩
        | _ => ⟨r, A, c, ws, 29, some ⟨bo, oo, none⟩, cb, sts, 3⟩), (fun j => match j with | 0 => wing | 1 => (k : Int) | _ => wing), (fun j => match j with | 0 => second | 1 => s2 | _ => second), (fun j => match j with | 0 => ra | 1 => a | _ => ra), (fun j => match j with | 0 => rb | 1 => b | _ => rb), (fun j => match j with | 0 => rg | 1 => g' | _ => rg),
       ⟨⟨z22.lt, z23.lt, z24.lt, z25.lt, z26.lt⟩, fun j hj => (by
          have k0 := ok.grow hbE
          have k1 : Qu.ok ⟨r, A, c, ws, 29, some ⟨bo, oo, none⟩, cb, sts, 3⟩ wE := ⟨L7.wings, V.fit, V.max.1, V.cap, hsl7, V.max.2, V.capb⟩
          match j, hj with
          | 0, _ => exact k0
          | 1, _ => exact k1
          | 2, _ => exact k1), fun j hj => (by match j, hj with | 0, _ => exact z22.cell 0 | 1, _ => exact z22.cell 2 | 2, _ => exact z22.cell 4), fun j hj => (by match j, hj with | 0, _ => exact z22.cell 1 | 1, _ => exact z22.cell 3 | 2, _ => exact z22.cell 5), fun j hj => (by match j, hj with | 0, _ => exact z23.cell 0 | 1, _ => exact z23.cell 1 | 2, _ => exact z23.cell 2), fun j hj => (by match j, hj with | 0, _ => exact z24.cell 0 | 1, _ => exact z24.cell 1 | 2, _ => exact z24.cell 2), fun j hj => (by match j, hj with | 0, _ => exact z25.cell 0 | 1, _ => exact z25.cell 1 | 2, _ => exact z25.cell 2), fun j hj => (by match j, hj with | 0, _ => exact z26.cell 0 | 1, _ => exact z26.cell 3 | 2, _ => exact z26.cell 6), fun j hj => (by match j, hj with | 0, _ => exact z26.cell 1 | 1, _ => exact z26.cell 4 | 2, _ => exact z26.cell 7), fun j hj => (by match j, hj with | 0, _ => exact z26.cell 2 | 1, _ => exact z26.cell 5 | 2, _ => exact z26.cell 8), hbE⟩⟩
    clear z22 z23 z24 z25 z26 L7 hsl7 hbE T9 x16f
    go_wp2_with fail
    go_loopw [27] (fun i wr => ∃ n : Nat, i = .int .i64 n ∧ n ≤ 3 ∧ GQ XS wi se ua ub ug b22 b23 b24 b25 b26 w wr) (fun i _ => 3 - (intOf i).toNat)
    case atStart => exact ⟨0, rfl, by omega, S7⟩
    case round =>
      obtain ⟨i, rfl, hi3, qf⟩ := hrel
      clear S7
      by_cases hlt : i < 3
      · have hil0 : (i : Int) < 3 := by omega
        go_wp2_with fail
        refine wp_region_list_s (by kernel_rfl) (R := RB wr.heap.size wr) (F := FS Option.none wr.heap.size (fun x' y' : Int => x' = gaLo (XS i).r (XS i).ws (XS i).sts (wi i) (se i) ∧ y' = gaHi (XS i).r (XS i).ws (XS i).sts (wi i) (se i))) [] [] [(21, 20)]
            [As.is _ _ (.slice (some ⟨b22, 0, none⟩) 3 3),
            As.is _ _ (I (i : Int)),
            As.is _ _ (.pointer (some ⟨b22, i * 2, none⟩)),
            As.is _ _ (.agg #[I (XS i).r, .slice (XS i).A (XS i).ws.length (XS i).c]),
            As.is _ _ (.slice (some ⟨b23, 0, none⟩) 3 3),
            As.is _ _ (I (i : Int)),
            As.is _ _ (.pointer (some ⟨b23, i, none⟩)),
            As.is _ _ (.slice (XS i).B (XS i).sts.length (XS i).cb),
            As.is _ _ (.slice (some ⟨b24, 0, none⟩) 3 3),
            As.is _ _ (I (i : Int)),
            As.is _ _ (.pointer (some ⟨b24, i, none⟩)),
            As.is _ _ (I (wi i)),
            As.is _ _ (.slice (some ⟨b25, 0, none⟩) 3 3),
            As.is _ _ (I (i : Int)),
            As.is _ _ (.pointer (some ⟨b25, i, none⟩)),
            As.is _ _ (I (se i)),
            As.is _ _ (.tuple #[Sp (gaLo (XS i).r (XS i).ws (XS i).sts (wi i) (se i)) (gaHi (XS i).r (XS i).ws (XS i).sts (wi i) (se i)), I (gaE (XS i).r (XS i).ws (XS i).sts (wi i) (se i))]),
            As.is _ _ (.tuple #[Sp (gaLo (XS i).r (XS i).ws (XS i).sts (wi i) (se i)) (gaHi (XS i).r (XS i).ws (XS i).sts (wi i) (se i)), I (gaE (XS i).r (XS i).ws (XS i).sts (wi i) (se i))]),
            As.is _ _ (Sp (gaLo (XS i).r (XS i).ws (XS i).sts (wi i) (se i)) (gaHi (XS i).r (XS i).ws (XS i).sts (wi i) (se i))),
            As.is _ _ (I (gaE (XS i).r (XS i).ws (XS i).sts (wi i) (se i))),
            asSp0 _ Option.none wr.heap.size (fun x' y' : Int => x' = gaLo (XS i).r (XS i).ws (XS i).sts (wi i) (se i) ∧ y' = gaHi (XS i).r (XS i).ws (XS i).sts (wi i) (se i)),
            asSp1 _ Option.none wr.heap.size (fun x' y' : Int => x' = gaLo (XS i).r (XS i).ws (XS i).sts (wi i) (se i) ∧ y' = gaHi (XS i).r (XS i).ws (XS i).sts (wi i) (se i)),
            As.is _ _ (I (gaE (XS i).r (XS i).ws (XS i).sts (wi i) (se i)))] 254 (by kernel_rfl) rfl ((Below.refl _ _).drew) (by simp) (by simp) ?_ (fun _ => FS.refl _ _ _ _) ?_ ?_ ?_
        · intro i' hi' o' ho k' b' hg u w' hR hu
          match i', hi', ho with
          | 0, _, ho => cases ho; cases hg
          | 1, _, ho => cases ho; cases hg
          | 2, _, ho => cases ho; cases hg
          | 3, _, ho => cases ho; cases hg
          | 4, _, ho => cases ho; cases hg
          | 5, _, ho => cases ho; cases hg
          | 6, _, ho => cases ho; cases hg
          | 7, _, ho => cases ho; cases hg
          | 8, _, ho => cases ho; cases hg
          | 9, _, ho => cases ho; cases hg
          | 10, _, ho => cases ho; cases hg
          | 11, _, ho => cases ho; cases hg
          | 12, _, ho => cases ho; cases hg
          | 13, _, ho => cases ho; cases hg
          | 14, _, ho => cases ho; cases hg
          | 15, _, ho => cases ho; cases hg
          | 16, _, ho => cases ho; cases hg
          | 17, _, ho => cases ho; cases hg
          | 18, _, ho => cases ho; cases hg
          | 19, _, ho => cases ho; cases hg
          | 20, _, ho => cases ho; cases hg
          | 21, _, ho => cases ho; cases hg
          | 22, _, ho => cases ho; cases hg
          | n + 23, hi, _ => exact absurd hi (by simp)
        · intro i' hi' hsk; cases hsk
        · intro i' hi' hsk o' ho ev w' hR hc hf hg hs hd
          match i', hi', ho with
          | 0, _, ho =>
            clear hsk
            cases ho
            have e22 : ev (.tmp 22) = .slice (some ⟨b22, 0, none⟩) 3 3 := hs 22 (by kernel_rfl)
            go_simp
            first | exact ⟨rfl, hR, FS.refl _ _ _ _⟩ | exact ⟨⟨rfl, rfl⟩, hR, FS.refl _ _ _ _⟩ | exact ⟨⟨rfl, fun h => absurd h (by decide)⟩, hR, FS.refl _ _ _ _⟩ | exact ⟨⟨rfl, rfl, fun h => absurd h (by decide)⟩, hR, FS.refl _ _ _ _⟩
          | 1, _, ho =>
            clear hsk
            cases ho
            have e27 : ev (.tmp 27) = I (i : Int) := hs 27 (by kernel_rfl)
            go_simp
            first | exact ⟨rfl, hR, FS.refl _ _ _ _⟩ | exact ⟨⟨rfl, rfl⟩, hR, FS.refl _ _ _ _⟩ | exact ⟨⟨rfl, fun h => absurd h (by decide)⟩, hR, FS.refl _ _ _ _⟩ | exact ⟨⟨rfl, rfl, fun h => absurd h (by decide)⟩, hR, FS.refl _ _ _ _⟩
          | 2, _, ho =>
            clear hsk
            cases ho
            have e115 : ev (.tmp 115) = .slice (some ⟨b22, 0, none⟩) 3 3 := hd 0 115 (by kernel_rfl)
            have e116 : ev (.tmp 116) = I (i : Int) := hd 1 116 (by kernel_rfl)
            have hil : (i : Int) < 3 := by omega
            go_simp
            first | exact ⟨rfl, hR, FS.refl _ _ _ _⟩ | exact ⟨⟨rfl, rfl⟩, hR, FS.refl _ _ _ _⟩ | exact ⟨⟨rfl, fun h => absurd h (by decide)⟩, hR, FS.refl _ _ _ _⟩ | exact ⟨⟨rfl, rfl, fun h => absurd h (by decide)⟩, hR, FS.refl _ _ _ _⟩
          | 3, _, ho =>
            clear hsk
            cases ho
            have e117 : ev (.tmp 117) = .pointer (some ⟨b22, i * 2, none⟩) := hd 2 117 (by kernel_rfl)
            have m1 := (qf.grow hR).cr i hlt
            have m2 := (qf.grow hR).cs i hlt
            go_simp
            first | exact ⟨rfl, hR, FS.refl _ _ _ _⟩ | exact ⟨⟨rfl, rfl⟩, hR, FS.refl _ _ _ _⟩ | exact ⟨⟨rfl, fun h => absurd h (by decide)⟩, hR, FS.refl _ _ _ _⟩ | exact ⟨⟨rfl, rfl, fun h => absurd h (by decide)⟩, hR, FS.refl _ _ _ _⟩
          | 4, _, ho =>
            clear hsk
            cases ho
            have e23 : ev (.tmp 23) = .slice (some ⟨b23, 0, none⟩) 3 3 := hs 23 (by kernel_rfl)
            go_simp
            first | exact ⟨rfl, hR, FS.refl _ _ _ _⟩ | exact ⟨⟨rfl, rfl⟩, hR, FS.refl _ _ _ _⟩ | exact ⟨⟨rfl, fun h => absurd h (by decide)⟩, hR, FS.refl _ _ _ _⟩ | exact ⟨⟨rfl, rfl, fun h => absurd h (by decide)⟩, hR, FS.refl _ _ _ _⟩
          | 5, _, ho =>
            clear hsk
            cases ho
            have e27 : ev (.tmp 27) = I (i : Int) := hs 27 (by kernel_rfl)
            go_simp
            first | exact ⟨rfl, hR, FS.refl _ _ _ _⟩ | exact ⟨⟨rfl, rfl⟩, hR, FS.refl _ _ _ _⟩ | exact ⟨⟨rfl, fun h => absurd h (by decide)⟩, hR, FS.refl _ _ _ _⟩ | exact ⟨⟨rfl, rfl, fun h => absurd h (by decide)⟩, hR, FS.refl _ _ _ _⟩
          | 6, _, ho =>
            clear hsk
            cases ho
            have e119 : ev (.tmp 119) = .slice (some ⟨b23, 0, none⟩) 3 3 := hd 4 119 (by kernel_rfl)
            have e120 : ev (.tmp 120) = I (i : Int) := hd 5 120 (by kernel_rfl)
            have hil : (i : Int) < 3 := by omega
            go_simp
            first | exact ⟨rfl, hR, FS.refl _ _ _ _⟩ | exact ⟨⟨rfl, rfl⟩, hR, FS.refl _ _ _ _⟩ | exact ⟨⟨rfl, fun h => absurd h (by decide)⟩, hR, FS.refl _ _ _ _⟩ | exact ⟨⟨rfl, rfl, fun h => absurd h (by decide)⟩, hR, FS.refl _ _ _ _⟩
          | 7, _, ho =>
            clear hsk
            cases ho
            have e121 : ev (.tmp 121) = .pointer (some ⟨b23, i, none⟩) := hd 6 121 (by kernel_rfl)
            have m1 := (qf.grow hR).cl i hlt
            go_simp
            first | exact ⟨rfl, hR, FS.refl _ _ _ _⟩ | exact ⟨⟨rfl, rfl⟩, hR, FS.refl _ _ _ _⟩ | exact ⟨⟨rfl, fun h => absurd h (by decide)⟩, hR, FS.refl _ _ _ _⟩ | exact ⟨⟨rfl, rfl, fun h => absurd h (by decide)⟩, hR, FS.refl _ _ _ _⟩
          | 8, _, ho =>
            clear hsk
            cases ho
            have e24 : ev (.tmp 24) = .slice (some ⟨b24, 0, none⟩) 3 3 := hs 24 (by kernel_rfl)
            go_simp
            first | exact ⟨rfl, hR, FS.refl _ _ _ _⟩ | exact ⟨⟨rfl, rfl⟩, hR, FS.refl _ _ _ _⟩ | exact ⟨⟨rfl, fun h => absurd h (by decide)⟩, hR, FS.refl _ _ _ _⟩ | exact ⟨⟨rfl, rfl, fun h => absurd h (by decide)⟩, hR, FS.refl _ _ _ _⟩
          | 9, _, ho =>
            clear hsk
            cases ho
            have e27 : ev (.tmp 27) = I (i : Int) := hs 27 (by kernel_rfl)
            go_simp
            first | exact ⟨rfl, hR, FS.refl _ _ _ _⟩ | exact ⟨⟨rfl, rfl⟩, hR, FS.refl _ _ _ _⟩ | exact ⟨⟨rfl, fun h => absurd h (by decide)⟩, hR, FS.refl _ _ _ _⟩ | exact ⟨⟨rfl, rfl, fun h => absurd h (by decide)⟩, hR, FS.refl _ _ _ _⟩
          | 10, _, ho =>
            clear hsk
            cases ho
            have e123 : ev (.tmp 123) = .slice (some ⟨b24, 0, none⟩) 3 3 := hd 8 123 (by kernel_rfl)
            have e124 : ev (.tmp 124) = I (i : Int) := hd 9 124 (by kernel_rfl)
            have hil : (i : Int) < 3 := by omega
            go_simp
            first | exact ⟨rfl, hR, FS.refl _ _ _ _⟩ | exact ⟨⟨rfl, rfl⟩, hR, FS.refl _ _ _ _⟩ | exact ⟨⟨rfl, fun h => absurd h (by decide)⟩, hR, FS.refl _ _ _ _⟩ | exact ⟨⟨rfl, rfl, fun h => absurd h (by decide)⟩, hR, FS.refl _ _ _ _⟩
          | 11, _, ho =>
            clear hsk
            cases ho
            have e125 : ev (.tmp 125) = .pointer (some ⟨b24, i, none⟩) := hd 10 125 (by kernel_rfl)
            have m1 := (qf.grow hR).cw i hlt
            go_simp
            first | exact ⟨rfl, hR, FS.refl _ _ _ _⟩ | exact ⟨⟨rfl, rfl⟩, hR, FS.refl _ _ _ _⟩ | exact ⟨⟨rfl, fun h => absurd h (by decide)⟩, hR, FS.refl _ _ _ _⟩ | exact ⟨⟨rfl, rfl, fun h => absurd h (by decide)⟩, hR, FS.refl _ _ _ _⟩
          | 12, _, ho =>
            clear hsk
            cases ho
            have e25 : ev (.tmp 25) = .slice (some ⟨b25, 0, none⟩) 3 3 := hs 25 (by kernel_rfl)
            go_simp
            first | exact ⟨rfl, hR, FS.refl _ _ _ _⟩ | exact ⟨⟨rfl, rfl⟩, hR, FS.refl _ _ _ _⟩ | exact ⟨⟨rfl, fun h => absurd h (by decide)⟩, hR, FS.refl _ _ _ _⟩ | exact ⟨⟨rfl, rfl, fun h => absurd h (by decide)⟩, hR, FS.refl _ _ _ _⟩
          | 13, _, ho =>
            clear hsk
            cases ho
            have e27 : ev (.tmp 27) = I (i : Int) := hs 27 (by kernel_rfl)
            go_simp
            first | exact ⟨rfl, hR, FS.refl _ _ _ _⟩ | exact ⟨⟨rfl, rfl⟩, hR, FS.refl _ _ _ _⟩ | exact ⟨⟨rfl, fun h => absurd h (by decide)⟩, hR, FS.refl _ _ _ _⟩ | exact ⟨⟨rfl, rfl, fun h => absurd h (by decide)⟩, hR, FS.refl _ _ _ _⟩
          | 14, _, ho =>
            clear hsk
            cases ho
            have e127 : ev (.tmp 127) = .slice (some ⟨b25, 0, none⟩) 3 3 := hd 12 127 (by kernel_rfl)
            have e128 : ev (.tmp 128) = I (i : Int) := hd 13 128 (by kernel_rfl)
            have hil : (i : Int) < 3 := by omega
            go_simp
            first | exact ⟨rfl, hR, FS.refl _ _ _ _⟩ | exact ⟨⟨rfl, rfl⟩, hR, FS.refl _ _ _ _⟩ | exact ⟨⟨rfl, fun h => absurd h (by decide)⟩, hR, FS.refl _ _ _ _⟩ | exact ⟨⟨rfl, rfl, fun h => absurd h (by decide)⟩, hR, FS.refl _ _ _ _⟩
          | 15, _, ho =>
            clear hsk
            cases ho
            have e129 : ev (.tmp 129) = .pointer (some ⟨b25, i, none⟩) := hd 14 129 (by kernel_rfl)
            have m1 := (qf.grow hR).ct i hlt
            go_simp
            first | exact ⟨rfl, hR, FS.refl _ _ _ _⟩ | exact ⟨⟨rfl, rfl⟩, hR, FS.refl _ _ _ _⟩ | exact ⟨⟨rfl, fun h => absurd h (by decide)⟩, hR, FS.refl _ _ _ _⟩ | exact ⟨⟨rfl, rfl, fun h => absurd h (by decide)⟩, hR, FS.refl _ _ _ _⟩
          | 16, _, ho =>
            clear hsk
            cases ho
            have e118 : ev (.tmp 118) = .agg #[I (XS i).r, .slice (XS i).A (XS i).ws.length (XS i).c] := hd 3 118 (by kernel_rfl)
            have e122 : ev (.tmp 122) = .slice (XS i).B (XS i).sts.length (XS i).cb := hd 7 122 (by kernel_rfl)
            have e126 : ev (.tmp 126) = I (wi i) := hd 11 126 (by kernel_rfl)
            have e130 : ev (.tmp 130) = I (se i) := hd 15 130 (by kernel_rfl)
            go_simp
            refine (gapP_c (XS i).r (XS i).A (XS i).B (XS i).c (XS i).cb (XS i).ws (XS i).sts (XS i).T1 (XS i).T2 w' ((qf.grow hR).ok i hlt).h1 ((qf.grow hR).ok i hlt).h2 ((qf.grow hR).ok i hlt).fit ((qf.grow hR).ok i hlt).l1 ((qf.grow hR).ok i hlt).c1 ((qf.grow hR).ok i hlt).l2 ((qf.grow hR).ok i hlt).c2 (wi i) (se i)).mono ?_
            rintro e wz ⟨rfl, hwz⟩
            first | exact ⟨rfl, hR.trans (hwz.mono hR.size), FS.below hwz⟩ | exact ⟨⟨rfl, rfl⟩, hR.trans (hwz.mono hR.size), FS.below hwz⟩ | exact ⟨⟨rfl, fun h => absurd h (by decide)⟩, hR.trans (hwz.mono hR.size), FS.below hwz⟩ | exact ⟨⟨rfl, rfl, fun h => absurd h (by decide)⟩, hR.trans (hwz.mono hR.size), FS.below hwz⟩
          | 17, _, ho =>
            clear hsk
            cases ho
            have e131 : ev (.tmp 131) = .tuple #[Sp (gaLo (XS i).r (XS i).ws (XS i).sts (wi i) (se i)) (gaHi (XS i).r (XS i).ws (XS i).sts (wi i) (se i)), I (gaE (XS i).r (XS i).ws (XS i).sts (wi i) (se i))] := hd 16 131 (by kernel_rfl)
            go_simp
            first | exact ⟨rfl, hR, FS.refl _ _ _ _⟩ | exact ⟨⟨rfl, rfl⟩, hR, FS.refl _ _ _ _⟩ | exact ⟨⟨rfl, fun h => absurd h (by decide)⟩, hR, FS.refl _ _ _ _⟩ | exact ⟨⟨rfl, rfl, fun h => absurd h (by decide)⟩, hR, FS.refl _ _ _ _⟩
          | 18, _, ho =>
            clear hsk
            cases ho
            have e114 : ev (.tmp 114) = .tuple #[Sp (gaLo (XS i).r (XS i).ws (XS i).sts (wi i) (se i)) (gaHi (XS i).r (XS i).ws (XS i).sts (wi i) (se i)), I (gaE (XS i).r (XS i).ws (XS i).sts (wi i) (se i))] := hd 17 114 (by kernel_rfl)
            go_simp
            first | exact ⟨rfl, hR, FS.refl _ _ _ _⟩ | exact ⟨⟨rfl, rfl⟩, hR, FS.refl _ _ _ _⟩ | exact ⟨⟨rfl, fun h => absurd h (by decide)⟩, hR, FS.refl _ _ _ _⟩ | exact ⟨⟨rfl, rfl, fun h => absurd h (by decide)⟩, hR, FS.refl _ _ _ _⟩
          | 19, _, ho =>
            clear hsk
            cases ho
            have e114 : ev (.tmp 114) = .tuple #[Sp (gaLo (XS i).r (XS i).ws (XS i).sts (wi i) (se i)) (gaHi (XS i).r (XS i).ws (XS i).sts (wi i) (se i)), I (gaE (XS i).r (XS i).ws (XS i).sts (wi i) (se i))] := hd 17 114 (by kernel_rfl)
            go_simp
            first | exact ⟨rfl, hR, FS.refl _ _ _ _⟩ | exact ⟨⟨rfl, rfl⟩, hR, FS.refl _ _ _ _⟩ | exact ⟨⟨rfl, fun h => absurd h (by decide)⟩, hR, FS.refl _ _ _ _⟩ | exact ⟨⟨rfl, rfl, fun h => absurd h (by decide)⟩, hR, FS.refl _ _ _ _⟩
          | 20, _, ho =>
            clear hsk
            cases ho
            go_simp
            first | exact ⟨⟨_, rfl, hR.size, (by simp), SpB.new _ _⟩, hR.alloc hR.size _, FS.below ((Below.refl _ _).alloc (Nat.le_refl _) _)⟩ | exact ⟨⟨rfl, ⟨_, rfl, hR.size, (by simp), SpB.new _ _⟩⟩, hR.alloc hR.size _, FS.below ((Below.refl _ _).alloc (Nat.le_refl _) _)⟩ | exact ⟨⟨⟨_, rfl, hR.size, (by simp), SpB.new _ _⟩, fun h => absurd h (by decide)⟩, hR.alloc hR.size _, FS.below ((Below.refl _ _).alloc (Nat.le_refl _) _)⟩ | exact ⟨⟨rfl, ⟨_, rfl, hR.size, (by simp), SpB.new _ _⟩, fun h => absurd h (by decide)⟩, hR.alloc hR.size _, FS.below ((Below.refl _ _).alloc (Nat.le_refl _) _)⟩
          | 21, _, ho =>
            clear hsk
            cases ho
            obtain ⟨bx, e28, hb1, hb2, hb3⟩ : ∃ b, ev (.tmp 28) = .pointer (some ⟨b, 0, none⟩) ∧ wr.heap.size ≤ b ∧ some b ≠ Option.none ∧ SpB (P0 (fun x' y' : Int => x' = gaLo (XS i).r (XS i).ws (XS i).sts (wi i) (se i) ∧ y' = gaHi (XS i).r (XS i).ws (XS i).sts (wi i) (se i))) w' b := hd 20 28 (by kernel_rfl)
            have e132 : ev (.tmp 132) = Sp (gaLo (XS i).r (XS i).ws (XS i).sts (wi i) (se i)) (gaHi (XS i).r (XS i).ws (XS i).sts (wi i) (se i)) := hd 18 132 (by kernel_rfl)
            obtain ⟨x0, y0, _, hbx⟩ := hb3
            have hcx := hbx.cell
            have hfx := hbx.free
            go_simp
            have hP : (fun x' y' : Int => x' = gaLo (XS i).r (XS i).ws (XS i).sts (wi i) (se i) ∧ y' = gaHi (XS i).r (XS i).ws (XS i).sts (wi i) (se i)) _ _ := ⟨rfl, rfl⟩
            have hin : SpB (P0 (fun x' y' : Int => x' = gaLo (XS i).r (XS i).ws (XS i).sts (wi i) (se i) ∧ y' = gaHi (XS i).r (XS i).ws (XS i).sts (wi i) (se i))) w' bx := ⟨x0, y0, ‹_›, hbx⟩
            first | exact ⟨⟨rfl, fun t ht => (by cases ht; exact ⟨bx, e28, hb1, hb2, hin.put hP⟩)⟩, below_put hR hb1 _ _, FS.put hb1 hin hP⟩ | exact ⟨fun t ht => (by cases ht; exact ⟨bx, e28, hb1, hb2, hin.put hP⟩), below_put hR hb1 _ _, FS.put hb1 hin hP⟩
          | 22, _, ho =>
            clear hsk
            cases ho
            have e133 : ev (.tmp 133) = I (gaE (XS i).r (XS i).ws (XS i).sts (wi i) (se i)) := hd 19 133 (by kernel_rfl)
            go_simp
            first | exact ⟨rfl, hR, FS.refl _ _ _ _⟩ | exact ⟨⟨rfl, rfl⟩, hR, FS.refl _ _ _ _⟩ | exact ⟨⟨rfl, fun h => absurd h (by decide)⟩, hR, FS.refl _ _ _ _⟩ | exact ⟨⟨rfl, rfl, fun h => absurd h (by decide)⟩, hR, FS.refl _ _ _ _⟩
          | n + 23, hi, _ => exact absurd hi (by simp)
        intro ρ wa hR hρ hne K hK
        have p22 : ρ 22 = I (gaE (XS i).r (XS i).ws (XS i).sts (wi i) (se i)) := hρ 22 (by simp)
        obtain ⟨qa, p20, _, _, _, _, ⟨rfl, rfl⟩, xa⟩ : ∃ b, ρ 20 = .pointer (some ⟨b, 0, none⟩) ∧ wr.heap.size ≤ b ∧ some b ≠ Option.none ∧ SpB (fun x' y' : Int => x' = gaLo (XS i).r (XS i).ws (XS i).sts (wi i) (se i) ∧ y' = gaHi (XS i).r (XS i).ws (XS i).sts (wi i) (se i)) wa b := hρ 21 (by simp)
        show K (putAll _ _ ρ 23) _
        simp only [putAll, dOf, List.getElem?_toArray, List.getElem?_cons_zero, List.getElem?_cons_succ, Option.bind_some, Act.put, List.setIfInBounds_toArray, List.set_cons_zero, List.set_cons_succ]
        rw [p20, p22]
        refine hK _ _ ?_
        change wpList _ _ _ [] _ _
        clear hK K p20 p22 hρ hne
        have qf := qf.grow hR
        clear hR
        go_wp2_with fail
        refine wp_region_list_s (by kernel_rfl) (R := RB wa.heap.size wa) (F := FS Option.none wa.heap.size (fun x' y' : Int => x' = gaLo (XS i).r (XS i).ws (XS i).sts (wi i) (se i) ∧ y' = gaHi (XS i).r (XS i).ws (XS i).sts (wi i) (se i))) [] [] [(21, 20)]
            [As.is _ _ (.slice (some ⟨b22, 0, none⟩) 3 3),
            As.is _ _ (I (i : Int)),
            As.is _ _ (.pointer (some ⟨b22, i * 2, none⟩)),
            As.is _ _ (.agg #[I (XS i).r, .slice (XS i).A (XS i).ws.length (XS i).c]),
            As.is _ _ (.slice (some ⟨b23, 0, none⟩) 3 3),
            As.is _ _ (I (i : Int)),
            As.is _ _ (.pointer (some ⟨b23, i, none⟩)),
            As.is _ _ (.slice (XS i).B (XS i).sts.length (XS i).cb),
            As.is _ _ (.slice (some ⟨b24, 0, none⟩) 3 3),
            As.is _ _ (I (i : Int)),
            As.is _ _ (.pointer (some ⟨b24, i, none⟩)),
            As.is _ _ (I (wi i)),
            As.is _ _ (.slice (some ⟨b25, 0, none⟩) 3 3),
            As.is _ _ (I (i : Int)),
            As.is _ _ (.pointer (some ⟨b25, i, none⟩)),
            As.is _ _ (I (se i)),
            As.is _ _ (.tuple #[Sp (gaLo (XS i).r (XS i).ws (XS i).sts (wi i) (se i)) (gaHi (XS i).r (XS i).ws (XS i).sts (wi i) (se i)), I (gaE (XS i).r (XS i).ws (XS i).sts (wi i) (se i))]),
            As.is _ _ (.tuple #[Sp (gaLo (XS i).r (XS i).ws (XS i).sts (wi i) (se i)) (gaHi (XS i).r (XS i).ws (XS i).sts (wi i) (se i)), I (gaE (XS i).r (XS i).ws (XS i).sts (wi i) (se i))]),
            As.is _ _ (Sp (gaLo (XS i).r (XS i).ws (XS i).sts (wi i) (se i)) (gaHi (XS i).r (XS i).ws (XS i).sts (wi i) (se i))),
            As.is _ _ (I (gaE (XS i).r (XS i).ws (XS i).sts (wi i) (se i))),
            asSp0 _ Option.none wa.heap.size (fun x' y' : Int => x' = gaLo (XS i).r (XS i).ws (XS i).sts (wi i) (se i) ∧ y' = gaHi (XS i).r (XS i).ws (XS i).sts (wi i) (se i)),
            asSp1 _ Option.none wa.heap.size (fun x' y' : Int => x' = gaLo (XS i).r (XS i).ws (XS i).sts (wi i) (se i) ∧ y' = gaHi (XS i).r (XS i).ws (XS i).sts (wi i) (se i)),
            As.is _ _ (I (gaE (XS i).r (XS i).ws (XS i).sts (wi i) (se i)))] 254 (by kernel_rfl) rfl ((Below.refl _ _).drew) (by simp) (by simp) ?_ (fun _ => FS.refl _ _ _ _) ?_ ?_ ?_
        · intro i' hi' o' ho k' b' hg u w' hR hu
          match i', hi', ho with
          | 0, _, ho => cases ho; cases hg
          | 1, _, ho => cases ho; cases hg
          | 2, _, ho => cases ho; cases hg
          | 3, _, ho => cases ho; cases hg
          | 4, _, ho => cases ho; cases hg
          | 5, _, ho => cases ho; cases hg
          | 6, _, ho => cases ho; cases hg
          | 7, _, ho => cases ho; cases hg
          | 8, _, ho => cases ho; cases hg
          | 9, _, ho => cases ho; cases hg
          | 10, _, ho => cases ho; cases hg
          | 11, _, ho => cases ho; cases hg
          | 12, _, ho => cases ho; cases hg
          | 13, _, ho => cases ho; cases hg
          | 14, _, ho => cases ho; cases hg
          | 15, _, ho => cases ho; cases hg
          | 16, _, ho => cases ho; cases hg
          | 17, _, ho => cases ho; cases hg
          | 18, _, ho => cases ho; cases hg
          | 19, _, ho => cases ho; cases hg
          | 20, _, ho => cases ho; cases hg
          | 21, _, ho => cases ho; cases hg
          | 22, _, ho => cases ho; cases hg
          | n + 23, hi, _ => exact absurd hi (by simp)
        · intro i' hi' hsk; cases hsk
        · intro i' hi' hsk o' ho ev w' hR hc hf hg hs hd
          match i', hi', ho with
          | 0, _, ho =>
            clear hsk
            cases ho
            have e22 : ev (.tmp 22) = .slice (some ⟨b22, 0, none⟩) 3 3 := hs 22 (by kernel_rfl)
            go_simp
            first | exact ⟨rfl, hR, FS.refl _ _ _ _⟩ | exact ⟨⟨rfl, rfl⟩, hR, FS.refl _ _ _ _⟩ | exact ⟨⟨rfl, fun h => absurd h (by decide)⟩, hR, FS.refl _ _ _ _⟩ | exact ⟨⟨rfl, rfl, fun h => absurd h (by decide)⟩, hR, FS.refl _ _ _ _⟩
          | 1, _, ho =>
            clear hsk
            cases ho
            have e27 : ev (.tmp 27) = I (i : Int) := hs 27 (by kernel_rfl)
            go_simp
            first | exact ⟨rfl, hR, FS.refl _ _ _ _⟩ | exact ⟨⟨rfl, rfl⟩, hR, FS.refl _ _ _ _⟩ | exact ⟨⟨rfl, fun h => absurd h (by decide)⟩, hR, FS.refl _ _ _ _⟩ | exact ⟨⟨rfl, rfl, fun h => absurd h (by decide)⟩, hR, FS.refl _ _ _ _⟩
          | 2, _, ho =>
            clear hsk
            cases ho
            have e135 : ev (.tmp 135) = .slice (some ⟨b22, 0, none⟩) 3 3 := hd 0 135 (by kernel_rfl)
            have e136 : ev (.tmp 136) = I (i : Int) := hd 1 136 (by kernel_rfl)
            have hil : (i : Int) < 3 := by omega
            go_simp
            first | exact ⟨rfl, hR, FS.refl _ _ _ _⟩ | exact ⟨⟨rfl, rfl⟩, hR, FS.refl _ _ _ _⟩ | exact ⟨⟨rfl, fun h => absurd h (by decide)⟩, hR, FS.refl _ _ _ _⟩ | exact ⟨⟨rfl, rfl, fun h => absurd h (by decide)⟩, hR, FS.refl _ _ _ _⟩
          | 3, _, ho =>
            clear hsk
            cases ho
            have e137 : ev (.tmp 137) = .pointer (some ⟨b22, i * 2, none⟩) := hd 2 137 (by kernel_rfl)
            have m1 := (qf.grow hR).cr i hlt
            have m2 := (qf.grow hR).cs i hlt
            go_simp
            first | exact ⟨rfl, hR, FS.refl _ _ _ _⟩ | exact ⟨⟨rfl, rfl⟩, hR, FS.refl _ _ _ _⟩ | exact ⟨⟨rfl, fun h => absurd h (by decide)⟩, hR, FS.refl _ _ _ _⟩ | exact ⟨⟨rfl, rfl, fun h => absurd h (by decide)⟩, hR, FS.refl _ _ _ _⟩
          | 4, _, ho =>
            clear hsk
            cases ho
            have e23 : ev (.tmp 23) = .slice (some ⟨b23, 0, none⟩) 3 3 := hs 23 (by kernel_rfl)
            go_simp
            first | exact ⟨rfl, hR, FS.refl _ _ _ _⟩ | exact ⟨⟨rfl, rfl⟩, hR, FS.refl _ _ _ _⟩ | exact ⟨⟨rfl, fun h => absurd h (by decide)⟩, hR, FS.refl _ _ _ _⟩ | exact ⟨⟨rfl, rfl, fun h => absurd h (by decide)⟩, hR, FS.refl _ _ _ _⟩
          | 5, _, ho =>
            clear hsk
            cases ho
            have e27 : ev (.tmp 27) = I (i : Int) := hs 27 (by kernel_rfl)
            go_simp
            first | exact ⟨rfl, hR, FS.refl _ _ _ _⟩ | exact ⟨⟨rfl, rfl⟩, hR, FS.refl _ _ _ _⟩ | exact ⟨⟨rfl, fun h => absurd h (by decide)⟩, hR, FS.refl _ _ _ _⟩ | exact ⟨⟨rfl, rfl, fun h => absurd h (by decide)⟩, hR, FS.refl _ _ _ _⟩
          | 6, _, ho =>
            clear hsk
            cases ho
            have e139 : ev (.tmp 139) = .slice (some ⟨b23, 0, none⟩) 3 3 := hd 4 139 (by kernel_rfl)
            have e140 : ev (.tmp 140) = I (i : Int) := hd 5 140 (by kernel_rfl)
            have hil : (i : Int) < 3 := by omega
            go_simp
            first | exact ⟨rfl, hR, FS.refl _ _ _ _⟩ | exact ⟨⟨rfl, rfl⟩, hR, FS.refl _ _ _ _⟩ | exact ⟨⟨rfl, fun h => absurd h (by decide)⟩, hR, FS.refl _ _ _ _⟩ | exact ⟨⟨rfl, rfl, fun h => absurd h (by decide)⟩, hR, FS.refl _ _ _ _⟩
          | 7, _, ho =>
            clear hsk
            cases ho
            have e141 : ev (.tmp 141) = .pointer (some ⟨b23, i, none⟩) := hd 6 141 (by kernel_rfl)
            have m1 := (qf.grow hR).cl i hlt
            go_simp
            first | exact ⟨rfl, hR, FS.refl _ _ _ _⟩ | exact ⟨⟨rfl, rfl⟩, hR, FS.refl _ _ _ _⟩ | exact ⟨⟨rfl, fun h => absurd h (by decide)⟩, hR, FS.refl _ _ _ _⟩ | exact ⟨⟨rfl, rfl, fun h => absurd h (by decide)⟩, hR, FS.refl _ _ _ _⟩
          | 8, _, ho =>
            clear hsk
            cases ho
            have e24 : ev (.tmp 24) = .slice (some ⟨b24, 0, none⟩) 3 3 := hs 24 (by kernel_rfl)
            go_simp
            first | exact ⟨rfl, hR, FS.refl _ _ _ _⟩ | exact ⟨⟨rfl, rfl⟩, hR, FS.refl _ _ _ _⟩ | exact ⟨⟨rfl, fun h => absurd h (by decide)⟩, hR, FS.refl _ _ _ _⟩ | exact ⟨⟨rfl, rfl, fun h => absurd h (by decide)⟩, hR, FS.refl _ _ _ _⟩
          | 9, _, ho =>
            clear hsk
            cases ho
            have e27 : ev (.tmp 27) = I (i : Int) := hs 27 (by kernel_rfl)
            go_simp
            first | exact ⟨rfl, hR, FS.refl _ _ _ _⟩ | exact ⟨⟨rfl, rfl⟩, hR, FS.refl _ _ _ _⟩ | exact ⟨⟨rfl, fun h => absurd h (by decide)⟩, hR, FS.refl _ _ _ _⟩ | exact ⟨⟨rfl, rfl, fun h => absurd h (by decide)⟩, hR, FS.refl _ _ _ _⟩
          | 10, _, ho =>
            clear hsk
            cases ho
            have e143 : ev (.tmp 143) = .slice (some ⟨b24, 0, none⟩) 3 3 := hd 8 143 (by kernel_rfl)
            have e144 : ev (.tmp 144) = I (i : Int) := hd 9 144 (by kernel_rfl)
            have hil : (i : Int) < 3 := by omega
            go_simp
            first | exact ⟨rfl, hR, FS.refl _ _ _ _⟩ | exact ⟨⟨rfl, rfl⟩, hR, FS.refl _ _ _ _⟩ | exact ⟨⟨rfl, fun h => absurd h (by decide)⟩, hR, FS.refl _ _ _ _⟩ | exact ⟨⟨rfl, rfl, fun h => absurd h (by decide)⟩, hR, FS.refl _ _ _ _⟩
          | 11, _, ho =>
            clear hsk
            cases ho
            have e145 : ev (.tmp 145) = .pointer (some ⟨b24, i, none⟩) := hd 10 145 (by kernel_rfl)
            have m1 := (qf.grow hR).cw i hlt
            go_simp
            first | exact ⟨rfl, hR, FS.refl _ _ _ _⟩ | exact ⟨⟨rfl, rfl⟩, hR, FS.refl _ _ _ _⟩ | exact ⟨⟨rfl, fun h => absurd h (by decide)⟩, hR, FS.refl _ _ _ _⟩ | exact ⟨⟨rfl, rfl, fun h => absurd h (by decide)⟩, hR, FS.refl _ _ _ _⟩
          | 12, _, ho =>
            clear hsk
            cases ho
            have e25 : ev (.tmp 25) = .slice (some ⟨b25, 0, none⟩) 3 3 := hs 25 (by kernel_rfl)
            go_simp
            first | exact ⟨rfl, hR, FS.refl _ _ _ _⟩ | exact ⟨⟨rfl, rfl⟩, hR, FS.refl _ _ _ _⟩ | exact ⟨⟨rfl, fun h => absurd h (by decide)⟩, hR, FS.refl _ _ _ _⟩ | exact ⟨⟨rfl, rfl, fun h => absurd h (by decide)⟩, hR, FS.refl _ _ _ _⟩
          | 13, _, ho =>
            clear hsk
            cases ho
            have e27 : ev (.tmp 27) = I (i : Int) := hs 27 (by kernel_rfl)
            go_simp
            first | exact ⟨rfl, hR, FS.refl _ _ _ _⟩ | exact ⟨⟨rfl, rfl⟩, hR, FS.refl _ _ _ _⟩ | exact ⟨⟨rfl, fun h => absurd h (by decide)⟩, hR, FS.refl _ _ _ _⟩ | exact ⟨⟨rfl, rfl, fun h => absurd h (by decide)⟩, hR, FS.refl _ _ _ _⟩
          | 14, _, ho =>
            clear hsk
            cases ho
            have e147 : ev (.tmp 147) = .slice (some ⟨b25, 0, none⟩) 3 3 := hd 12 147 (by kernel_rfl)
            have e148 : ev (.tmp 148) = I (i : Int) := hd 13 148 (by kernel_rfl)
            have hil : (i : Int) < 3 := by omega
            go_simp
            first | exact ⟨rfl, hR, FS.refl _ _ _ _⟩ | exact ⟨⟨rfl, rfl⟩, hR, FS.refl _ _ _ _⟩ | exact ⟨⟨rfl, fun h => absurd h (by decide)⟩, hR, FS.refl _ _ _ _⟩ | exact ⟨⟨rfl, rfl, fun h => absurd h (by decide)⟩, hR, FS.refl _ _ _ _⟩
          | 15, _, ho =>
            clear hsk
            cases ho
            have e149 : ev (.tmp 149) = .pointer (some ⟨b25, i, none⟩) := hd 14 149 (by kernel_rfl)
            have m1 := (qf.grow hR).ct i hlt
            go_simp
            first | exact ⟨rfl, hR, FS.refl _ _ _ _⟩ | exact ⟨⟨rfl, rfl⟩, hR, FS.refl _ _ _ _⟩ | exact ⟨⟨rfl, fun h => absurd h (by decide)⟩, hR, FS.refl _ _ _ _⟩ | exact ⟨⟨rfl, rfl, fun h => absurd h (by decide)⟩, hR, FS.refl _ _ _ _⟩
          | 16, _, ho =>
            clear hsk
            cases ho
            have e138 : ev (.tmp 138) = .agg #[I (XS i).r, .slice (XS i).A (XS i).ws.length (XS i).c] := hd 3 138 (by kernel_rfl)
            have e142 : ev (.tmp 142) = .slice (XS i).B (XS i).sts.length (XS i).cb := hd 7 142 (by kernel_rfl)
            have e146 : ev (.tmp 146) = I (wi i) := hd 11 146 (by kernel_rfl)
            have e150 : ev (.tmp 150) = I (se i) := hd 15 150 (by kernel_rfl)
            go_simp
            refine (gapRR_c (XS i).r (XS i).A (XS i).B (XS i).c (XS i).cb (XS i).ws (XS i).sts (XS i).T1 (XS i).T2 w' ((qf.grow hR).ok i hlt).h1 ((qf.grow hR).ok i hlt).h2 ((qf.grow hR).ok i hlt).fit ((qf.grow hR).ok i hlt).l1 ((qf.grow hR).ok i hlt).c1 ((qf.grow hR).ok i hlt).l2 ((qf.grow hR).ok i hlt).c2 (wi i) (se i)).mono ?_
            rintro e wz ⟨rfl, hwz⟩
            first | exact ⟨rfl, hR.trans (hwz.mono hR.size), FS.below hwz⟩ | exact ⟨⟨rfl, rfl⟩, hR.trans (hwz.mono hR.size), FS.below hwz⟩ | exact ⟨⟨rfl, fun h => absurd h (by decide)⟩, hR.trans (hwz.mono hR.size), FS.below hwz⟩ | exact ⟨⟨rfl, rfl, fun h => absurd h (by decide)⟩, hR.trans (hwz.mono hR.size), FS.below hwz⟩
          | 17, _, ho =>
            clear hsk
            cases ho
            have e151 : ev (.tmp 151) = .tuple #[Sp (gaLo (XS i).r (XS i).ws (XS i).sts (wi i) (se i)) (gaHi (XS i).r (XS i).ws (XS i).sts (wi i) (se i)), I (gaE (XS i).r (XS i).ws (XS i).sts (wi i) (se i))] := hd 16 151 (by kernel_rfl)
            go_simp
            first | exact ⟨rfl, hR, FS.refl _ _ _ _⟩ | exact ⟨⟨rfl, rfl⟩, hR, FS.refl _ _ _ _⟩ | exact ⟨⟨rfl, fun h => absurd h (by decide)⟩, hR, FS.refl _ _ _ _⟩ | exact ⟨⟨rfl, rfl, fun h => absurd h (by decide)⟩, hR, FS.refl _ _ _ _⟩
          | 18, _, ho =>
            clear hsk
            cases ho
            have e134 : ev (.tmp 134) = .tuple #[Sp (gaLo (XS i).r (XS i).ws (XS i).sts (wi i) (se i)) (gaHi (XS i).r (XS i).ws (XS i).sts (wi i) (se i)), I (gaE (XS i).r (XS i).ws (XS i).sts (wi i) (se i))] := hd 17 134 (by kernel_rfl)
            go_simp
            first | exact ⟨rfl, hR, FS.refl _ _ _ _⟩ | exact ⟨⟨rfl, rfl⟩, hR, FS.refl _ _ _ _⟩ | exact ⟨⟨rfl, fun h => absurd h (by decide)⟩, hR, FS.refl _ _ _ _⟩ | exact ⟨⟨rfl, rfl, fun h => absurd h (by decide)⟩, hR, FS.refl _ _ _ _⟩
          | 19, _, ho =>
            clear hsk
            cases ho
            have e134 : ev (.tmp 134) = .tuple #[Sp (gaLo (XS i).r (XS i).ws (XS i).sts (wi i) (se i)) (gaHi (XS i).r (XS i).ws (XS i).sts (wi i) (se i)), I (gaE (XS i).r (XS i).ws (XS i).sts (wi i) (se i))] := hd 17 134 (by kernel_rfl)
            go_simp
            first | exact ⟨rfl, hR, FS.refl _ _ _ _⟩ | exact ⟨⟨rfl, rfl⟩, hR, FS.refl _ _ _ _⟩ | exact ⟨⟨rfl, fun h => absurd h (by decide)⟩, hR, FS.refl _ _ _ _⟩ | exact ⟨⟨rfl, rfl, fun h => absurd h (by decide)⟩, hR, FS.refl _ _ _ _⟩
          | 20, _, ho =>
            clear hsk
            cases ho
            go_simp
            first | exact ⟨⟨_, rfl, hR.size, (by simp), SpB.new _ _⟩, hR.alloc hR.size _, FS.below ((Below.refl _ _).alloc (Nat.le_refl _) _)⟩ | exact ⟨⟨rfl, ⟨_, rfl, hR.size, (by simp), SpB.new _ _⟩⟩, hR.alloc hR.size _, FS.below ((Below.refl _ _).alloc (Nat.le_refl _) _)⟩ | exact ⟨⟨⟨_, rfl, hR.size, (by simp), SpB.new _ _⟩, fun h => absurd h (by decide)⟩, hR.alloc hR.size _, FS.below ((Below.refl _ _).alloc (Nat.le_refl _) _)⟩ | exact ⟨⟨rfl, ⟨_, rfl, hR.size, (by simp), SpB.new _ _⟩, fun h => absurd h (by decide)⟩, hR.alloc hR.size _, FS.below ((Below.refl _ _).alloc (Nat.le_refl _) _)⟩
          | 21, _, ho =>
            clear hsk
            cases ho
            obtain ⟨bx, e30, hb1, hb2, hb3⟩ : ∃ b, ev (.tmp 30) = .pointer (some ⟨b, 0, none⟩) ∧ wa.heap.size ≤ b ∧ some b ≠ Option.none ∧ SpB (P0 (fun x' y' : Int => x' = gaLo (XS i).r (XS i).ws (XS i).sts (wi i) (se i) ∧ y' = gaHi (XS i).r (XS i).ws (XS i).sts (wi i) (se i))) w' b := hd 20 30 (by kernel_rfl)
            have e152 : ev (.tmp 152) = Sp (gaLo (XS i).r (XS i).ws (XS i).sts (wi i) (se i)) (gaHi (XS i).r (XS i).ws (XS i).sts (wi i) (se i)) := hd 18 152 (by kernel_rfl)
            obtain ⟨x0, y0, _, hbx⟩ := hb3
            have hcx := hbx.cell
            have hfx := hbx.free
            go_simp
            have hP : (fun x' y' : Int => x' = gaLo (XS i).r (XS i).ws (XS i).sts (wi i) (se i) ∧ y' = gaHi (XS i).r (XS i).ws (XS i).sts (wi i) (se i)) _ _ := ⟨rfl, rfl⟩
            have hin : SpB (P0 (fun x' y' : Int => x' = gaLo (XS i).r (XS i).ws (XS i).sts (wi i) (se i) ∧ y' = gaHi (XS i).r (XS i).ws (XS i).sts (wi i) (se i))) w' bx := ⟨x0, y0, ‹_›, hbx⟩
            first | exact ⟨⟨rfl, fun t ht => (by cases ht; exact ⟨bx, e30, hb1, hb2, hin.put hP⟩)⟩, below_put hR hb1 _ _, FS.put hb1 hin hP⟩ | exact ⟨fun t ht => (by cases ht; exact ⟨bx, e30, hb1, hb2, hin.put hP⟩), below_put hR hb1 _ _, FS.put hb1 hin hP⟩
          | 22, _, ho =>
            clear hsk
            cases ho
            have e153 : ev (.tmp 153) = I (gaE (XS i).r (XS i).ws (XS i).sts (wi i) (se i)) := hd 19 153 (by kernel_rfl)
            go_simp
            first | exact ⟨rfl, hR, FS.refl _ _ _ _⟩ | exact ⟨⟨rfl, rfl⟩, hR, FS.refl _ _ _ _⟩ | exact ⟨⟨rfl, fun h => absurd h (by decide)⟩, hR, FS.refl _ _ _ _⟩ | exact ⟨⟨rfl, rfl, fun h => absurd h (by decide)⟩, hR, FS.refl _ _ _ _⟩
          | n + 23, hi, _ => exact absurd hi (by simp)
        intro ρ wb hR hρ hne K hK
        have p22 : ρ 22 = I (gaE (XS i).r (XS i).ws (XS i).sts (wi i) (se i)) := hρ 22 (by simp)
        obtain ⟨qb, p20, _, _, _, _, ⟨rfl, rfl⟩, xb⟩ : ∃ b, ρ 20 = .pointer (some ⟨b, 0, none⟩) ∧ wa.heap.size ≤ b ∧ some b ≠ Option.none ∧ SpB (fun x' y' : Int => x' = gaLo (XS i).r (XS i).ws (XS i).sts (wi i) (se i) ∧ y' = gaHi (XS i).r (XS i).ws (XS i).sts (wi i) (se i)) wb b := hρ 21 (by simp)
        show K (putAll _ _ ρ 23) _
        simp only [putAll, dOf, List.getElem?_toArray, List.getElem?_cons_zero, List.getElem?_cons_succ, Option.bind_some, Act.put, List.setIfInBounds_toArray, List.set_cons_zero, List.set_cons_succ]
        rw [p20, p22]
        refine hK _ _ ?_
        change wpList _ _ _ [] _ _
        clear hK K p20 p22 hρ hne
        have qf := qf.grow hR
        have xa := xa.below hR xa.lt
        clear hR
        go_wp2_with fail
        refine wp_region_list_s (by kernel_rfl) (R := RB wb.heap.size wb) (F := FB) [] [] []
            [As.is _ _ (.slice (some ⟨b22, 0, none⟩) 3 3),
            As.is _ _ (I (i : Int)),
            As.is _ _ (.pointer (some ⟨b22, i * 2, none⟩)),
            As.is _ _ (.agg #[I (XS i).r, .slice (XS i).A (XS i).ws.length (XS i).c]),
            As.is _ _ (.slice (some ⟨b23, 0, none⟩) 3 3),
            As.is _ _ (I (i : Int)),
            As.is _ _ (.pointer (some ⟨b23, i, none⟩)),
            As.is _ _ (.slice (XS i).B (XS i).sts.length (XS i).cb),
            As.is _ _ (.slice (some ⟨b26, 0, none⟩) 3 3),
            As.is _ _ (I (i : Int)),
            As.is _ _ (.pointer (some ⟨b26, i * 3, none⟩)),
            As.is _ _ (.agg #[I (ua i), I (ub i), I (ug i)]),
            asPair _ (opR (XS i).r (XS i).ws (XS i).sts (ua i) (ub i) (ug i)) (laE (XS i).r (XS i).ws (XS i).sts (ua i) (ub i) (ug i)),
            asPair _ (opR (XS i).r (XS i).ws (XS i).sts (ua i) (ub i) (ug i)) (laE (XS i).r (XS i).ws (XS i).sts (ua i) (ub i) (ug i)),
            asSl _ (opR (XS i).r (XS i).ws (XS i).sts (ua i) (ub i) (ug i)),
            As.is _ _ (I (laE (XS i).r (XS i).ws (XS i).sts (ua i) (ub i) (ug i))),
            asSl _ (opR (XS i).r (XS i).ws (XS i).sts (ua i) (ub i) (ug i)),
            As.is _ _ (I (laE (XS i).r (XS i).ws (XS i).sts (ua i) (ub i) (ug i)))] 254 (by kernel_rfl) rfl ((Below.refl _ _).drew) (by simp) (by simp) ?_ (fun _ => Below.refl _ _) ?_ ?_ ?_
        · intro i' hi' o' ho k' b' hg u w' hR hu
          match i', hi', ho with
          | 0, _, ho => cases ho; cases hg
          | 1, _, ho => cases ho; cases hg
          | 2, _, ho => cases ho; cases hg
          | 3, _, ho => cases ho; cases hg
          | 4, _, ho => cases ho; cases hg
          | 5, _, ho => cases ho; cases hg
          | 6, _, ho => cases ho; cases hg
          | 7, _, ho => cases ho; cases hg
          | 8, _, ho => cases ho; cases hg
          | 9, _, ho => cases ho; cases hg
          | 10, _, ho => cases ho; cases hg
          | 11, _, ho => cases ho; cases hg
          | 12, _, ho => cases ho; cases hg
          | 13, _, ho => cases ho; cases hg
          | 14, _, ho => cases ho; cases hg
          | 15, _, ho => cases ho; cases hg
          | 16, _, ho => cases ho; cases hg
          | 17, _, ho => cases ho; cases hg
          | n + 18, hi, _ => exact absurd hi (by simp)
        · intro i' hi' hsk; cases hsk
        · intro i' hi' hsk o' ho ev w' hR hc hf hg hs hd
          match i', hi', ho with
          | 0, _, ho =>
            clear hsk
            cases ho
            have e22 : ev (.tmp 22) = .slice (some ⟨b22, 0, none⟩) 3 3 := hs 22 (by kernel_rfl)
            go_simp
            first | exact ⟨rfl, hR, Below.refl _ _⟩ | exact ⟨⟨rfl, rfl⟩, hR, Below.refl _ _⟩ | exact ⟨⟨rfl, fun h => absurd h (by decide)⟩, hR, Below.refl _ _⟩ | exact ⟨⟨rfl, rfl, fun h => absurd h (by decide)⟩, hR, Below.refl _ _⟩
          | 1, _, ho =>
            clear hsk
            cases ho
            have e27 : ev (.tmp 27) = I (i : Int) := hs 27 (by kernel_rfl)
            go_simp
            first | exact ⟨rfl, hR, Below.refl _ _⟩ | exact ⟨⟨rfl, rfl⟩, hR, Below.refl _ _⟩ | exact ⟨⟨rfl, fun h => absurd h (by decide)⟩, hR, Below.refl _ _⟩ | exact ⟨⟨rfl, rfl, fun h => absurd h (by decide)⟩, hR, Below.refl _ _⟩
          | 2, _, ho =>
            clear hsk
            cases ho
            have e155 : ev (.tmp 155) = .slice (some ⟨b22, 0, none⟩) 3 3 := hd 0 155 (by kernel_rfl)
            have e156 : ev (.tmp 156) = I (i : Int) := hd 1 156 (by kernel_rfl)
            have hil : (i : Int) < 3 := by omega
            go_simp
            first | exact ⟨rfl, hR, Below.refl _ _⟩ | exact ⟨⟨rfl, rfl⟩, hR, Below.refl _ _⟩ | exact ⟨⟨rfl, fun h => absurd h (by decide)⟩, hR, Below.refl _ _⟩ | exact ⟨⟨rfl, rfl, fun h => absurd h (by decide)⟩, hR, Below.refl _ _⟩
          | 3, _, ho =>
            clear hsk
            cases ho
            have e157 : ev (.tmp 157) = .pointer (some ⟨b22, i * 2, none⟩) := hd 2 157 (by kernel_rfl)
            have m1 := (qf.grow hR).cr i hlt
            have m2 := (qf.grow hR).cs i hlt
            go_simp
            first | exact ⟨rfl, hR, Below.refl _ _⟩ | exact ⟨⟨rfl, rfl⟩, hR, Below.refl _ _⟩ | exact ⟨⟨rfl, fun h => absurd h (by decide)⟩, hR, Below.refl _ _⟩ | exact ⟨⟨rfl, rfl, fun h => absurd h (by decide)⟩, hR, Below.refl _ _⟩
          | 4, _, ho =>
            clear hsk
            cases ho
            have e23 : ev (.tmp 23) = .slice (some ⟨b23, 0, none⟩) 3 3 := hs 23 (by kernel_rfl)
            go_simp
            first | exact ⟨rfl, hR, Below.refl _ _⟩ | exact ⟨⟨rfl, rfl⟩, hR, Below.refl _ _⟩ | exact ⟨⟨rfl, fun h => absurd h (by decide)⟩, hR, Below.refl _ _⟩ | exact ⟨⟨rfl, rfl, fun h => absurd h (by decide)⟩, hR, Below.refl _ _⟩
          | 5, _, ho =>
            clear hsk
            cases ho
            have e27 : ev (.tmp 27) = I (i : Int) := hs 27 (by kernel_rfl)
            go_simp
            first | exact ⟨rfl, hR, Below.refl _ _⟩ | exact ⟨⟨rfl, rfl⟩, hR, Below.refl _ _⟩ | exact ⟨⟨rfl, fun h => absurd h (by decide)⟩, hR, Below.refl _ _⟩ | exact ⟨⟨rfl, rfl, fun h => absurd h (by decide)⟩, hR, Below.refl _ _⟩
          | 6, _, ho =>
            clear hsk
            cases ho
            have e159 : ev (.tmp 159) = .slice (some ⟨b23, 0, none⟩) 3 3 := hd 4 159 (by kernel_rfl)
            have e160 : ev (.tmp 160) = I (i : Int) := hd 5 160 (by kernel_rfl)
            have hil : (i : Int) < 3 := by omega
            go_simp
            first | exact ⟨rfl, hR, Below.refl _ _⟩ | exact ⟨⟨rfl, rfl⟩, hR, Below.refl _ _⟩ | exact ⟨⟨rfl, fun h => absurd h (by decide)⟩, hR, Below.refl _ _⟩ | exact ⟨⟨rfl, rfl, fun h => absurd h (by decide)⟩, hR, Below.refl _ _⟩
          | 7, _, ho =>
            clear hsk
            cases ho
            have e161 : ev (.tmp 161) = .pointer (some ⟨b23, i, none⟩) := hd 6 161 (by kernel_rfl)
            have m1 := (qf.grow hR).cl i hlt
            go_simp
            first | exact ⟨rfl, hR, Below.refl _ _⟩ | exact ⟨⟨rfl, rfl⟩, hR, Below.refl _ _⟩ | exact ⟨⟨rfl, fun h => absurd h (by decide)⟩, hR, Below.refl _ _⟩ | exact ⟨⟨rfl, rfl, fun h => absurd h (by decide)⟩, hR, Below.refl _ _⟩
          | 8, _, ho =>
            clear hsk
            cases ho
            have e26 : ev (.tmp 26) = .slice (some ⟨b26, 0, none⟩) 3 3 := hs 26 (by kernel_rfl)
            go_simp
            first | exact ⟨rfl, hR, Below.refl _ _⟩ | exact ⟨⟨rfl, rfl⟩, hR, Below.refl _ _⟩ | exact ⟨⟨rfl, fun h => absurd h (by decide)⟩, hR, Below.refl _ _⟩ | exact ⟨⟨rfl, rfl, fun h => absurd h (by decide)⟩, hR, Below.refl _ _⟩
          | 9, _, ho =>
            clear hsk
            cases ho
            have e27 : ev (.tmp 27) = I (i : Int) := hs 27 (by kernel_rfl)
            go_simp
            first | exact ⟨rfl, hR, Below.refl _ _⟩ | exact ⟨⟨rfl, rfl⟩, hR, Below.refl _ _⟩ | exact ⟨⟨rfl, fun h => absurd h (by decide)⟩, hR, Below.refl _ _⟩ | exact ⟨⟨rfl, rfl, fun h => absurd h (by decide)⟩, hR, Below.refl _ _⟩
          | 10, _, ho =>
            clear hsk
            cases ho
            have e163 : ev (.tmp 163) = .slice (some ⟨b26, 0, none⟩) 3 3 := hd 8 163 (by kernel_rfl)
            have e164 : ev (.tmp 164) = I (i : Int) := hd 9 164 (by kernel_rfl)
            have hil : (i : Int) < 3 := by omega
            go_simp
            first | exact ⟨rfl, hR, Below.refl _ _⟩ | exact ⟨⟨rfl, rfl⟩, hR, Below.refl _ _⟩ | exact ⟨⟨rfl, fun h => absurd h (by decide)⟩, hR, Below.refl _ _⟩ | exact ⟨⟨rfl, rfl, fun h => absurd h (by decide)⟩, hR, Below.refl _ _⟩
          | 11, _, ho =>
            clear hsk
            cases ho
            have e165 : ev (.tmp 165) = .pointer (some ⟨b26, i * 3, none⟩) := hd 10 165 (by kernel_rfl)
            have m1 := (qf.grow hR).ca i hlt
            have m2 := (qf.grow hR).cb i hlt
            have m3 := (qf.grow hR).cg i hlt
            go_simp
            first | exact ⟨rfl, hR, Below.refl _ _⟩ | exact ⟨⟨rfl, rfl⟩, hR, Below.refl _ _⟩ | exact ⟨⟨rfl, fun h => absurd h (by decide)⟩, hR, Below.refl _ _⟩ | exact ⟨⟨rfl, rfl, fun h => absurd h (by decide)⟩, hR, Below.refl _ _⟩
          | 12, _, ho =>
            clear hsk
            cases ho
            have e158 : ev (.tmp 158) = .agg #[I (XS i).r, .slice (XS i).A (XS i).ws.length (XS i).c] := hd 3 158 (by kernel_rfl)
            have e162 : ev (.tmp 162) = .slice (XS i).B (XS i).sts.length (XS i).cb := hd 7 162 (by kernel_rfl)
            have e166 : ev (.tmp 166) = .agg #[I (ua i), I (ub i), I (ug i)] := hd 11 166 (by kernel_rfl)
            go_simp
            refine (opensP_c (XS i).r (XS i).A (XS i).B (XS i).c (XS i).cb (XS i).ws (XS i).sts (XS i).T1 (XS i).T2 w' ((qf.grow hR).ok i hlt).h1 ((qf.grow hR).ok i hlt).h2 ((qf.grow hR).ok i hlt).fit ((qf.grow hR).ok i hlt).l1 ((qf.grow hR).ok i hlt).c1 ((qf.grow hR).ok i hlt).l2 ((qf.grow hR).ok i hlt).c2 (ua i) (ub i) (ug i)).mono ?_
            rintro e wz ⟨B', d', rfl, hsl, hwz⟩
            first | exact ⟨⟨B', d', rfl, hsl⟩, hR.trans (hwz.mono hR.size), hwz⟩ | exact ⟨⟨rfl, ⟨B', d', rfl, hsl⟩⟩, hR.trans (hwz.mono hR.size), hwz⟩ | exact ⟨⟨⟨B', d', rfl, hsl⟩, fun h => absurd h (by decide)⟩, hR.trans (hwz.mono hR.size), hwz⟩ | exact ⟨⟨rfl, ⟨B', d', rfl, hsl⟩, fun h => absurd h (by decide)⟩, hR.trans (hwz.mono hR.size), hwz⟩
          | 13, _, ho =>
            clear hsk
            cases ho
            obtain ⟨B', d', e167, hsl⟩ : ∃ B' d', ev (.tmp 167) = .tuple #[.slice B' (opR (XS i).r (XS i).ws (XS i).sts (ua i) (ub i) (ug i)).length d', I (laE (XS i).r (XS i).ws (XS i).sts (ua i) (ub i) (ug i))] ∧ SlI w' 3 B' (opR (XS i).r (XS i).ws (XS i).sts (ua i) (ub i) (ug i)) := hd 12 167 (by kernel_rfl)
            go_simp
            first | exact ⟨⟨B', d', rfl, hsl⟩, hR, Below.refl _ _⟩ | exact ⟨⟨rfl, ⟨B', d', rfl, hsl⟩⟩, hR, Below.refl _ _⟩ | exact ⟨⟨⟨B', d', rfl, hsl⟩, fun h => absurd h (by decide)⟩, hR, Below.refl _ _⟩ | exact ⟨⟨rfl, ⟨B', d', rfl, hsl⟩, fun h => absurd h (by decide)⟩, hR, Below.refl _ _⟩
          | 14, _, ho =>
            clear hsk
            cases ho
            obtain ⟨B', d', e154, hsl⟩ : ∃ B' d', ev (.tmp 154) = .tuple #[.slice B' (opR (XS i).r (XS i).ws (XS i).sts (ua i) (ub i) (ug i)).length d', I (laE (XS i).r (XS i).ws (XS i).sts (ua i) (ub i) (ug i))] ∧ SlI w' 3 B' (opR (XS i).r (XS i).ws (XS i).sts (ua i) (ub i) (ug i)) := hd 13 154 (by kernel_rfl)
            go_simp
            first | exact ⟨⟨B', d', rfl, hsl⟩, hR, Below.refl _ _⟩ | exact ⟨⟨rfl, ⟨B', d', rfl, hsl⟩⟩, hR, Below.refl _ _⟩ | exact ⟨⟨⟨B', d', rfl, hsl⟩, fun h => absurd h (by decide)⟩, hR, Below.refl _ _⟩ | exact ⟨⟨rfl, ⟨B', d', rfl, hsl⟩, fun h => absurd h (by decide)⟩, hR, Below.refl _ _⟩
          | 15, _, ho =>
            clear hsk
            cases ho
            obtain ⟨B', d', e154, hsl⟩ : ∃ B' d', ev (.tmp 154) = .tuple #[.slice B' (opR (XS i).r (XS i).ws (XS i).sts (ua i) (ub i) (ug i)).length d', I (laE (XS i).r (XS i).ws (XS i).sts (ua i) (ub i) (ug i))] ∧ SlI w' 3 B' (opR (XS i).r (XS i).ws (XS i).sts (ua i) (ub i) (ug i)) := hd 13 154 (by kernel_rfl)
            go_simp
            first | exact ⟨rfl, hR, Below.refl _ _⟩ | exact ⟨⟨rfl, rfl⟩, hR, Below.refl _ _⟩ | exact ⟨⟨rfl, fun h => absurd h (by decide)⟩, hR, Below.refl _ _⟩ | exact ⟨⟨rfl, rfl, fun h => absurd h (by decide)⟩, hR, Below.refl _ _⟩
          | 16, _, ho =>
            clear hsk
            cases ho
            obtain ⟨B', d', e168, hsl⟩ : ∃ B' d', ev (.tmp 168) = .slice B' (opR (XS i).r (XS i).ws (XS i).sts (ua i) (ub i) (ug i)).length d' ∧ SlI w' 3 B' (opR (XS i).r (XS i).ws (XS i).sts (ua i) (ub i) (ug i)) := hd 14 168 (by kernel_rfl)
            go_simp
            first | exact ⟨⟨B', d', rfl, hsl⟩, hR, Below.refl _ _⟩ | exact ⟨⟨rfl, ⟨B', d', rfl, hsl⟩⟩, hR, Below.refl _ _⟩ | exact ⟨⟨⟨B', d', rfl, hsl⟩, fun h => absurd h (by decide)⟩, hR, Below.refl _ _⟩ | exact ⟨⟨rfl, ⟨B', d', rfl, hsl⟩, fun h => absurd h (by decide)⟩, hR, Below.refl _ _⟩
          | 17, _, ho =>
            clear hsk
            cases ho
            have e169 : ev (.tmp 169) = I (laE (XS i).r (XS i).ws (XS i).sts (ua i) (ub i) (ug i)) := hd 15 169 (by kernel_rfl)
            go_simp
            first | exact ⟨rfl, hR, Below.refl _ _⟩ | exact ⟨⟨rfl, rfl⟩, hR, Below.refl _ _⟩ | exact ⟨⟨rfl, fun h => absurd h (by decide)⟩, hR, Below.refl _ _⟩ | exact ⟨⟨rfl, rfl, fun h => absurd h (by decide)⟩, hR, Below.refl _ _⟩
          | n + 18, hi, _ => exact absurd hi (by simp)
        intro ρ wd hR hρ hne K hK
        have p17 : ρ 17 = I (laE (XS i).r (XS i).ws (XS i).sts (ua i) (ub i) (ug i)) := hρ 17 (by simp)
        obtain ⟨Bl, dl, p16, hl⟩ : ∃ B' d', ρ 16 = .slice B' (opR (XS i).r (XS i).ws (XS i).sts (ua i) (ub i) (ug i)).length d' ∧ SlI wd 3 B' (opR (XS i).r (XS i).ws (XS i).sts (ua i) (ub i) (ug i)) := hρ 16 (by simp)
        show K (putAll _ _ ρ 18) _
        simp only [putAll, dOf, List.getElem?_toArray, List.getElem?_cons_zero, List.getElem?_cons_succ, Option.bind_some, Act.put, List.setIfInBounds_toArray, List.set_cons_zero, List.set_cons_succ]
        rw [p16, p17]
        refine hK _ _ ?_
        change wpList _ _ _ [] _ _
        clear hK K p16 p17 hρ hne
        have qf := qf.grow hR
        have xa := xa.below hR xa.lt
        have xb := xb.below hR xb.lt
        clear hR
        go_wp2_with fail
        refine wp_region_list_s (by kernel_rfl) (R := RB wd.heap.size wd) (F := FB) [] [] []
            [As.is _ _ (.slice (some ⟨b22, 0, none⟩) 3 3),
            As.is _ _ (I (i : Int)),
            As.is _ _ (.pointer (some ⟨b22, i * 2, none⟩)),
            As.is _ _ (.agg #[I (XS i).r, .slice (XS i).A (XS i).ws.length (XS i).c]),
            As.is _ _ (.slice (some ⟨b23, 0, none⟩) 3 3),
            As.is _ _ (I (i : Int)),
            As.is _ _ (.pointer (some ⟨b23, i, none⟩)),
            As.is _ _ (.slice (XS i).B (XS i).sts.length (XS i).cb),
            As.is _ _ (.slice (some ⟨b26, 0, none⟩) 3 3),
            As.is _ _ (I (i : Int)),
            As.is _ _ (.pointer (some ⟨b26, i * 3, none⟩)),
            As.is _ _ (.agg #[I (ua i), I (ub i), I (ug i)]),
            asPair _ (opR (XS i).r (XS i).ws (XS i).sts (ua i) (ub i) (ug i)) (laE (XS i).r (XS i).ws (XS i).sts (ua i) (ub i) (ug i)),
            asPair _ (opR (XS i).r (XS i).ws (XS i).sts (ua i) (ub i) (ug i)) (laE (XS i).r (XS i).ws (XS i).sts (ua i) (ub i) (ug i)),
            asSl _ (opR (XS i).r (XS i).ws (XS i).sts (ua i) (ub i) (ug i)),
            As.is _ _ (I (laE (XS i).r (XS i).ws (XS i).sts (ua i) (ub i) (ug i))),
            asSl _ (opR (XS i).r (XS i).ws (XS i).sts (ua i) (ub i) (ug i)),
            As.is _ _ (I (laE (XS i).r (XS i).ws (XS i).sts (ua i) (ub i) (ug i)))] 254 (by kernel_rfl) rfl ((Below.refl _ _).drew) (by simp) (by simp) ?_ (fun _ => Below.refl _ _) ?_ ?_ ?_
        · intro i' hi' o' ho k' b' hg u w' hR hu
          match i', hi', ho with
          | 0, _, ho => cases ho; cases hg
          | 1, _, ho => cases ho; cases hg
          | 2, _, ho => cases ho; cases hg
          | 3, _, ho => cases ho; cases hg
          | 4, _, ho => cases ho; cases hg
          | 5, _, ho => cases ho; cases hg
          | 6, _, ho => cases ho; cases hg
          | 7, _, ho => cases ho; cases hg
          | 8, _, ho => cases ho; cases hg
          | 9, _, ho => cases ho; cases hg
          | 10, _, ho => cases ho; cases hg
          | 11, _, ho => cases ho; cases hg
          | 12, _, ho => cases ho; cases hg
          | 13, _, ho => cases ho; cases hg
          | 14, _, ho => cases ho; cases hg
          | 15, _, ho => cases ho; cases hg
          | 16, _, ho => cases ho; cases hg
          | 17, _, ho => cases ho; cases hg
          | n + 18, hi, _ => exact absurd hi (by simp)
        · intro i' hi' hsk; cases hsk
        · intro i' hi' hsk o' ho ev w' hR hc hf hg hs hd
          match i', hi', ho with
          | 0, _, ho =>
            clear hsk
            cases ho
            have e22 : ev (.tmp 22) = .slice (some ⟨b22, 0, none⟩) 3 3 := hs 22 (by kernel_rfl)
            go_simp
            first | exact ⟨rfl, hR, Below.refl _ _⟩ | exact ⟨⟨rfl, rfl⟩, hR, Below.refl _ _⟩ | exact ⟨⟨rfl, fun h => absurd h (by decide)⟩, hR, Below.refl _ _⟩ | exact ⟨⟨rfl, rfl, fun h => absurd h (by decide)⟩, hR, Below.refl _ _⟩
          | 1, _, ho =>
            clear hsk
            cases ho
            have e27 : ev (.tmp 27) = I (i : Int) := hs 27 (by kernel_rfl)
            go_simp
            first | exact ⟨rfl, hR, Below.refl _ _⟩ | exact ⟨⟨rfl, rfl⟩, hR, Below.refl _ _⟩ | exact ⟨⟨rfl, fun h => absurd h (by decide)⟩, hR, Below.refl _ _⟩ | exact ⟨⟨rfl, rfl, fun h => absurd h (by decide)⟩, hR, Below.refl _ _⟩
          | 2, _, ho =>
            clear hsk
            cases ho
            have e171 : ev (.tmp 171) = .slice (some ⟨b22, 0, none⟩) 3 3 := hd 0 171 (by kernel_rfl)
            have e172 : ev (.tmp 172) = I (i : Int) := hd 1 172 (by kernel_rfl)
            have hil : (i : Int) < 3 := by omega
            go_simp
            first | exact ⟨rfl, hR, Below.refl _ _⟩ | exact ⟨⟨rfl, rfl⟩, hR, Below.refl _ _⟩ | exact ⟨⟨rfl, fun h => absurd h (by decide)⟩, hR, Below.refl _ _⟩ | exact ⟨⟨rfl, rfl, fun h => absurd h (by decide)⟩, hR, Below.refl _ _⟩
          | 3, _, ho =>
            clear hsk
            cases ho
            have e173 : ev (.tmp 173) = .pointer (some ⟨b22, i * 2, none⟩) := hd 2 173 (by kernel_rfl)
            have m1 := (qf.grow hR).cr i hlt
            have m2 := (qf.grow hR).cs i hlt
            go_simp
            first | exact ⟨rfl, hR, Below.refl _ _⟩ | exact ⟨⟨rfl, rfl⟩, hR, Below.refl _ _⟩ | exact ⟨⟨rfl, fun h => absurd h (by decide)⟩, hR, Below.refl _ _⟩ | exact ⟨⟨rfl, rfl, fun h => absurd h (by decide)⟩, hR, Below.refl _ _⟩
          | 4, _, ho =>
            clear hsk
            cases ho
            have e23 : ev (.tmp 23) = .slice (some ⟨b23, 0, none⟩) 3 3 := hs 23 (by kernel_rfl)
            go_simp
            first | exact ⟨rfl, hR, Below.refl _ _⟩ | exact ⟨⟨rfl, rfl⟩, hR, Below.refl _ _⟩ | exact ⟨⟨rfl, fun h => absurd h (by decide)⟩, hR, Below.refl _ _⟩ | exact ⟨⟨rfl, rfl, fun h => absurd h (by decide)⟩, hR, Below.refl _ _⟩
          | 5, _, ho =>
            clear hsk
            cases ho
            have e27 : ev (.tmp 27) = I (i : Int) := hs 27 (by kernel_rfl)
            go_simp
            first | exact ⟨rfl, hR, Below.refl _ _⟩ | exact ⟨⟨rfl, rfl⟩, hR, Below.refl _ _⟩ | exact ⟨⟨rfl, fun h => absurd h (by decide)⟩, hR, Below.refl _ _⟩ | exact ⟨⟨rfl, rfl, fun h => absurd h (by decide)⟩, hR, Below.refl _ _⟩
          | 6, _, ho =>
            clear hsk
            cases ho
            have e175 : ev (.tmp 175) = .slice (some ⟨b23, 0, none⟩) 3 3 := hd 4 175 (by kernel_rfl)
            have e176 : ev (.tmp 176) = I (i : Int) := hd 5 176 (by kernel_rfl)
            have hil : (i : Int) < 3 := by omega
            go_simp
            first | exact ⟨rfl, hR, Below.refl _ _⟩ | exact ⟨⟨rfl, rfl⟩, hR, Below.refl _ _⟩ | exact ⟨⟨rfl, fun h => absurd h (by decide)⟩, hR, Below.refl _ _⟩ | exact ⟨⟨rfl, rfl, fun h => absurd h (by decide)⟩, hR, Below.refl _ _⟩
          | 7, _, ho =>
            clear hsk
            cases ho
            have e177 : ev (.tmp 177) = .pointer (some ⟨b23, i, none⟩) := hd 6 177 (by kernel_rfl)
            have m1 := (qf.grow hR).cl i hlt
            go_simp
            first | exact ⟨rfl, hR, Below.refl _ _⟩ | exact ⟨⟨rfl, rfl⟩, hR, Below.refl _ _⟩ | exact ⟨⟨rfl, fun h => absurd h (by decide)⟩, hR, Below.refl _ _⟩ | exact ⟨⟨rfl, rfl, fun h => absurd h (by decide)⟩, hR, Below.refl _ _⟩
          | 8, _, ho =>
            clear hsk
            cases ho
            have e26 : ev (.tmp 26) = .slice (some ⟨b26, 0, none⟩) 3 3 := hs 26 (by kernel_rfl)
            go_simp
            first | exact ⟨rfl, hR, Below.refl _ _⟩ | exact ⟨⟨rfl, rfl⟩, hR, Below.refl _ _⟩ | exact ⟨⟨rfl, fun h => absurd h (by decide)⟩, hR, Below.refl _ _⟩ | exact ⟨⟨rfl, rfl, fun h => absurd h (by decide)⟩, hR, Below.refl _ _⟩
          | 9, _, ho =>
            clear hsk
            cases ho
            have e27 : ev (.tmp 27) = I (i : Int) := hs 27 (by kernel_rfl)
            go_simp
            first | exact ⟨rfl, hR, Below.refl _ _⟩ | exact ⟨⟨rfl, rfl⟩, hR, Below.refl _ _⟩ | exact ⟨⟨rfl, fun h => absurd h (by decide)⟩, hR, Below.refl _ _⟩ | exact ⟨⟨rfl, rfl, fun h => absurd h (by decide)⟩, hR, Below.refl _ _⟩
          | 10, _, ho =>
            clear hsk
            cases ho
            have e179 : ev (.tmp 179) = .slice (some ⟨b26, 0, none⟩) 3 3 := hd 8 179 (by kernel_rfl)
            have e180 : ev (.tmp 180) = I (i : Int) := hd 9 180 (by kernel_rfl)
            have hil : (i : Int) < 3 := by omega
            go_simp
            first | exact ⟨rfl, hR, Below.refl _ _⟩ | exact ⟨⟨rfl, rfl⟩, hR, Below.refl _ _⟩ | exact ⟨⟨rfl, fun h => absurd h (by decide)⟩, hR, Below.refl _ _⟩ | exact ⟨⟨rfl, rfl, fun h => absurd h (by decide)⟩, hR, Below.refl _ _⟩
          | 11, _, ho =>
            clear hsk
            cases ho
            have e181 : ev (.tmp 181) = .pointer (some ⟨b26, i * 3, none⟩) := hd 10 181 (by kernel_rfl)
            have m1 := (qf.grow hR).ca i hlt
            have m2 := (qf.grow hR).cb i hlt
            have m3 := (qf.grow hR).cg i hlt
            go_simp
            first | exact ⟨rfl, hR, Below.refl _ _⟩ | exact ⟨⟨rfl, rfl⟩, hR, Below.refl _ _⟩ | exact ⟨⟨rfl, fun h => absurd h (by decide)⟩, hR, Below.refl _ _⟩ | exact ⟨⟨rfl, rfl, fun h => absurd h (by decide)⟩, hR, Below.refl _ _⟩
          | 12, _, ho =>
            clear hsk
            cases ho
            have e174 : ev (.tmp 174) = .agg #[I (XS i).r, .slice (XS i).A (XS i).ws.length (XS i).c] := hd 3 174 (by kernel_rfl)
            have e178 : ev (.tmp 178) = .slice (XS i).B (XS i).sts.length (XS i).cb := hd 7 178 (by kernel_rfl)
            have e182 : ev (.tmp 182) = .agg #[I (ua i), I (ub i), I (ug i)] := hd 11 182 (by kernel_rfl)
            go_simp
            refine (opensRR_c (XS i).r (XS i).A (XS i).B (XS i).c (XS i).cb (XS i).ws (XS i).sts (XS i).T1 (XS i).T2 w' ((qf.grow hR).ok i hlt).h1 ((qf.grow hR).ok i hlt).h2 ((qf.grow hR).ok i hlt).fit ((qf.grow hR).ok i hlt).l1 ((qf.grow hR).ok i hlt).c1 ((qf.grow hR).ok i hlt).l2 ((qf.grow hR).ok i hlt).c2 (ua i) (ub i) (ug i)).mono ?_
            rintro e wz ⟨B', d', rfl, hsl, hwz⟩
            first | exact ⟨⟨B', d', rfl, hsl⟩, hR.trans (hwz.mono hR.size), hwz⟩ | exact ⟨⟨rfl, ⟨B', d', rfl, hsl⟩⟩, hR.trans (hwz.mono hR.size), hwz⟩ | exact ⟨⟨⟨B', d', rfl, hsl⟩, fun h => absurd h (by decide)⟩, hR.trans (hwz.mono hR.size), hwz⟩ | exact ⟨⟨rfl, ⟨B', d', rfl, hsl⟩, fun h => absurd h (by decide)⟩, hR.trans (hwz.mono hR.size), hwz⟩
          | 13, _, ho =>
            clear hsk
            cases ho
            obtain ⟨B', d', e183, hsl⟩ : ∃ B' d', ev (.tmp 183) = .tuple #[.slice B' (opR (XS i).r (XS i).ws (XS i).sts (ua i) (ub i) (ug i)).length d', I (laE (XS i).r (XS i).ws (XS i).sts (ua i) (ub i) (ug i))] ∧ SlI w' 3 B' (opR (XS i).r (XS i).ws (XS i).sts (ua i) (ub i) (ug i)) := hd 12 183 (by kernel_rfl)
            go_simp
            first | exact ⟨⟨B', d', rfl, hsl⟩, hR, Below.refl _ _⟩ | exact ⟨⟨rfl, ⟨B', d', rfl, hsl⟩⟩, hR, Below.refl _ _⟩ | exact ⟨⟨⟨B', d', rfl, hsl⟩, fun h => absurd h (by decide)⟩, hR, Below.refl _ _⟩ | exact ⟨⟨rfl, ⟨B', d', rfl, hsl⟩, fun h => absurd h (by decide)⟩, hR, Below.refl _ _⟩
          | 14, _, ho =>
            clear hsk
            cases ho
            obtain ⟨B', d', e170, hsl⟩ : ∃ B' d', ev (.tmp 170) = .tuple #[.slice B' (opR (XS i).r (XS i).ws (XS i).sts (ua i) (ub i) (ug i)).length d', I (laE (XS i).r (XS i).ws (XS i).sts (ua i) (ub i) (ug i))] ∧ SlI w' 3 B' (opR (XS i).r (XS i).ws (XS i).sts (ua i) (ub i) (ug i)) := hd 13 170 (by kernel_rfl)
            go_simp
            first | exact ⟨⟨B', d', rfl, hsl⟩, hR, Below.refl _ _⟩ | exact ⟨⟨rfl, ⟨B', d', rfl, hsl⟩⟩, hR, Below.refl _ _⟩ | exact ⟨⟨⟨B', d', rfl, hsl⟩, fun h => absurd h (by decide)⟩, hR, Below.refl _ _⟩ | exact ⟨⟨rfl, ⟨B', d', rfl, hsl⟩, fun h => absurd h (by decide)⟩, hR, Below.refl _ _⟩
          | 15, _, ho =>
            clear hsk
            cases ho
            obtain ⟨B', d', e170, hsl⟩ : ∃ B' d', ev (.tmp 170) = .tuple #[.slice B' (opR (XS i).r (XS i).ws (XS i).sts (ua i) (ub i) (ug i)).length d', I (laE (XS i).r (XS i).ws (XS i).sts (ua i) (ub i) (ug i))] ∧ SlI w' 3 B' (opR (XS i).r (XS i).ws (XS i).sts (ua i) (ub i) (ug i)) := hd 13 170 (by kernel_rfl)
            go_simp
            first | exact ⟨rfl, hR, Below.refl _ _⟩ | exact ⟨⟨rfl, rfl⟩, hR, Below.refl _ _⟩ | exact ⟨⟨rfl, fun h => absurd h (by decide)⟩, hR, Below.refl _ _⟩ | exact ⟨⟨rfl, rfl, fun h => absurd h (by decide)⟩, hR, Below.refl _ _⟩
          | 16, _, ho =>
            clear hsk
            cases ho
            obtain ⟨B', d', e184, hsl⟩ : ∃ B' d', ev (.tmp 184) = .slice B' (opR (XS i).r (XS i).ws (XS i).sts (ua i) (ub i) (ug i)).length d' ∧ SlI w' 3 B' (opR (XS i).r (XS i).ws (XS i).sts (ua i) (ub i) (ug i)) := hd 14 184 (by kernel_rfl)
            go_simp
            first | exact ⟨⟨B', d', rfl, hsl⟩, hR, Below.refl _ _⟩ | exact ⟨⟨rfl, ⟨B', d', rfl, hsl⟩⟩, hR, Below.refl _ _⟩ | exact ⟨⟨⟨B', d', rfl, hsl⟩, fun h => absurd h (by decide)⟩, hR, Below.refl _ _⟩ | exact ⟨⟨rfl, ⟨B', d', rfl, hsl⟩, fun h => absurd h (by decide)⟩, hR, Below.refl _ _⟩
          | 17, _, ho =>
            clear hsk
            cases ho
            have e185 : ev (.tmp 185) = I (laE (XS i).r (XS i).ws (XS i).sts (ua i) (ub i) (ug i)) := hd 15 185 (by kernel_rfl)
            go_simp
            first | exact ⟨rfl, hR, Below.refl _ _⟩ | exact ⟨⟨rfl, rfl⟩, hR, Below.refl _ _⟩ | exact ⟨⟨rfl, fun h => absurd h (by decide)⟩, hR, Below.refl _ _⟩ | exact ⟨⟨rfl, rfl, fun h => absurd h (by decide)⟩, hR, Below.refl _ _⟩
          | n + 18, hi, _ => exact absurd hi (by simp)
        intro ρ we_ hR hρ hne K hK
        have p17 : ρ 17 = I (laE (XS i).r (XS i).ws (XS i).sts (ua i) (ub i) (ug i)) := hρ 17 (by simp)
        obtain ⟨Bm, dm, p16, hm_⟩ : ∃ B' d', ρ 16 = .slice B' (opR (XS i).r (XS i).ws (XS i).sts (ua i) (ub i) (ug i)).length d' ∧ SlI we_ 3 B' (opR (XS i).r (XS i).ws (XS i).sts (ua i) (ub i) (ug i)) := hρ 16 (by simp)
        show K (putAll _ _ ρ 18) _
        simp only [putAll, dOf, List.getElem?_toArray, List.getElem?_cons_zero, List.getElem?_cons_succ, Option.bind_some, Act.put, List.setIfInBounds_toArray, List.set_cons_zero, List.set_cons_succ]
        rw [p16, p17]
        refine hK _ _ ?_
        change wpList _ _ _ [] _ _
        clear hK K p16 p17 hρ hne
        have qf := qf.grow hR
        have xa := xa.below hR xa.lt
        have xb := xb.below hR xb.lt
        have hl := Sl.below hl hR (Nat.le_refl _)
        clear hR
        go_wp2_with fail
        refine wp_region_list_s (by kernel_rfl) (R := RB we_.heap.size we_) (F := FB) [] [] []
            [As.is _ _ (.slice (some ⟨b22, 0, none⟩) 3 3),
            As.is _ _ (I (i : Int)),
            As.is _ _ (.pointer (some ⟨b22, i * 2, none⟩)),
            As.is _ _ (.agg #[I (XS i).r, .slice (XS i).A (XS i).ws.length (XS i).c]),
            As.is _ _ (.slice (some ⟨b23, 0, none⟩) 3 3),
            As.is _ _ (I (i : Int)),
            As.is _ _ (.pointer (some ⟨b23, i, none⟩)),
            As.is _ _ (.slice (XS i).B (XS i).sts.length (XS i).cb),
            As.is _ _ (.tuple #[I (wiE (XS i).r (XS i).ws (XS i).sts).1, I (wiE (XS i).r (XS i).ws (XS i).sts).2.1, I (wiE (XS i).r (XS i).ws (XS i).sts).2.2, I (cst (XS i).r (XS i).ws (XS i).sts)]),
            As.is _ _ (.tuple #[I (wiE (XS i).r (XS i).ws (XS i).sts).1, I (wiE (XS i).r (XS i).ws (XS i).sts).2.1, I (wiE (XS i).r (XS i).ws (XS i).sts).2.2, I (cst (XS i).r (XS i).ws (XS i).sts)]),
            As.is _ _ (I ((wiE (XS i).r (XS i).ws (XS i).sts).1)),
            As.is _ _ (I ((wiE (XS i).r (XS i).ws (XS i).sts).2.1)),
            As.is _ _ (I ((wiE (XS i).r (XS i).ws (XS i).sts).2.2)),
            As.is _ _ (I (cst (XS i).r (XS i).ws (XS i).sts)),
            As.is _ _ (I ((wiE (XS i).r (XS i).ws (XS i).sts).1)),
            As.is _ _ (I ((wiE (XS i).r (XS i).ws (XS i).sts).2.1)),
            As.is _ _ (I ((wiE (XS i).r (XS i).ws (XS i).sts).2.2)),
            As.is _ _ (I (cst (XS i).r (XS i).ws (XS i).sts))] 254 (by kernel_rfl) rfl ((Below.refl _ _).drew) (by simp) (by simp) ?_ (fun _ => Below.refl _ _) ?_ ?_ ?_
        · intro i' hi' o' ho k' b' hg u w' hR hu
          match i', hi', ho with
          | 0, _, ho => cases ho; cases hg
          | 1, _, ho => cases ho; cases hg
          | 2, _, ho => cases ho; cases hg
          | 3, _, ho => cases ho; cases hg
          | 4, _, ho => cases ho; cases hg
          | 5, _, ho => cases ho; cases hg
          | 6, _, ho => cases ho; cases hg
          | 7, _, ho => cases ho; cases hg
          | 8, _, ho => cases ho; cases hg
          | 9, _, ho => cases ho; cases hg
          | 10, _, ho => cases ho; cases hg
          | 11, _, ho => cases ho; cases hg
          | 12, _, ho => cases ho; cases hg
          | 13, _, ho => cases ho; cases hg
          | 14, _, ho => cases ho; cases hg
          | 15, _, ho => cases ho; cases hg
          | 16, _, ho => cases ho; cases hg
          | 17, _, ho => cases ho; cases hg
          | n + 18, hi, _ => exact absurd hi (by simp)
        · intro i' hi' hsk; cases hsk
        · intro i' hi' hsk o' ho ev w' hR hc hf hg hs hd
          match i', hi', ho with
          | 0, _, ho =>
            clear hsk
            cases ho
            have e22 : ev (.tmp 22) = .slice (some ⟨b22, 0, none⟩) 3 3 := hs 22 (by kernel_rfl)
            go_simp
            first | exact ⟨rfl, hR, Below.refl _ _⟩ | exact ⟨⟨rfl, rfl⟩, hR, Below.refl _ _⟩ | exact ⟨⟨rfl, fun h => absurd h (by decide)⟩, hR, Below.refl _ _⟩ | exact ⟨⟨rfl, rfl, fun h => absurd h (by decide)⟩, hR, Below.refl _ _⟩
          | 1, _, ho =>
            clear hsk
            cases ho
            have e27 : ev (.tmp 27) = I (i : Int) := hs 27 (by kernel_rfl)
            go_simp
            first | exact ⟨rfl, hR, Below.refl _ _⟩ | exact ⟨⟨rfl, rfl⟩, hR, Below.refl _ _⟩ | exact ⟨⟨rfl, fun h => absurd h (by decide)⟩, hR, Below.refl _ _⟩ | exact ⟨⟨rfl, rfl, fun h => absurd h (by decide)⟩, hR, Below.refl _ _⟩
          | 2, _, ho =>
            clear hsk
            cases ho
            have e187 : ev (.tmp 187) = .slice (some ⟨b22, 0, none⟩) 3 3 := hd 0 187 (by kernel_rfl)
            have e188 : ev (.tmp 188) = I (i : Int) := hd 1 188 (by kernel_rfl)
            have hil : (i : Int) < 3 := by omega
            go_simp
            first | exact ⟨rfl, hR, Below.refl _ _⟩ | exact ⟨⟨rfl, rfl⟩, hR, Below.refl _ _⟩ | exact ⟨⟨rfl, fun h => absurd h (by decide)⟩, hR, Below.refl _ _⟩ | exact ⟨⟨rfl, rfl, fun h => absurd h (by decide)⟩, hR, Below.refl _ _⟩
          | 3, _, ho =>
            clear hsk
            cases ho
            have e189 : ev (.tmp 189) = .pointer (some ⟨b22, i * 2, none⟩) := hd 2 189 (by kernel_rfl)
            have m1 := (qf.grow hR).cr i hlt
            have m2 := (qf.grow hR).cs i hlt
            go_simp
            first | exact ⟨rfl, hR, Below.refl _ _⟩ | exact ⟨⟨rfl, rfl⟩, hR, Below.refl _ _⟩ | exact ⟨⟨rfl, fun h => absurd h (by decide)⟩, hR, Below.refl _ _⟩ | exact ⟨⟨rfl, rfl, fun h => absurd h (by decide)⟩, hR, Below.refl _ _⟩
          | 4, _, ho =>
            clear hsk
            cases ho
            have e23 : ev (.tmp 23) = .slice (some ⟨b23, 0, none⟩) 3 3 := hs 23 (by kernel_rfl)
            go_simp
            first | exact ⟨rfl, hR, Below.refl _ _⟩ | exact ⟨⟨rfl, rfl⟩, hR, Below.refl _ _⟩ | exact ⟨⟨rfl, fun h => absurd h (by decide)⟩, hR, Below.refl _ _⟩ | exact ⟨⟨rfl, rfl, fun h => absurd h (by decide)⟩, hR, Below.refl _ _⟩
          | 5, _, ho =>
            clear hsk
            cases ho
            have e27 : ev (.tmp 27) = I (i : Int) := hs 27 (by kernel_rfl)
            go_simp
            first | exact ⟨rfl, hR, Below.refl _ _⟩ | exact ⟨⟨rfl, rfl⟩, hR, Below.refl _ _⟩ | exact ⟨⟨rfl, fun h => absurd h (by decide)⟩, hR, Below.refl _ _⟩ | exact ⟨⟨rfl, rfl, fun h => absurd h (by decide)⟩, hR, Below.refl _ _⟩
          | 6, _, ho =>
            clear hsk
            cases ho
            have e191 : ev (.tmp 191) = .slice (some ⟨b23, 0, none⟩) 3 3 := hd 4 191 (by kernel_rfl)
            have e192 : ev (.tmp 192) = I (i : Int) := hd 5 192 (by kernel_rfl)
            have hil : (i : Int) < 3 := by omega
            go_simp
            first | exact ⟨rfl, hR, Below.refl _ _⟩ | exact ⟨⟨rfl, rfl⟩, hR, Below.refl _ _⟩ | exact ⟨⟨rfl, fun h => absurd h (by decide)⟩, hR, Below.refl _ _⟩ | exact ⟨⟨rfl, rfl, fun h => absurd h (by decide)⟩, hR, Below.refl _ _⟩
          | 7, _, ho =>
            clear hsk
            cases ho
            have e193 : ev (.tmp 193) = .pointer (some ⟨b23, i, none⟩) := hd 6 193 (by kernel_rfl)
            have m1 := (qf.grow hR).cl i hlt
            go_simp
            first | exact ⟨rfl, hR, Below.refl _ _⟩ | exact ⟨⟨rfl, rfl⟩, hR, Below.refl _ _⟩ | exact ⟨⟨rfl, fun h => absurd h (by decide)⟩, hR, Below.refl _ _⟩ | exact ⟨⟨rfl, rfl, fun h => absurd h (by decide)⟩, hR, Below.refl _ _⟩
          | 8, _, ho =>
            clear hsk
            cases ho
            have e190 : ev (.tmp 190) = .agg #[I (XS i).r, .slice (XS i).A (XS i).ws.length (XS i).c] := hd 3 190 (by kernel_rfl)
            have e194 : ev (.tmp 194) = .slice (XS i).B (XS i).sts.length (XS i).cb := hd 7 194 (by kernel_rfl)
            go_simp
            refine (widestPP_c (XS i).r (XS i).A (XS i).B (XS i).c (XS i).cb (XS i).ws (XS i).sts (XS i).T1 (XS i).T2 w' ((qf.grow hR).ok i hlt).h1 ((qf.grow hR).ok i hlt).h2 ((qf.grow hR).ok i hlt).fit ((qf.grow hR).ok i hlt).l1 ((qf.grow hR).ok i hlt).c1 ((qf.grow hR).ok i hlt).l2 ((qf.grow hR).ok i hlt).c2).mono ?_
            rintro e wz ⟨rfl, hwz⟩
            first | exact ⟨rfl, hR.trans (hwz.mono hR.size), hwz⟩ | exact ⟨⟨rfl, rfl⟩, hR.trans (hwz.mono hR.size), hwz⟩ | exact ⟨⟨rfl, fun h => absurd h (by decide)⟩, hR.trans (hwz.mono hR.size), hwz⟩ | exact ⟨⟨rfl, rfl, fun h => absurd h (by decide)⟩, hR.trans (hwz.mono hR.size), hwz⟩
          | 9, _, ho =>
            clear hsk
            cases ho
            have e195 : ev (.tmp 195) = .tuple #[I (wiE (XS i).r (XS i).ws (XS i).sts).1, I (wiE (XS i).r (XS i).ws (XS i).sts).2.1, I (wiE (XS i).r (XS i).ws (XS i).sts).2.2, I (cst (XS i).r (XS i).ws (XS i).sts)] := hd 8 195 (by kernel_rfl)
            go_simp
            first | exact ⟨rfl, hR, Below.refl _ _⟩ | exact ⟨⟨rfl, rfl⟩, hR, Below.refl _ _⟩ | exact ⟨⟨rfl, fun h => absurd h (by decide)⟩, hR, Below.refl _ _⟩ | exact ⟨⟨rfl, rfl, fun h => absurd h (by decide)⟩, hR, Below.refl _ _⟩
          | 10, _, ho =>
            clear hsk
            cases ho
            have e186 : ev (.tmp 186) = .tuple #[I (wiE (XS i).r (XS i).ws (XS i).sts).1, I (wiE (XS i).r (XS i).ws (XS i).sts).2.1, I (wiE (XS i).r (XS i).ws (XS i).sts).2.2, I (cst (XS i).r (XS i).ws (XS i).sts)] := hd 9 186 (by kernel_rfl)
            go_simp
            first | exact ⟨rfl, hR, Below.refl _ _⟩ | exact ⟨⟨rfl, rfl⟩, hR, Below.refl _ _⟩ | exact ⟨⟨rfl, fun h => absurd h (by decide)⟩, hR, Below.refl _ _⟩ | exact ⟨⟨rfl, rfl, fun h => absurd h (by decide)⟩, hR, Below.refl _ _⟩
          | 11, _, ho =>
            clear hsk
            cases ho
            have e186 : ev (.tmp 186) = .tuple #[I (wiE (XS i).r (XS i).ws (XS i).sts).1, I (wiE (XS i).r (XS i).ws (XS i).sts).2.1, I (wiE (XS i).r (XS i).ws (XS i).sts).2.2, I (cst (XS i).r (XS i).ws (XS i).sts)] := hd 9 186 (by kernel_rfl)
            go_simp
            first | exact ⟨rfl, hR, Below.refl _ _⟩ | exact ⟨⟨rfl, rfl⟩, hR, Below.refl _ _⟩ | exact ⟨⟨rfl, fun h => absurd h (by decide)⟩, hR, Below.refl _ _⟩ | exact ⟨⟨rfl, rfl, fun h => absurd h (by decide)⟩, hR, Below.refl _ _⟩
          | 12, _, ho =>
            clear hsk
            cases ho
            have e186 : ev (.tmp 186) = .tuple #[I (wiE (XS i).r (XS i).ws (XS i).sts).1, I (wiE (XS i).r (XS i).ws (XS i).sts).2.1, I (wiE (XS i).r (XS i).ws (XS i).sts).2.2, I (cst (XS i).r (XS i).ws (XS i).sts)] := hd 9 186 (by kernel_rfl)
            go_simp
            first | exact ⟨rfl, hR, Below.refl _ _⟩ | exact ⟨⟨rfl, rfl⟩, hR, Below.refl _ _⟩ | exact ⟨⟨rfl, fun h => absurd h (by decide)⟩, hR, Below.refl _ _⟩ | exact ⟨⟨rfl, rfl, fun h => absurd h (by decide)⟩, hR, Below.refl _ _⟩
          | 13, _, ho =>
            clear hsk
            cases ho
            have e186 : ev (.tmp 186) = .tuple #[I (wiE (XS i).r (XS i).ws (XS i).sts).1, I (wiE (XS i).r (XS i).ws (XS i).sts).2.1, I (wiE (XS i).r (XS i).ws (XS i).sts).2.2, I (cst (XS i).r (XS i).ws (XS i).sts)] := hd 9 186 (by kernel_rfl)
            go_simp
            first | exact ⟨rfl, hR, Below.refl _ _⟩ | exact ⟨⟨rfl, rfl⟩, hR, Below.refl _ _⟩ | exact ⟨⟨rfl, fun h => absurd h (by decide)⟩, hR, Below.refl _ _⟩ | exact ⟨⟨rfl, rfl, fun h => absurd h (by decide)⟩, hR, Below.refl _ _⟩
          | 14, _, ho =>
            clear hsk
            cases ho
            have e196 : ev (.tmp 196) = I ((wiE (XS i).r (XS i).ws (XS i).sts).1) := hd 10 196 (by kernel_rfl)
            go_simp
            first | exact ⟨rfl, hR, Below.refl _ _⟩ | exact ⟨⟨rfl, rfl⟩, hR, Below.refl _ _⟩ | exact ⟨⟨rfl, fun h => absurd h (by decide)⟩, hR, Below.refl _ _⟩ | exact ⟨⟨rfl, rfl, fun h => absurd h (by decide)⟩, hR, Below.refl _ _⟩
          | 15, _, ho =>
            clear hsk
            cases ho
            have e197 : ev (.tmp 197) = I ((wiE (XS i).r (XS i).ws (XS i).sts).2.1) := hd 11 197 (by kernel_rfl)
            go_simp
            first | exact ⟨rfl, hR, Below.refl _ _⟩ | exact ⟨⟨rfl, rfl⟩, hR, Below.refl _ _⟩ | exact ⟨⟨rfl, fun h => absurd h (by decide)⟩, hR, Below.refl _ _⟩ | exact ⟨⟨rfl, rfl, fun h => absurd h (by decide)⟩, hR, Below.refl _ _⟩
          | 16, _, ho =>
            clear hsk
            cases ho
            have e198 : ev (.tmp 198) = I ((wiE (XS i).r (XS i).ws (XS i).sts).2.2) := hd 12 198 (by kernel_rfl)
            go_simp
            first | exact ⟨rfl, hR, Below.refl _ _⟩ | exact ⟨⟨rfl, rfl⟩, hR, Below.refl _ _⟩ | exact ⟨⟨rfl, fun h => absurd h (by decide)⟩, hR, Below.refl _ _⟩ | exact ⟨⟨rfl, rfl, fun h => absurd h (by decide)⟩, hR, Below.refl _ _⟩
          | 17, _, ho =>
            clear hsk
            cases ho
            have e199 : ev (.tmp 199) = I (cst (XS i).r (XS i).ws (XS i).sts) := hd 13 199 (by kernel_rfl)
            go_simp
            first | exact ⟨rfl, hR, Below.refl _ _⟩ | exact ⟨⟨rfl, rfl⟩, hR, Below.refl _ _⟩ | exact ⟨⟨rfl, fun h => absurd h (by decide)⟩, hR, Below.refl _ _⟩ | exact ⟨⟨rfl, rfl, fun h => absurd h (by decide)⟩, hR, Below.refl _ _⟩
          | n + 18, hi, _ => exact absurd hi (by simp)
        intro ρ wf hR hρ hne K hK
        have p14 : ρ 14 = I ((wiE (XS i).r (XS i).ws (XS i).sts).1) := hρ 14 (by simp)
        have p15 : ρ 15 = I ((wiE (XS i).r (XS i).ws (XS i).sts).2.1) := hρ 15 (by simp)
        have p16 : ρ 16 = I ((wiE (XS i).r (XS i).ws (XS i).sts).2.2) := hρ 16 (by simp)
        have p17 : ρ 17 = I (cst (XS i).r (XS i).ws (XS i).sts) := hρ 17 (by simp)
        show K (putAll _ _ ρ 18) _
        simp only [putAll, dOf, List.getElem?_toArray, List.getElem?_cons_zero, List.getElem?_cons_succ, Option.bind_some, Act.put, List.setIfInBounds_toArray, List.set_cons_zero, List.set_cons_succ]
        rw [p14, p15, p16, p17]
        refine hK _ _ ?_
        change wpList _ _ _ [] _ _
        clear hK K p14 p15 p16 p17 hρ hne
        have qf := qf.grow hR
        have xa := xa.below hR xa.lt
        have xb := xb.below hR xb.lt
        have hl := Sl.below hl hR (Nat.le_refl _)
        have hm_ := Sl.below hm_ hR (Nat.le_refl _)
        clear hR
        go_wp2_with fail
        refine wp_region_list_s (by kernel_rfl) (R := RB wf.heap.size wf) (F := FB) [] [] []
            [As.is _ _ (.slice (some ⟨b22, 0, none⟩) 3 3),
            As.is _ _ (I (i : Int)),
            As.is _ _ (.pointer (some ⟨b22, i * 2, none⟩)),
            As.is _ _ (.agg #[I (XS i).r, .slice (XS i).A (XS i).ws.length (XS i).c]),
            As.is _ _ (.slice (some ⟨b23, 0, none⟩) 3 3),
            As.is _ _ (I (i : Int)),
            As.is _ _ (.pointer (some ⟨b23, i, none⟩)),
            As.is _ _ (.slice (XS i).B (XS i).sts.length (XS i).cb),
            As.is _ _ (.tuple #[I (wiE (XS i).r (XS i).ws (XS i).sts).1, I (wiE (XS i).r (XS i).ws (XS i).sts).2.1, I (wiE (XS i).r (XS i).ws (XS i).sts).2.2, I (cst (XS i).r (XS i).ws (XS i).sts)]),
            As.is _ _ (.tuple #[I (wiE (XS i).r (XS i).ws (XS i).sts).1, I (wiE (XS i).r (XS i).ws (XS i).sts).2.1, I (wiE (XS i).r (XS i).ws (XS i).sts).2.2, I (cst (XS i).r (XS i).ws (XS i).sts)]),
            As.is _ _ (I ((wiE (XS i).r (XS i).ws (XS i).sts).1)),
            As.is _ _ (I ((wiE (XS i).r (XS i).ws (XS i).sts).2.1)),
            As.is _ _ (I ((wiE (XS i).r (XS i).ws (XS i).sts).2.2)),
            As.is _ _ (I (cst (XS i).r (XS i).ws (XS i).sts)),
            As.is _ _ (I ((wiE (XS i).r (XS i).ws (XS i).sts).1)),
            As.is _ _ (I ((wiE (XS i).r (XS i).ws (XS i).sts).2.1)),
            As.is _ _ (I ((wiE (XS i).r (XS i).ws (XS i).sts).2.2)),
            As.is _ _ (I (cst (XS i).r (XS i).ws (XS i).sts))] 254 (by kernel_rfl) rfl ((Below.refl _ _).drew) (by simp) (by simp) ?_ (fun _ => Below.refl _ _) ?_ ?_ ?_
        · intro i' hi' o' ho k' b' hg u w' hR hu
          match i', hi', ho with
          | 0, _, ho => cases ho; cases hg
          | 1, _, ho => cases ho; cases hg
          | 2, _, ho => cases ho; cases hg
          | 3, _, ho => cases ho; cases hg
          | 4, _, ho => cases ho; cases hg
          | 5, _, ho => cases ho; cases hg
          | 6, _, ho => cases ho; cases hg
          | 7, _, ho => cases ho; cases hg
          | 8, _, ho => cases ho; cases hg
          | 9, _, ho => cases ho; cases hg
          | 10, _, ho => cases ho; cases hg
          | 11, _, ho => cases ho; cases hg
          | 12, _, ho => cases ho; cases hg
          | 13, _, ho => cases ho; cases hg
          | 14, _, ho => cases ho; cases hg
          | 15, _, ho => cases ho; cases hg
          | 16, _, ho => cases ho; cases hg
          | 17, _, ho => cases ho; cases hg
          | n + 18, hi, _ => exact absurd hi (by simp)
        · intro i' hi' hsk; cases hsk
        · intro i' hi' hsk o' ho ev w' hR hc hf hg hs hd
          match i', hi', ho with
          | 0, _, ho =>
            clear hsk
            cases ho
            have e22 : ev (.tmp 22) = .slice (some ⟨b22, 0, none⟩) 3 3 := hs 22 (by kernel_rfl)
            go_simp
            first | exact ⟨rfl, hR, Below.refl _ _⟩ | exact ⟨⟨rfl, rfl⟩, hR, Below.refl _ _⟩ | exact ⟨⟨rfl, fun h => absurd h (by decide)⟩, hR, Below.refl _ _⟩ | exact ⟨⟨rfl, rfl, fun h => absurd h (by decide)⟩, hR, Below.refl _ _⟩
          | 1, _, ho =>
            clear hsk
            cases ho
            have e27 : ev (.tmp 27) = I (i : Int) := hs 27 (by kernel_rfl)
            go_simp
            first | exact ⟨rfl, hR, Below.refl _ _⟩ | exact ⟨⟨rfl, rfl⟩, hR, Below.refl _ _⟩ | exact ⟨⟨rfl, fun h => absurd h (by decide)⟩, hR, Below.refl _ _⟩ | exact ⟨⟨rfl, rfl, fun h => absurd h (by decide)⟩, hR, Below.refl _ _⟩
          | 2, _, ho =>
            clear hsk
            cases ho
            have e201 : ev (.tmp 201) = .slice (some ⟨b22, 0, none⟩) 3 3 := hd 0 201 (by kernel_rfl)
            have e202 : ev (.tmp 202) = I (i : Int) := hd 1 202 (by kernel_rfl)
            have hil : (i : Int) < 3 := by omega
            go_simp
            first | exact ⟨rfl, hR, Below.refl _ _⟩ | exact ⟨⟨rfl, rfl⟩, hR, Below.refl _ _⟩ | exact ⟨⟨rfl, fun h => absurd h (by decide)⟩, hR, Below.refl _ _⟩ | exact ⟨⟨rfl, rfl, fun h => absurd h (by decide)⟩, hR, Below.refl _ _⟩
          | 3, _, ho =>
            clear hsk
            cases ho
            have e203 : ev (.tmp 203) = .pointer (some ⟨b22, i * 2, none⟩) := hd 2 203 (by kernel_rfl)
            have m1 := (qf.grow hR).cr i hlt
            have m2 := (qf.grow hR).cs i hlt
            go_simp
            first | exact ⟨rfl, hR, Below.refl _ _⟩ | exact ⟨⟨rfl, rfl⟩, hR, Below.refl _ _⟩ | exact ⟨⟨rfl, fun h => absurd h (by decide)⟩, hR, Below.refl _ _⟩ | exact ⟨⟨rfl, rfl, fun h => absurd h (by decide)⟩, hR, Below.refl _ _⟩
          | 4, _, ho =>
            clear hsk
            cases ho
            have e23 : ev (.tmp 23) = .slice (some ⟨b23, 0, none⟩) 3 3 := hs 23 (by kernel_rfl)
            go_simp
            first | exact ⟨rfl, hR, Below.refl _ _⟩ | exact ⟨⟨rfl, rfl⟩, hR, Below.refl _ _⟩ | exact ⟨⟨rfl, fun h => absurd h (by decide)⟩, hR, Below.refl _ _⟩ | exact ⟨⟨rfl, rfl, fun h => absurd h (by decide)⟩, hR, Below.refl _ _⟩
          | 5, _, ho =>
            clear hsk
            cases ho
            have e27 : ev (.tmp 27) = I (i : Int) := hs 27 (by kernel_rfl)
            go_simp
            first | exact ⟨rfl, hR, Below.refl _ _⟩ | exact ⟨⟨rfl, rfl⟩, hR, Below.refl _ _⟩ | exact ⟨⟨rfl, fun h => absurd h (by decide)⟩, hR, Below.refl _ _⟩ | exact ⟨⟨rfl, rfl, fun h => absurd h (by decide)⟩, hR, Below.refl _ _⟩
          | 6, _, ho =>
            clear hsk
            cases ho
            have e205 : ev (.tmp 205) = .slice (some ⟨b23, 0, none⟩) 3 3 := hd 4 205 (by kernel_rfl)
            have e206 : ev (.tmp 206) = I (i : Int) := hd 5 206 (by kernel_rfl)
            have hil : (i : Int) < 3 := by omega
            go_simp
            first | exact ⟨rfl, hR, Below.refl _ _⟩ | exact ⟨⟨rfl, rfl⟩, hR, Below.refl _ _⟩ | exact ⟨⟨rfl, fun h => absurd h (by decide)⟩, hR, Below.refl _ _⟩ | exact ⟨⟨rfl, rfl, fun h => absurd h (by decide)⟩, hR, Below.refl _ _⟩
          | 7, _, ho =>
            clear hsk
            cases ho
            have e207 : ev (.tmp 207) = .pointer (some ⟨b23, i, none⟩) := hd 6 207 (by kernel_rfl)
            have m1 := (qf.grow hR).cl i hlt
            go_simp
            first | exact ⟨rfl, hR, Below.refl _ _⟩ | exact ⟨⟨rfl, rfl⟩, hR, Below.refl _ _⟩ | exact ⟨⟨rfl, fun h => absurd h (by decide)⟩, hR, Below.refl _ _⟩ | exact ⟨⟨rfl, rfl, fun h => absurd h (by decide)⟩, hR, Below.refl _ _⟩
          | 8, _, ho =>
            clear hsk
            cases ho
            have e204 : ev (.tmp 204) = .agg #[I (XS i).r, .slice (XS i).A (XS i).ws.length (XS i).c] := hd 3 204 (by kernel_rfl)
            have e208 : ev (.tmp 208) = .slice (XS i).B (XS i).sts.length (XS i).cb := hd 7 208 (by kernel_rfl)
            go_simp
            refine (widestRR_c (XS i).r (XS i).A (XS i).B (XS i).c (XS i).cb (XS i).ws (XS i).sts (XS i).T1 (XS i).T2 w' ((qf.grow hR).ok i hlt).h1 ((qf.grow hR).ok i hlt).h2 ((qf.grow hR).ok i hlt).fit ((qf.grow hR).ok i hlt).l1 ((qf.grow hR).ok i hlt).c1 ((qf.grow hR).ok i hlt).l2 ((qf.grow hR).ok i hlt).c2).mono ?_
            rintro e wz ⟨rfl, hwz⟩
            first | exact ⟨rfl, hR.trans (hwz.mono hR.size), hwz⟩ | exact ⟨⟨rfl, rfl⟩, hR.trans (hwz.mono hR.size), hwz⟩ | exact ⟨⟨rfl, fun h => absurd h (by decide)⟩, hR.trans (hwz.mono hR.size), hwz⟩ | exact ⟨⟨rfl, rfl, fun h => absurd h (by decide)⟩, hR.trans (hwz.mono hR.size), hwz⟩
          | 9, _, ho =>
            clear hsk
            cases ho
            have e209 : ev (.tmp 209) = .tuple #[I (wiE (XS i).r (XS i).ws (XS i).sts).1, I (wiE (XS i).r (XS i).ws (XS i).sts).2.1, I (wiE (XS i).r (XS i).ws (XS i).sts).2.2, I (cst (XS i).r (XS i).ws (XS i).sts)] := hd 8 209 (by kernel_rfl)
            go_simp
            first | exact ⟨rfl, hR, Below.refl _ _⟩ | exact ⟨⟨rfl, rfl⟩, hR, Below.refl _ _⟩ | exact ⟨⟨rfl, fun h => absurd h (by decide)⟩, hR, Below.refl _ _⟩ | exact ⟨⟨rfl, rfl, fun h => absurd h (by decide)⟩, hR, Below.refl _ _⟩
          | 10, _, ho =>
            clear hsk
            cases ho
            have e200 : ev (.tmp 200) = .tuple #[I (wiE (XS i).r (XS i).ws (XS i).sts).1, I (wiE (XS i).r (XS i).ws (XS i).sts).2.1, I (wiE (XS i).r (XS i).ws (XS i).sts).2.2, I (cst (XS i).r (XS i).ws (XS i).sts)] := hd 9 200 (by kernel_rfl)
            go_simp
            first | exact ⟨rfl, hR, Below.refl _ _⟩ | exact ⟨⟨rfl, rfl⟩, hR, Below.refl _ _⟩ | exact ⟨⟨rfl, fun h => absurd h (by decide)⟩, hR, Below.refl _ _⟩ | exact ⟨⟨rfl, rfl, fun h => absurd h (by decide)⟩, hR, Below.refl _ _⟩
          | 11, _, ho =>
            clear hsk
            cases ho
            have e200 : ev (.tmp 200) = .tuple #[I (wiE (XS i).r (XS i).ws (XS i).sts).1, I (wiE (XS i).r (XS i).ws (XS i).sts).2.1, I (wiE (XS i).r (XS i).ws (XS i).sts).2.2, I (cst (XS i).r (XS i).ws (XS i).sts)] := hd 9 200 (by kernel_rfl)
            go_simp
            first | exact ⟨rfl, hR, Below.refl _ _⟩ | exact ⟨⟨rfl, rfl⟩, hR, Below.refl _ _⟩ | exact ⟨⟨rfl, fun h => absurd h (by decide)⟩, hR, Below.refl _ _⟩ | exact ⟨⟨rfl, rfl, fun h => absurd h (by decide)⟩, hR, Below.refl _ _⟩
          | 12, _, ho =>
            clear hsk
            cases ho
            have e200 : ev (.tmp 200) = .tuple #[I (wiE (XS i).r (XS i).ws (XS i).sts).1, I (wiE (XS i).r (XS i).ws (XS i).sts).2.1, I (wiE (XS i).r (XS i).ws (XS i).sts).2.2, I (cst (XS i).r (XS i).ws (XS i).sts)] := hd 9 200 (by kernel_rfl)
            go_simp
            first | exact ⟨rfl, hR, Below.refl _ _⟩ | exact ⟨⟨rfl, rfl⟩, hR, Below.refl _ _⟩ | exact ⟨⟨rfl, fun h => absurd h (by decide)⟩, hR, Below.refl _ _⟩ | exact ⟨⟨rfl, rfl, fun h => absurd h (by decide)⟩, hR, Below.refl _ _⟩
          | 13, _, ho =>
            clear hsk
            cases ho
            have e200 : ev (.tmp 200) = .tuple #[I (wiE (XS i).r (XS i).ws (XS i).sts).1, I (wiE (XS i).r (XS i).ws (XS i).sts).2.1, I (wiE (XS i).r (XS i).ws (XS i).sts).2.2, I (cst (XS i).r (XS i).ws (XS i).sts)] := hd 9 200 (by kernel_rfl)
            go_simp
            first | exact ⟨rfl, hR, Below.refl _ _⟩ | exact ⟨⟨rfl, rfl⟩, hR, Below.refl _ _⟩ | exact ⟨⟨rfl, fun h => absurd h (by decide)⟩, hR, Below.refl _ _⟩ | exact ⟨⟨rfl, rfl, fun h => absurd h (by decide)⟩, hR, Below.refl _ _⟩
          | 14, _, ho =>
            clear hsk
            cases ho
            have e210 : ev (.tmp 210) = I ((wiE (XS i).r (XS i).ws (XS i).sts).1) := hd 10 210 (by kernel_rfl)
            go_simp
            first | exact ⟨rfl, hR, Below.refl _ _⟩ | exact ⟨⟨rfl, rfl⟩, hR, Below.refl _ _⟩ | exact ⟨⟨rfl, fun h => absurd h (by decide)⟩, hR, Below.refl _ _⟩ | exact ⟨⟨rfl, rfl, fun h => absurd h (by decide)⟩, hR, Below.refl _ _⟩
          | 15, _, ho =>
            clear hsk
            cases ho
            have e211 : ev (.tmp 211) = I ((wiE (XS i).r (XS i).ws (XS i).sts).2.1) := hd 11 211 (by kernel_rfl)
            go_simp
            first | exact ⟨rfl, hR, Below.refl _ _⟩ | exact ⟨⟨rfl, rfl⟩, hR, Below.refl _ _⟩ | exact ⟨⟨rfl, fun h => absurd h (by decide)⟩, hR, Below.refl _ _⟩ | exact ⟨⟨rfl, rfl, fun h => absurd h (by decide)⟩, hR, Below.refl _ _⟩
          | 16, _, ho =>
            clear hsk
            cases ho
            have e212 : ev (.tmp 212) = I ((wiE (XS i).r (XS i).ws (XS i).sts).2.2) := hd 12 212 (by kernel_rfl)
            go_simp
            first | exact ⟨rfl, hR, Below.refl _ _⟩ | exact ⟨⟨rfl, rfl⟩, hR, Below.refl _ _⟩ | exact ⟨⟨rfl, fun h => absurd h (by decide)⟩, hR, Below.refl _ _⟩ | exact ⟨⟨rfl, rfl, fun h => absurd h (by decide)⟩, hR, Below.refl _ _⟩
          | 17, _, ho =>
            clear hsk
            cases ho
            have e213 : ev (.tmp 213) = I (cst (XS i).r (XS i).ws (XS i).sts) := hd 13 213 (by kernel_rfl)
            go_simp
            first | exact ⟨rfl, hR, Below.refl _ _⟩ | exact ⟨⟨rfl, rfl⟩, hR, Below.refl _ _⟩ | exact ⟨⟨rfl, fun h => absurd h (by decide)⟩, hR, Below.refl _ _⟩ | exact ⟨⟨rfl, rfl, fun h => absurd h (by decide)⟩, hR, Below.refl _ _⟩
          | n + 18, hi, _ => exact absurd hi (by simp)
        intro ρ wg hR hρ hne K hK
        have p14 : ρ 14 = I ((wiE (XS i).r (XS i).ws (XS i).sts).1) := hρ 14 (by simp)
        have p15 : ρ 15 = I ((wiE (XS i).r (XS i).ws (XS i).sts).2.1) := hρ 15 (by simp)
        have p16 : ρ 16 = I ((wiE (XS i).r (XS i).ws (XS i).sts).2.2) := hρ 16 (by simp)
        have p17 : ρ 17 = I (cst (XS i).r (XS i).ws (XS i).sts) := hρ 17 (by simp)
        show K (putAll _ _ ρ 18) _
        simp only [putAll, dOf, List.getElem?_toArray, List.getElem?_cons_zero, List.getElem?_cons_succ, Option.bind_some, Act.put, List.setIfInBounds_toArray, List.set_cons_zero, List.set_cons_succ]
        rw [p14, p15, p16, p17]
        refine hK _ _ ?_
        change wpList _ _ _ [] _ _
        clear hK K p14 p15 p16 p17 hρ hne
        have qf := qf.grow hR
        have xa := xa.below hR xa.lt
        have xb := xb.below hR xb.lt
        have hl := Sl.below hl hR (Nat.le_refl _)
        have hm_ := Sl.below hm_ hR (Nat.le_refl _)
        clear hR
        have hca := xa.cell
        have hcb := xb.cell
        have hlen : (opR (XS i).r (XS i).ws (XS i).sts (ua i) (ub i) (ug i)).length ≤ maxLen := by
          have := (qf.ok i hlt).l1
          unfold opR
          split
          · rw [opL_len]; exact this
          · simp
        go_wp2_with fail
        refine (eqInts_c Bl Bm dl dm _ _ _ _ _ hl hm_ hlen hlen).mono ?_
        rintro e wh ⟨rfl, hwh⟩
        have qf := qf.grow hwh
        rw [show decide (opR (XS i).r (XS i).ws (XS i).sts (ua i) (ub i) (ug i) = opR (XS i).r (XS i).ws (XS i).sts (ua i) (ub i) (ug i)) = true from decide_eq_true rfl]
        clear hca hcb xa xb hl hm_ hlen
        go_wp2_with fail
        go_roundw
        case rel => exact ⟨i + 1, by go_num, by omega, qf⟩
        case measure => simp [intOf]; omega
      · have hil0 : ¬ ((i : Int) < 3) := by omega
        go_wp2_with fail
        refine (awake_c _).mono ?_
        rintro e w20 ⟨rfl, hb20⟩
        have hB := qf.below.trans (hb20.mono qf.below.size)
        go_wp2
        go_ret
        exact ⟨rfl, hB⟩

namespace paradeGaps
open Go.ChangeShapes Go.WideShapes Go.ChangeAt Go.RowKit

set_option maxRecDepth 100000 in
theorem lifted (os : Os) (started : os.Started) (H : Type) (enc : TypeId × Value → H) :
    ReturnsInHanded {} Try.checked os 6 .any (Rows.paradeGapsSpec.pre6 enc Try.prog Try.f6 Rows.paradeGapsRow.domain false) (Rows.paradeGapsSpec.post enc Try.prog Try.f6 false true false false) := by
  refine returnsInHanded_of_change (C := Try.checked) prog_own started (by kernel_rfl) Try.func6
    (ChangeSpec.witness6 (enc := enc) (C := Try.checked) false ⟨#[], #[.agg #[.int .i64 0, .slice none 0 0], .slice none 0 0, .int .i64 0, .int .i64 0, .agg #[.int .i64 0, .int .i64 0, .int .i64 0], .slice none 0 0], []⟩ 8 (by kernel_rfl) (by kernel_rfl) (by kernel_rfl) (by kernel_rfl)) ?_
  intro W base args ds gs before hval0 hW hcnd _
  have hval : ∀ (j : Nat) t v, Try.f6.params[j]? = some t → args[j]? = some v → Value.okWide Try.prog W .any base t v := hval0
  have hW' := hW
  obtain ⟨p, q, hA0, hV, rfl, hfz, hnd⟩ := hW
  have hA : DataW.TrodAll enc Try.prog W 0 (fun _ => true) true Try.f6.params.toList args.toList ds p := hA0
  rw [Try.params6] at hA hval
  obtain ⟨v0, vs0, d0, ds0, p0, q0, hargs, rfl, rfl, h0, r0⟩ := trodAll_cons hA
  obtain ⟨v1, vs1, d1, ds1, p1, q1, rfl, rfl, rfl, h1, r1⟩ := trodAll_cons r0
  obtain ⟨v2, vs2, d2, ds2, p2, q2, rfl, rfl, rfl, h2, r2⟩ := trodAll_cons r1
  obtain ⟨v3, vs3, d3, ds3, p3, q3, rfl, rfl, rfl, h3, r3⟩ := trodAll_cons r2
  obtain ⟨v4, vs4, d4, ds4, p4, q4, rfl, rfl, rfl, h4, r4⟩ := trodAll_cons r3
  obtain ⟨v5, vs5, d5, ds5, p5, q5, rfl, rfl, rfl, h5, r5⟩ := trodAll_cons r4
  obtain ⟨rfl, rfl, rfl⟩ := trodAll_nil r5
  obtain rfl : args = #[v0, v1, v2, v3, v4, v5] := by cases args; simp_all
  obtain ⟨rfl, rfl⟩ := trodVars_none hV
  have k0 := h0
  have lt0 : ∀ x ∈ p0, x.block < W.heap.size := by obtain ⟨m, hm⟩ := k0; exact DataW.trod_lt m _ _ _ hm
  obtain ⟨rs0, A0, c0, T0, ws0, rfl, hs0, fit0, hm0, hc0, wr0⟩ := school_sl (hval 0 24 v0 rfl rfl) h0
  have k1 := h1
  have lt1 : ∀ x ∈ p1, x.block < W.heap.size := by obtain ⟨m, hm⟩ := k1; exact DataW.trod_lt m _ _ _ hm
  obtain ⟨a1, len1, cap1, rfl⟩ := okWide_slice Try.underlying25 (hval 1 25 v1 rfl rfl)
  have hcap1 := ints_cap h1
  obtain ⟨T1, zs1, rfl, hs1, hm1⟩ := ints_sl h1
  obtain ⟨a2, rfl, rfl, rfl, w2⟩ := open_int Try.underlying3 (hval 2 3 v2 rfl rfl) h2
  obtain ⟨a3, rfl, rfl, rfl, w3⟩ := open_int Try.underlying3 (hval 3 3 v3 rfl rfl) h3
  have k4 := h4
  have lt4 : ∀ x ∈ p4, x.block < W.heap.size := by obtain ⟨m, hm⟩ := k4; exact DataW.trod_lt m _ _ _ hm
  obtain ⟨x4, y4, z4, rfl⟩ := rules_sl (hval 4 54 v4 rfl rfl) h4
  have k5 := h5
  have lt5 : ∀ x ∈ p5, x.block < W.heap.size := by obtain ⟨m, hm⟩ := k5; exact DataW.trod_lt m _ _ _ hm
  obtain ⟨a5, len5, cap5, rfl⟩ := okWide_slice Try.underlying25 (hval 5 25 v5 rfl rfl)
  obtain ⟨T5, zs5, rfl, hs5, hm5⟩ := ints_sl h5
  clear hA0 hval0
  refine (gapsL_c rs0 A0 c0 ws0 T0 a1 cap1 zs1 T1 a2 a3 x4 y4 z4 a5 cap5 T5 zs5 W ⟨hs0, fit0, hm0, hc0, hs1, hm1, hcap1⟩ hs5 hm5).mono fun e W' ⟨he, bel⟩ => ?_
  subst he
  exact ⟨_, rfl, _, _, _, [], _, [], hW', trodAll_mk1 (shut_bool Try.underlying4 _), (trodAll_cons_mk (Below.trod prog_laid (by kernel_rfl) (of_decide_eq_true (by kernel_rfl)) k0 bel lt0) (trodAll_cons_mk (Below.trod prog_laid (by kernel_rfl) (of_decide_eq_true (by kernel_rfl)) k1 bel lt1) (trodAll_cons_mk (shut_int Try.underlying3 w2) (trodAll_cons_mk (shut_int Try.underlying3 w3) (trodAll_cons_mk (Below.trod prog_laid (by kernel_rfl) (of_decide_eq_true (by kernel_rfl)) k4 bel lt4) (trodAll_cons_mk (Below.trod prog_laid (by kernel_rfl) (of_decide_eq_true (by kernel_rfl)) k5 bel lt5) trodAll_mk0)))))), rfl, bel.frame _, fun h => by cases h⟩

theorem proved : Rows.ParadeGapsSaid :=
  OpenClaim.holds_of_wide 6 Try.f6 rfl rfl rfl rfl rfl rfl rfl ⟨rfl, rfl, rfl, rfl, rfl⟩ rfl rfl rfl rfl rfl (by kernel_rfl) Try.func6 (by kernel_rfl)
    (of_decide_eq_true (by kernel_rfl)) (by unfold Func.isWrapper; first | (rw [if_pos (by decide +kernel)]; kernel_rfl) | (rw [if_neg (by decide +kernel)]; exact ⟨rfl, rfl⟩))
    (fun os started H enc _ => lifted os started H enc)
end paradeGaps
end Go.Proofs.Ytnihkgdkdinliaa
