/- ParadeChecks: which schools and starts are valid, and the least starts, or which errors there are. Own work. -/
import Derived.Test.YtnihkgdkdinliaaLawKit
import Derived.Test.YtnihkgdkdinliaaChecksM
import Derived.Deep.Cut
import Derived.Deep.CutRange
namespace Go.Proofs.Ytnihkgdkdinliaa
open Go.RowKit Go.ChangeShapes Go.WideShapes Go.ChangeAt
set_option linter.unusedVariables false
set_option linter.unusedSimpArgs false

set_option maxRecDepth 100000 in
set_option maxHeartbeats 16000000 in
theorem checks_c (rs : Int) (Ar : Option Addr) (cs : Nat) (wss : List Wg) (Ts : TypeId) (Bs : Option Addr) (cbs : Nat) (stss : List Int) (Tt : TypeId) (gw : Wg) (at_ second : Int) (A0 : Option Addr) (c0 : Nat) (T0 : TypeId) (zs : List Int) (w : World)
    (ok : Qu.ok ⟨rs, Ar, cs, wss, Ts, Bs, cbs, stss, Tt⟩ w) (hsA : OkS Ar wss.length cs) (hsB : OkS Bs stss.length cbs) (hgw : gw.name.size ≤ maxLen) (hs0 : SlI w T0 A0 zs) (hl0 : zs.length ≤ maxLen) :
    Calls Try.prog 3 #[.agg #[I rs, .slice Ar wss.length cs], .slice Bs stss.length cbs, .agg #[.string gw.name, I gw.len, I gw.lo, I gw.hi], I at_, I second, .slice A0 zs.length c0] w (LawPost w) := by
  have xs0 := (Bx.new w 24 #[I rs, .slice Ar wss.length cs]).alloc (.cells #[.string gw.name, I gw.len, I gw.lo, I gw.hi] 29)
  have xw0 := Bx.new' (w.alloc (.cells #[I rs, .slice Ar wss.length cs] 24)) 29 #[.string gw.name, I gw.len, I gw.lo, I gw.hi] (w.heap.size + 1) (by simp)
  have hA := ((Below.refl w.heap.size w).alloc (Nat.le_refl _) (.cells #[I rs, .slice Ar wss.length cs] 24)).alloc (by simp) (.cells #[.string gw.name, I gw.len, I gw.lo, I gw.hi] 29)
  have hl2 := ok.l2
  unfold maxLen at hl2
  have hcs0 := xs0.cell
  go_enter Try.func3, Try.ntmps3
  go_wp2_with fail
  refine (long15_c rs Ar cs wss Ts _ (ok.grow hA).h1 ok.fit ok.l1).mono ?_
  rintro e wA ⟨bl, rfl, hbl15, hbA⟩
  have hB0 := hA.trans (hbA.mono hA.size)
  have xsA := xs0.below hbA xs0.lt
  have xwA := xw0.below hbA xw0.lt
  clear xs0 hcs0 hA hbA xw0
  have hcw := xwA.cell
  have hgl := hgw
  unfold maxLen at hgl
  by_cases hgo : bl = true ∨ 20 < stss.length ∨ 30 < gw.name.size
  · have haw : ∀ W, Below w.heap.size w W → Calls Try.prog 14 #[] W fun e w' => e = .returned (.bool true) ∧ Below w.heap.size w w' := fun W hW => (awake_c W).mono fun e w' ⟨he, hb⟩ => ⟨he, hW.trans (hb.mono hW.size)⟩
    cases bl with
    | true =>
      go_wp2_with fail
      refine (haw _ hB0).mono ?_
      rintro e w20 ⟨rfl, hB⟩
      go_wp2
      go_ret
      exact ⟨rfl, hB⟩
    | false =>
      by_cases h20 : 20 < stss.length
      · go_wp2_with fail
        refine (haw _ hB0).mono ?_
        rintro e w20 ⟨rfl, hB⟩
        go_wp2
        go_ret
        exact ⟨rfl, hB⟩
      · have h30 : 30 < gw.name.size := by simpa [h20] using hgo
        go_wp2_with fail
        refine (haw _ hB0).mono ?_
        rintro e w20 ⟨rfl, hB⟩
        go_wp2
        go_ret
        exact ⟨rfl, hB⟩
  obtain ⟨hbl, hshort, h30⟩ : bl = false ∧ stss.length ≤ 20 ∧ gw.name.size ≤ 30 := by
    refine ⟨?_, ?_, ?_⟩
    · cases bl with
      | true => exact absurd (.inl rfl) hgo
      | false => rfl
    · by_cases h : 20 < stss.length
      · exact absurd (.inr (.inl h)) hgo
      · omega
    · by_cases h : 30 < gw.name.size
      · exact absurd (.inr (.inr h)) hgo
      · omega
  subst hbl
  have hw15 : wss.length ≤ 15 := hbl15 rfl
  clear hgo hbl15
  have okA := ok.grow (show Below w.heap.size w wA from hB0)
  have hsA' : SlI wA T0 A0 zs := Sl.below hs0 hB0 (Nat.le_refl _)
  go_wp2_with fail
  clear hcw
  refine (drumOf_c A0 c0 T0 zs _ hsA' hl0).mono ?_
  rintro e w1 ⟨d, rfl, hd1, hdn', hb1'⟩
  have hdn : w.heap.size ≤ d := Nat.le_trans hB0.size hdn'
  have hb1 := hB0.trans (hb1'.mono hB0.size)
  have xs1 := xsA.below hb1' xsA.lt
  have xw1 := xwA.below hb1' xwA.lt
  clear hb1' hB0 xsA xwA hsA' okA
  go_wp2_with fail
  refine (schoolOf_c d 8 _ hd1 (by omega) (by omega)).mono ?_
  rintro e w2 ⟨r, A, c, ws, rfl, hws2, hd2, hk2, hr1, hr2, hn1, hn2, hm, hcap⟩
  have hB2 := below_of_kp hb1 hk2 hdn hb1.size
  have L3 : LK d w2.heap.size r A c ws w (w2.alloc (.cells #[I r, .slice A ws.length c] 24)) :=
    ⟨hd2.alloc _, Bx.new _ _ _, hws2.alloc _, hB2.alloc hB2.size _, hdn, hB2.size⟩
  have xs3 := (xs1.kp hk2 (bx_ne xs1 hd1 (by decide))).alloc (.cells #[I r, .slice A ws.length c] 24)
  have xw3 := (xw1.kp hk2 (bx_ne xw1 hd1 (by decide))).alloc (.cells #[I r, .slice A ws.length c] 24)
  clear hb1 hk2 hd1 hws2 hd2 xs1 xw1
  have hchk := made_chk hm hr1 hr2 hn1 (by omega)
  have hc3 := L3.box.cell
  go_wp2_with fail
  refine (startsOf_c d r A c ws _ L3.dr L3.wings hm hchk).mono ?_
  rintro e w5 ⟨B, cb, sts, rfl, hsl5, hcapb, hd5, hk5, hlen, hcst, hst⟩
  have L5 := L3.kp hk5 hd5
  have xs := xs3.kp hk5 (bx_ne xs3 L3.dr (by decide))
  have xw := xw3.kp hk5 (bx_ne xw3 L3.dr (by decide))
  have V : LV r c ws sts cb := ⟨hm, hr1, hr2, hn1, by omega, hcap, hlen, hcapb, hcst, hst⟩
  have hfws := V.fit
  obtain ⟨b1, o1, rfl, _⟩ := SlW.some_ L3.wings (show 0 < ws.length by omega)
  clear hk5 hd5 hcst hst hlen hcapb L3 hc3 xs3 xw3
  have hc5 := L5.box.cell
  go_wp2_with fail
  refine (ownSchool_c r _ c ws _ L5.wings hn1 (by omega)).mono ?_
  rintro e w6 ⟨q, cq, rfl, hq5, hwb6, hcq, hb6⟩
  obtain ⟨b2, o2, rfl, _⟩ := SlI.some_ hsl5 (show 0 < sts.length by have := V.len; omega)
  clear hc5
  go_wp2_with fail
  refine (ints2_c (some ⟨b2, o2, none⟩) cb sts _ _ (Sl.below hsl5 hb6 (Nat.le_refl _)) (fun h => by cases h) (by have := V.len; omega)).mono ?_
  rintro e w7 ⟨v7, rfl, ho7, hb7⟩
  obtain ⟨g, cg, l7, rfl, hg6, hrow7, rfl⟩ : FrR w6.heap.size (fun qs => qs = sts) v7 w7 := FrR.ofOwn ho7 (by have := V.len; omega) rfl
  have hqg : g ≠ q := fun e => by have := hwb6.lt; omega
  have hwb7 : WB (w7.alloc (.cells #[I r, .slice (some ⟨q, 0, none⟩) ws.length cq] 24)) q ws := (hwb6.below hb7).below ((Below.refl _ _).alloc (Nat.le_refl _) _)
  have R7a : Below w5.heap.size w5 (w7.alloc (.cells #[I r, .slice (some ⟨q, 0, none⟩) ws.length cq] 24)) := ((hb6.trans (hb7.mono hb6.size)).alloc (by have := hb6.size; have := hb7.size; omega) _)
  have R7b := Bx.new w7 24 #[I r, .slice (some ⟨q, 0, none⟩) ws.length cq]
  have R7c : RowAt (w7.alloc (.cells #[I r, .slice (some ⟨q, 0, none⟩) ws.length cq] 24)) g cg l7 := hrow7.below ((Below.refl _ _).alloc (Nat.le_refl _) _)
  have hg5 : w5.heap.size ≤ g := by have := hb6.size; omega
  have hq16g : w7.heap.size ≠ g := fun e => by have := hrow7.lt; omega
  have hq16 : w7.heap.size ≠ q := fun e => by have := hwb6.lt; have := hb7.size; omega
  clear ho7 hrow7 hwb6 hb6 hb7
  go_wp2_with fail
  generalize w7.heap.size = q16 at *
  refine wp_region_list_s (by kernel_rfl) (R := (fun w' => Below w5.heap.size w5 w' ∧ Bx w' q16 24 #[I r, .slice (some ⟨q, 0, none⟩) ws.length cq] ∧ RowAt w' g cg l7 ∧ ∃ us : List Wg, us.length = ws.length ∧ Fit us ∧ WB w' q us)) (F := (fun _ _ => True)) [] [] [(9, 8)]
      [As.is _ _ (.pointer (some ⟨q16, 1, none⟩)),
      As.is _ _ (.slice (some ⟨q, 0, none⟩) ws.length cq),
      As.is _ _ (I at_),
      As.is _ _ (.pointer (some ⟨q16, 1, none⟩)),
      As.is _ _ (.slice (some ⟨q, 0, none⟩) ws.length cq),
      As.is _ _ (I (ws.length : Int)),
      asInt _ _ 0 ((ws.length : Int) - 1),
      As.is _ _ (.agg #[.string gw.name, I gw.len, I gw.lo, I gw.hi]),
      As.pure _ _ fun v => ∃ j : Nat, v = .pointer (some ⟨q, j * 4, none⟩) ∧ j < ws.length,
      As.pure _ _ fun _ => True] 162 (by kernel_rfl) rfl (⟨R7a.trans (Below.refl _ _).drew, R7b, R7c.below (Below.refl _ _).drew, ⟨ws, rfl, hfws, hwb7.below (Below.refl _ _).drew⟩⟩) (by simp) (by simp) ?_ (fun _ => trivial) ?_ ?_ ?_
  · intro i' hi' o' ho k' b' hg u w' hR hu
    match i', hi', ho with
    | 0, _, ho => cases ho; cases hg
    | 1, _, ho => cases ho; cases hg
    | 2, _, ho => cases ho; cases hg
    | 3, _, ho => cases ho; cases hg
    | 4, _, ho => cases ho; cases hg
    | 5, _, ho => cases ho; cases hg
    | 6, _, ho => cases ho; cases hg
    | 7, _, ho => cases ho; cases hg
    | 8, _, ho => cases ho; cases hg
    | 9, _, ho => cases ho; cases hg
    | n + 10, hi, _ => exact absurd hi (by simp)
  · intro i' hi' hsk; cases hsk
  · intro i' hi' hsk o' ho ev w' hR hc hf hg hs hd
    match i', hi', ho with
    | 0, _, ho =>
      clear hsk
      cases ho
      have e16 : ev (.tmp 16) = .pointer (some ⟨q16, 0, none⟩) := hs 16 (by kernel_rfl)
      go_simp
      first | exact ⟨rfl, hR, trivial⟩ | exact ⟨⟨rfl, rfl⟩, hR, trivial⟩ | exact ⟨⟨rfl, fun h => absurd h (by decide)⟩, hR, trivial⟩ | exact ⟨⟨rfl, rfl, fun h => absurd h (by decide)⟩, hR, trivial⟩
    | 1, _, ho =>
      clear hsk
      cases ho
      have e52 : ev (.tmp 52) = .pointer (some ⟨q16, 1, none⟩) := hd 0 52 (by kernel_rfl)
      have m16 := hR.2.1.cell
      go_simp
      first | exact ⟨rfl, hR, trivial⟩ | exact ⟨⟨rfl, rfl⟩, hR, trivial⟩ | exact ⟨⟨rfl, fun h => absurd h (by decide)⟩, hR, trivial⟩ | exact ⟨⟨rfl, rfl, fun h => absurd h (by decide)⟩, hR, trivial⟩
    | 2, _, ho =>
      clear hsk
      cases ho
      have e3 : ev (.tmp 3) = I at_ := hs 3 (by kernel_rfl)
      go_simp
      first | exact ⟨rfl, hR, trivial⟩ | exact ⟨⟨rfl, rfl⟩, hR, trivial⟩ | exact ⟨⟨rfl, fun h => absurd h (by decide)⟩, hR, trivial⟩ | exact ⟨⟨rfl, rfl, fun h => absurd h (by decide)⟩, hR, trivial⟩
    | 3, _, ho =>
      clear hsk
      cases ho
      have e16 : ev (.tmp 16) = .pointer (some ⟨q16, 0, none⟩) := hs 16 (by kernel_rfl)
      go_simp
      first | exact ⟨rfl, hR, trivial⟩ | exact ⟨⟨rfl, rfl⟩, hR, trivial⟩ | exact ⟨⟨rfl, fun h => absurd h (by decide)⟩, hR, trivial⟩ | exact ⟨⟨rfl, rfl, fun h => absurd h (by decide)⟩, hR, trivial⟩
    | 4, _, ho =>
      clear hsk
      cases ho
      have e55 : ev (.tmp 55) = .pointer (some ⟨q16, 1, none⟩) := hd 3 55 (by kernel_rfl)
      have m16 := hR.2.1.cell
      go_simp
      first | exact ⟨rfl, hR, trivial⟩ | exact ⟨⟨rfl, rfl⟩, hR, trivial⟩ | exact ⟨⟨rfl, fun h => absurd h (by decide)⟩, hR, trivial⟩ | exact ⟨⟨rfl, rfl, fun h => absurd h (by decide)⟩, hR, trivial⟩
    | 5, _, ho =>
      clear hsk
      cases ho
      have e56 : ev (.tmp 56) = .slice (some ⟨q, 0, none⟩) ws.length cq := hd 4 56 (by kernel_rfl)
      go_simp
      first | exact ⟨rfl, hR, trivial⟩ | exact ⟨⟨rfl, rfl⟩, hR, trivial⟩ | exact ⟨⟨rfl, fun h => absurd h (by decide)⟩, hR, trivial⟩ | exact ⟨⟨rfl, rfl, fun h => absurd h (by decide)⟩, hR, trivial⟩
    | 6, _, ho =>
      clear hsk
      cases ho
      have e54 : ev (.tmp 54) = I at_ := hd 2 54 (by kernel_rfl)
      have e57 : ev (.tmp 57) = I (ws.length : Int) := hd 5 57 (by kernel_rfl)
      go_simp
      refine (fit_c at_ (ws.length : Int) _ (by omega) (by omega)).mono ?_
      rintro e wz ⟨y, rfl, hy1, hy2, hwz⟩
      first | exact ⟨⟨y, rfl, hy1, by omega⟩, ⟨hR.1.trans (hwz.mono hR.1.size), hR.2.1.below hwz hR.2.1.lt, hR.2.2.1.below hwz, hR.2.2.2.imp fun _ h => ⟨h.1, h.2.1, h.2.2.below hwz⟩⟩, trivial⟩ | exact ⟨⟨rfl, ⟨y, rfl, hy1, by omega⟩⟩, ⟨hR.1.trans (hwz.mono hR.1.size), hR.2.1.below hwz hR.2.1.lt, hR.2.2.1.below hwz, hR.2.2.2.imp fun _ h => ⟨h.1, h.2.1, h.2.2.below hwz⟩⟩, trivial⟩ | exact ⟨⟨⟨y, rfl, hy1, by omega⟩, fun h => absurd h (by decide)⟩, ⟨hR.1.trans (hwz.mono hR.1.size), hR.2.1.below hwz hR.2.1.lt, hR.2.2.1.below hwz, hR.2.2.2.imp fun _ h => ⟨h.1, h.2.1, h.2.2.below hwz⟩⟩, trivial⟩ | exact ⟨⟨rfl, ⟨y, rfl, hy1, by omega⟩, fun h => absurd h (by decide)⟩, ⟨hR.1.trans (hwz.mono hR.1.size), hR.2.1.below hwz hR.2.1.lt, hR.2.2.1.below hwz, hR.2.2.2.imp fun _ h => ⟨h.1, h.2.1, h.2.2.below hwz⟩⟩, trivial⟩
    | 7, _, ho =>
      clear hsk
      cases ho
      have e8 : ev (.tmp 8) = .pointer (some ⟨w.heap.size + 1, 0, none⟩) := hs 8 (by kernel_rfl)
      have m8 := (xw.below hR.1 xw.lt).cell
      go_simp
      first | exact ⟨rfl, hR, trivial⟩ | exact ⟨⟨rfl, rfl⟩, hR, trivial⟩ | exact ⟨⟨rfl, fun h => absurd h (by decide)⟩, hR, trivial⟩ | exact ⟨⟨rfl, rfl, fun h => absurd h (by decide)⟩, hR, trivial⟩
    | 8, _, ho =>
      clear hsk
      cases ho
      have e53 : ev (.tmp 53) = .slice (some ⟨q, 0, none⟩) ws.length cq := hd 1 53 (by kernel_rfl)
      obtain ⟨y58, e58, hy581, hy582⟩ : ∃ r' : Int, ev (.tmp 58) = I r' ∧ 0 ≤ r' ∧ r' ≤ (ws.length : Int) - 1 := hd 6 58 (by kernel_rfl)
      obtain ⟨j58, rfl⟩ := Int.eq_ofNat_of_zero_le hy581
      have hj58 : j58 < ws.length := by omega
      have hjl : (j58 : Int) < (ws.length : Int) := by omega
      go_simp
      first | exact ⟨⟨_, rfl, hj58⟩, hR, trivial⟩ | exact ⟨⟨rfl, ⟨_, rfl, hj58⟩⟩, hR, trivial⟩ | exact ⟨⟨⟨_, rfl, hj58⟩, fun h => absurd h (by decide)⟩, hR, trivial⟩ | exact ⟨⟨rfl, ⟨_, rfl, hj58⟩, fun h => absurd h (by decide)⟩, hR, trivial⟩
    | 9, _, ho =>
      clear hsk
      cases ho
      obtain ⟨jj, e60, hjj⟩ : ∃ j : Nat, ev (.tmp 60) = .pointer (some ⟨q, j * 4, none⟩) ∧ j < ws.length := hd 8 60 (by kernel_rfl)
      have e59 : ev (.tmp 59) = .agg #[.string gw.name, I gw.len, I gw.lo, I gw.hi] := hd 7 59 (by kernel_rfl)
      obtain ⟨us, hus, hfu, hwb⟩ := hR.2.2.2
      have hju : jj < us.length := by rw [hus]; exact hjj
      obtain ⟨k1, k2, k3, k4⟩ := SlW.cellG hwb.sl hju
      simp only [Nat.zero_add] at k1 k2 k3 k4
      have kf := hwb.free
      have hpt := hwb.putAll hju gw
      have hft : Fit (us.set jj gw) := fun g' hg' => by
        rcases List.mem_or_eq_of_mem_set hg' with h | h
        · exact hfu g' h
        · rw [h]; exact hgw
      have HUS := Lib.hid hus
      clear hus
      have hus := fun _ : Unit => HUS.out
      go_simp
      first | exact ⟨⟨rfl, fun t ht => trivial⟩, ⟨((((hR.1.setCell (p := ⟨q, jj * 4, none⟩) hq5 _).setCell (p := ⟨q, jj * 4 + 1, none⟩) hq5 _).setCell (p := ⟨q, jj * 4 + 2, none⟩) hq5 _).setCell (p := ⟨q, jj * 4 + 3, none⟩) hq5 _), ((((hR.2.1.far (p := ⟨q, jj * 4, none⟩) hq16 _).far (p := ⟨q, jj * 4 + 1, none⟩) hq16 _).far (p := ⟨q, jj * 4 + 2, none⟩) hq16 _).far (p := ⟨q, jj * 4 + 3, none⟩) hq16 _), ((((hR.2.2.1.far (p := ⟨q, jj * 4, none⟩) hqg _).far (p := ⟨q, jj * 4 + 1, none⟩) hqg _).far (p := ⟨q, jj * 4 + 2, none⟩) hqg _).far (p := ⟨q, jj * 4 + 3, none⟩) hqg _), ⟨_, by simpa using HUS.out, hft, hpt⟩⟩, trivial⟩ | exact ⟨fun t ht => trivial, ⟨((((hR.1.setCell (p := ⟨q, jj * 4, none⟩) hq5 _).setCell (p := ⟨q, jj * 4 + 1, none⟩) hq5 _).setCell (p := ⟨q, jj * 4 + 2, none⟩) hq5 _).setCell (p := ⟨q, jj * 4 + 3, none⟩) hq5 _), ((((hR.2.1.far (p := ⟨q, jj * 4, none⟩) hq16 _).far (p := ⟨q, jj * 4 + 1, none⟩) hq16 _).far (p := ⟨q, jj * 4 + 2, none⟩) hq16 _).far (p := ⟨q, jj * 4 + 3, none⟩) hq16 _), ((((hR.2.2.1.far (p := ⟨q, jj * 4, none⟩) hqg _).far (p := ⟨q, jj * 4 + 1, none⟩) hqg _).far (p := ⟨q, jj * 4 + 2, none⟩) hqg _).far (p := ⟨q, jj * 4 + 3, none⟩) hqg _), ⟨_, by simpa using HUS.out, hft, hpt⟩⟩, trivial⟩ | exact ⟨⟨((((hR.1.setCell (p := ⟨q, jj * 4, none⟩) hq5 _).setCell (p := ⟨q, jj * 4 + 1, none⟩) hq5 _).setCell (p := ⟨q, jj * 4 + 2, none⟩) hq5 _).setCell (p := ⟨q, jj * 4 + 3, none⟩) hq5 _), ((((hR.2.1.far (p := ⟨q, jj * 4, none⟩) hq16 _).far (p := ⟨q, jj * 4 + 1, none⟩) hq16 _).far (p := ⟨q, jj * 4 + 2, none⟩) hq16 _).far (p := ⟨q, jj * 4 + 3, none⟩) hq16 _), ((((hR.2.2.1.far (p := ⟨q, jj * 4, none⟩) hqg _).far (p := ⟨q, jj * 4 + 1, none⟩) hqg _).far (p := ⟨q, jj * 4 + 2, none⟩) hqg _).far (p := ⟨q, jj * 4 + 3, none⟩) hqg _), ⟨_, by simpa using HUS.out, hft, hpt⟩⟩, trivial⟩ | exact ⟨trivial, ⟨((((hR.1.setCell (p := ⟨q, jj * 4, none⟩) hq5 _).setCell (p := ⟨q, jj * 4 + 1, none⟩) hq5 _).setCell (p := ⟨q, jj * 4 + 2, none⟩) hq5 _).setCell (p := ⟨q, jj * 4 + 3, none⟩) hq5 _), ((((hR.2.1.far (p := ⟨q, jj * 4, none⟩) hq16 _).far (p := ⟨q, jj * 4 + 1, none⟩) hq16 _).far (p := ⟨q, jj * 4 + 2, none⟩) hq16 _).far (p := ⟨q, jj * 4 + 3, none⟩) hq16 _), ((((hR.2.2.1.far (p := ⟨q, jj * 4, none⟩) hqg _).far (p := ⟨q, jj * 4 + 1, none⟩) hqg _).far (p := ⟨q, jj * 4 + 2, none⟩) hqg _).far (p := ⟨q, jj * 4 + 3, none⟩) hqg _), ⟨_, by simpa using HUS.out, hft, hpt⟩⟩, trivial⟩ | exact ⟨((((hR.1.setCell (p := ⟨q, jj * 4, none⟩) hq5 _).setCell (p := ⟨q, jj * 4 + 1, none⟩) hq5 _).setCell (p := ⟨q, jj * 4 + 2, none⟩) hq5 _).setCell (p := ⟨q, jj * 4 + 3, none⟩) hq5 _), ((((hR.2.1.far (p := ⟨q, jj * 4, none⟩) hq16 _).far (p := ⟨q, jj * 4 + 1, none⟩) hq16 _).far (p := ⟨q, jj * 4 + 2, none⟩) hq16 _).far (p := ⟨q, jj * 4 + 3, none⟩) hq16 _), ((((hR.2.2.1.far (p := ⟨q, jj * 4, none⟩) hqg _).far (p := ⟨q, jj * 4 + 1, none⟩) hqg _).far (p := ⟨q, jj * 4 + 2, none⟩) hqg _).far (p := ⟨q, jj * 4 + 3, none⟩) hqg _), ⟨_, by simpa using HUS.out, hft, hpt⟩⟩
    | n + 10, hi, _ => exact absurd hi (by simp)
  intro ρ w8 hR hρ hne K hK
  show K (putAll _ _ ρ 10) _
  simp only [putAll, dOf, List.getElem?_toArray, List.getElem?_cons_zero, List.getElem?_cons_succ, Option.bind_some, Act.put, List.setIfInBounds_toArray, List.set_cons_zero, List.set_cons_succ]
  refine hK _ _ ?_
  change wpList _ _ _ [] _ _
  obtain ⟨hB8, x16, hrow, us, hus, hfu, hwu⟩ := hR
  clear hK K hρ hne R7a R7b R7c hwb7
  go_wp2_with fail
  have hl7 : 1 ≤ l7.length ∧ l7.length ≤ 8 := by have := V.len; omega
  refine (fit_c at_ (l7.length : Int) _ (by omega) (by omega)).mono ?_
  rintro e w9 ⟨y9, rfl, hy1, hy2, hb9⟩
  obtain ⟨jo, rfl⟩ := Int.eq_ofNat_of_zero_le hy1
  have hjo : jo < l7.length := by omega
  have hrow9 := hrow.below hb9
  have hc9 := (hrow9.cell hjo).1
  have hf9 := (hrow9.cell hjo).2
  have hrow10 : RowAt (w9.setCell ⟨g, jo, none⟩ (I second)) g cg (l7.set jo second) := (hrow9.self hjo).put hjo
  have hB10 : Below w5.heap.size w5 (w9.setCell ⟨g, jo, none⟩ (I second)) := (hB8.trans (hb9.mono hB8.size)).setCell (p := ⟨g, jo, none⟩) hg5 _
  have x16b : Bx (w9.setCell ⟨g, jo, none⟩ (I second)) q16 24 #[I r, .slice (some ⟨q, 0, none⟩) ws.length cq] := (x16.below hb9 x16.lt).far (p := ⟨g, jo, none⟩) hq16g _
  have hwu10 : WB (w9.setCell ⟨g, jo, none⟩ (I second)) q us := (hwu.below hb9).same (Below.heap_setCell _ _ _ _ (fun e => hqg e.symm))
  clear hrow hB8 x16 hwu
  go_upto_region 9 with (fail)
  generalize w9.setCell ⟨g, jo, none⟩ (I second) = w10 at *
  clear hrow9 hc9 hf9 hb9 hy1 hy2
  have xs10 := xs.below hB10 xs.lt
  have x14b := L5.box.below hB10 L5.box.lt
  have m6 := xs10.cell
  have m14 := x14b.cell
  have m16 := x16b.cell
  go_wp2_with fail
  have hbb : Below w.heap.size w w10 := L5.below.trans (hB10.mono L5.below.size)
  obtain ⟨XS, CQ0⟩ : ∃ XS : Nat → Qu, CQ XS w10.heap.size (w10.heap.size + 1) w ((w10.alloc (.cells #[I rs, .slice Ar wss.length cs, I r, .slice (some ⟨b1, o1, none⟩) ws.length c, I r, .slice (some ⟨q, 0, none⟩) ws.length cq, I r, .slice (some ⟨b1, o1, none⟩) ws.length c, I r, .slice (some ⟨b1, o1, none⟩) ws.length c] 24)).alloc (.cells #[.slice Bs stss.length cbs, .slice (some ⟨b2, o2, none⟩) l7.length cb, .slice (some ⟨b2, o2, none⟩) l7.length cb, .slice (some ⟨g, 0, none⟩) l7.length cg, .slice Bs stss.length cbs] 25)) := by
    have z18 := (Bx.new w10 24 #[I rs, .slice Ar wss.length cs, I r, .slice (some ⟨b1, o1, none⟩) ws.length c, I r, .slice (some ⟨q, 0, none⟩) ws.length cq, I r, .slice (some ⟨b1, o1, none⟩) ws.length c, I r, .slice (some ⟨b1, o1, none⟩) ws.length c]).alloc (.cells #[.slice Bs stss.length cbs, .slice (some ⟨b2, o2, none⟩) l7.length cb, .slice (some ⟨b2, o2, none⟩) l7.length cb, .slice (some ⟨g, 0, none⟩) l7.length cg, .slice Bs stss.length cbs] 25)
    have z19 := Bx.new' (w10.alloc (.cells #[I rs, .slice Ar wss.length cs, I r, .slice (some ⟨b1, o1, none⟩) ws.length c, I r, .slice (some ⟨q, 0, none⟩) ws.length cq, I r, .slice (some ⟨b1, o1, none⟩) ws.length c, I r, .slice (some ⟨b1, o1, none⟩) ws.length c] 24)) 25 #[.slice Bs stss.length cbs, .slice (some ⟨b2, o2, none⟩) l7.length cb, .slice (some ⟨b2, o2, none⟩) l7.length cb, .slice (some ⟨g, 0, none⟩) l7.length cg, .slice Bs stss.length cbs] (w10.heap.size + 1) (by simp)
    have hal : Below w10.heap.size w10 ((w10.alloc (.cells #[I rs, .slice Ar wss.length cs, I r, .slice (some ⟨b1, o1, none⟩) ws.length c, I r, .slice (some ⟨q, 0, none⟩) ws.length cq, I r, .slice (some ⟨b1, o1, none⟩) ws.length c, I r, .slice (some ⟨b1, o1, none⟩) ws.length c] 24)).alloc (.cells #[.slice Bs stss.length cbs, .slice (some ⟨b2, o2, none⟩) l7.length cb, .slice (some ⟨b2, o2, none⟩) l7.length cb, .slice (some ⟨g, 0, none⟩) l7.length cg, .slice Bs stss.length cbs] 25)) := ((Below.refl _ _).alloc (Nat.le_refl _) _).alloc (by simp) _
    have hws := (L5.wings.below hB10 (Nat.le_refl _)).below hal (Nat.le_refl _)
    have hst := (Sl.below (Sl.below hsl5 hB10 (Nat.le_refl _)) hal (Nat.le_refl _))
    have hu := (hwu10.below hal).sl
    have ho := (hrow10.below hal).sl
    have k0 := ok.grow (hbb.trans (hal.mono hbb.size))
    have hV := V.max
    have hVl := V.len
    have hcg : l7.length ≤ cg := by obtain ⟨cs', _, _, h, _⟩ := hrow10; simpa using h
    have hm' : ∀ n : Nat, n ≤ 8 → n ≤ maxLen := fun n h => by unfold maxLen; omega
    refine ⟨fun j => match j with
      | 0 => ⟨rs, Ar, cs, wss, Ts, Bs, cbs, stss, Tt⟩
      | 1 => ⟨r, some ⟨b1, o1, none⟩, c, ws, 29, some ⟨b2, o2, none⟩, cb, l7, 3⟩
      | 2 => ⟨r, some ⟨q, 0, none⟩, cq, us, 29, some ⟨b2, o2, none⟩, cb, l7, 3⟩
      | 3 => ⟨r, some ⟨b1, o1, none⟩, c, ws, 29, some ⟨g, 0, none⟩, cg, l7.set jo second, 3⟩
      | _ => ⟨r, some ⟨b1, o1, none⟩, c, ws, 29, Bs, cbs, stss, Tt⟩, z18.lt, z19.lt, fun j hj => ?_, fun j hj => ?_, fun j hj => ?_, fun j hj => ?_, fun j hj => ?_, hbb.trans (hal.mono hbb.size)⟩
    · match j, hj with
      | 0, _ => exact k0
      | 1, _ => exact ⟨hws, V.fit, hV.1, V.cap, hst, hV.2, V.capb⟩
      | 2, _ => exact ⟨hu, hfu, (by show us.length ≤ maxLen; rw [hus]; exact hV.1), (by show us.length ≤ cq; rw [hus]; exact hcq), hst, hV.2, V.capb⟩
      | 3, _ => exact ⟨hws, V.fit, hV.1, V.cap, ho, by simp only [List.length_set]; exact hV.2, by simp only [List.length_set]; exact hcg⟩
      | 4, _ => exact ⟨hws, V.fit, hV.1, V.cap, k0.h2, k0.l2, k0.c2⟩
    · match j, hj with
      | 0, _ => exact ⟨hsA, hsB, hw15, hshort⟩
      | 1, _ => exact ⟨fun h => (by cases h), fun h => (by cases h), (by show ws.length ≤ 15; omega), (by show l7.length ≤ 20; omega)⟩
      | 2, _ => exact ⟨fun h => (by cases h), fun h => (by cases h), (by show us.length ≤ 15; omega), (by show l7.length ≤ 20; omega)⟩
      | 3, _ => exact ⟨fun h => (by cases h), fun h => (by cases h), (by show ws.length ≤ 15; omega), (by show (l7.set jo second).length ≤ 20; simp only [List.length_set]; omega)⟩
      | 4, _ => exact ⟨fun h => (by cases h), hsB, (by show ws.length ≤ 15; omega), hshort⟩
    · match j, hj with
      | 0, _ => exact z18.cell 0
      | 1, _ => exact z18.cell 2
      | 2, _ => exact z18.cell 4
      | 3, _ => exact z18.cell 6
      | 4, _ => exact z18.cell 8
    · match j, hj with
      | 0, _ => exact z18.cell 1
      | 1, _ => exact z18.cell 3
      | 2, _ => exact (z18.cell 5).trans (by show _ = some (Value.slice (some ⟨q, 0, none⟩) us.length cq); rw [hus]; rfl)
      | 3, _ => exact z18.cell 7
      | 4, _ => exact z18.cell 9
    · match j, hj with
      | 0, _ => exact z19.cell 0
      | 1, _ => exact z19.cell 1
      | 2, _ => exact z19.cell 2
      | 3, _ => exact (z19.cell 3).trans (by show _ = some (Value.slice (some ⟨g, 0, none⟩) (l7.set jo second).length cg); rw [List.length_set]; rfl)
      | 4, _ => exact z19.cell 4
  generalize w10.heap.size = b18 at *
  clear m6 m14 m16 xs10 x14b x16b hwu10 hrow10 hB10 hbb hus hfu L5 xs xw hsl5 ok hs0 hjo hq16g hqg hq5 hcq hg5
  generalize b18 + 1 = b19 at *
  go_loopw [20] (fun i wr => ∃ n : Nat, i = .int .i64 n ∧ n ≤ 5 ∧ CQ XS b18 b19 w wr) (fun i _ => 5 - (intOf i).toNat)
  case atStart => exact ⟨0, rfl, by omega, CQ0⟩
  case round =>
    obtain ⟨i, rfl, hi5, hT⟩ := hrel
    clear CQ0
    by_cases hlt : i < 5
    · have hil : (i : Int) < 5 := by omega
      go_wp2_with fail
      refine wp_region_list_s (by kernel_rfl) (R := RB wr.heap.size wr) (F := FC (XS i).r (XS i).ws wr.heap.size) [] [] [(11, 10)]
          [As.is _ _ (.slice (some ⟨b18, 0, none⟩) 5 5),
          As.is _ _ (I (i : Int)),
          As.is _ _ (.pointer (some ⟨b18, i * 2, none⟩)),
          As.is _ _ (.agg #[I (XS i).r, .slice (XS i).A (XS i).ws.length (XS i).c]),
          asOwn _ (XS i).r (XS i).ws wr.heap.size,
          As.is _ _ (.slice (some ⟨b19, 0, none⟩) 5 5),
          As.is _ _ (I (i : Int)),
          As.is _ _ (.pointer (some ⟨b19, i, none⟩)),
          As.is _ _ (.slice (XS i).B (XS i).sts.length (XS i).cb),
          asNums _ (XS i).r (XS i).ws wr.heap.size (XS i).sts,
          asSc0 _ (XS i).r (XS i).ws wr.heap.size,
          asSc1 _ (XS i).r (XS i).ws wr.heap.size,
          asNums _ (XS i).r (XS i).ws wr.heap.size (XS i).sts] 162 (by kernel_rfl) rfl ((Below.refl _ _).drew) (by simp) (by simp) ?_ (fun _ => FC.refl _ _ _ _) ?_ ?_ ?_
      · intro i' hi' o' ho k' b' hg u w' hR hu
        match i', hi', ho with
        | 0, _, ho => cases ho; cases hg
        | 1, _, ho => cases ho; cases hg
        | 2, _, ho => cases ho; cases hg
        | 3, _, ho => cases ho; cases hg
        | 4, _, ho => cases ho; cases hg
        | 5, _, ho => cases ho; cases hg
        | 6, _, ho => cases ho; cases hg
        | 7, _, ho => cases ho; cases hg
        | 8, _, ho => cases ho; cases hg
        | 9, _, ho => cases ho; cases hg
        | 10, _, ho => cases ho; cases hg
        | 11, _, ho => cases ho; cases hg
        | 12, _, ho => cases ho; cases hg
        | n + 13, hi, _ => exact absurd hi (by simp)
      · intro i' hi' hsk; cases hsk
      · intro i' hi' hsk o' ho ev w' hR hc hf hg hs hd
        match i', hi', ho with
        | 0, _, ho =>
          clear hsk
          cases ho
          have e18 : ev (.tmp 18) = .slice (some ⟨b18, 0, none⟩) 5 5 := hs 18 (by kernel_rfl)
          go_simp
          first | exact ⟨rfl, hR, FC.refl _ _ _ _⟩ | exact ⟨⟨rfl, rfl⟩, hR, FC.refl _ _ _ _⟩ | exact ⟨⟨rfl, fun h => absurd h (by decide)⟩, hR, FC.refl _ _ _ _⟩ | exact ⟨⟨rfl, rfl, fun h => absurd h (by decide)⟩, hR, FC.refl _ _ _ _⟩
        | 1, _, ho =>
          clear hsk
          cases ho
          have e20 : ev (.tmp 20) = I (i : Int) := hs 20 (by kernel_rfl)
          go_simp
          first | exact ⟨rfl, hR, FC.refl _ _ _ _⟩ | exact ⟨⟨rfl, rfl⟩, hR, FC.refl _ _ _ _⟩ | exact ⟨⟨rfl, fun h => absurd h (by decide)⟩, hR, FC.refl _ _ _ _⟩ | exact ⟨⟨rfl, rfl, fun h => absurd h (by decide)⟩, hR, FC.refl _ _ _ _⟩
        | 2, _, ho =>
          clear hsk
          cases ho
          have e86 : ev (.tmp 86) = .slice (some ⟨b18, 0, none⟩) 5 5 := hd 0 86 (by kernel_rfl)
          have e87 : ev (.tmp 87) = I (i : Int) := hd 1 87 (by kernel_rfl)
          have hil : (i : Int) < 5 := by omega
          go_simp
          first | exact ⟨rfl, hR, FC.refl _ _ _ _⟩ | exact ⟨⟨rfl, rfl⟩, hR, FC.refl _ _ _ _⟩ | exact ⟨⟨rfl, fun h => absurd h (by decide)⟩, hR, FC.refl _ _ _ _⟩ | exact ⟨⟨rfl, rfl, fun h => absurd h (by decide)⟩, hR, FC.refl _ _ _ _⟩
        | 3, _, ho =>
          clear hsk
          cases ho
          have e88 : ev (.tmp 88) = .pointer (some ⟨b18, i * 2, none⟩) := hd 2 88 (by kernel_rfl)
          have m1 := (hT.grow hR).cr i hlt
          have m2 := (hT.grow hR).cs i hlt
          go_simp
          first | exact ⟨rfl, hR, FC.refl _ _ _ _⟩ | exact ⟨⟨rfl, rfl⟩, hR, FC.refl _ _ _ _⟩ | exact ⟨⟨rfl, fun h => absurd h (by decide)⟩, hR, FC.refl _ _ _ _⟩ | exact ⟨⟨rfl, rfl, fun h => absurd h (by decide)⟩, hR, FC.refl _ _ _ _⟩
        | 4, _, ho =>
          clear hsk
          cases ho
          have e89 : ev (.tmp 89) = .agg #[I (XS i).r, .slice (XS i).A (XS i).ws.length (XS i).c] := hd 3 89 (by kernel_rfl)
          go_simp
          refine (((hT.grow hR).ok i hlt).own (hT.few i hlt)).mono ?_
          rintro e wz ⟨A', c', rfl, h1, h2, hwz⟩
          first | exact ⟨⟨A', c', rfl, h1, h2⟩, hR.trans (hwz.mono hR.size), FC.below hwz⟩ | exact ⟨⟨rfl, ⟨A', c', rfl, h1, h2⟩⟩, hR.trans (hwz.mono hR.size), FC.below hwz⟩ | exact ⟨⟨⟨A', c', rfl, h1, h2⟩, fun h => absurd h (by decide)⟩, hR.trans (hwz.mono hR.size), FC.below hwz⟩ | exact ⟨⟨rfl, ⟨A', c', rfl, h1, h2⟩, fun h => absurd h (by decide)⟩, hR.trans (hwz.mono hR.size), FC.below hwz⟩
        | 5, _, ho =>
          clear hsk
          cases ho
          have e19 : ev (.tmp 19) = .slice (some ⟨b19, 0, none⟩) 5 5 := hs 19 (by kernel_rfl)
          go_simp
          first | exact ⟨rfl, hR, FC.refl _ _ _ _⟩ | exact ⟨⟨rfl, rfl⟩, hR, FC.refl _ _ _ _⟩ | exact ⟨⟨rfl, fun h => absurd h (by decide)⟩, hR, FC.refl _ _ _ _⟩ | exact ⟨⟨rfl, rfl, fun h => absurd h (by decide)⟩, hR, FC.refl _ _ _ _⟩
        | 6, _, ho =>
          clear hsk
          cases ho
          have e20 : ev (.tmp 20) = I (i : Int) := hs 20 (by kernel_rfl)
          go_simp
          first | exact ⟨rfl, hR, FC.refl _ _ _ _⟩ | exact ⟨⟨rfl, rfl⟩, hR, FC.refl _ _ _ _⟩ | exact ⟨⟨rfl, fun h => absurd h (by decide)⟩, hR, FC.refl _ _ _ _⟩ | exact ⟨⟨rfl, rfl, fun h => absurd h (by decide)⟩, hR, FC.refl _ _ _ _⟩
        | 7, _, ho =>
          clear hsk
          cases ho
          have e91 : ev (.tmp 91) = .slice (some ⟨b19, 0, none⟩) 5 5 := hd 5 91 (by kernel_rfl)
          have e92 : ev (.tmp 92) = I (i : Int) := hd 6 92 (by kernel_rfl)
          have hil : (i : Int) < 5 := by omega
          go_simp
          first | exact ⟨rfl, hR, FC.refl _ _ _ _⟩ | exact ⟨⟨rfl, rfl⟩, hR, FC.refl _ _ _ _⟩ | exact ⟨⟨rfl, fun h => absurd h (by decide)⟩, hR, FC.refl _ _ _ _⟩ | exact ⟨⟨rfl, rfl, fun h => absurd h (by decide)⟩, hR, FC.refl _ _ _ _⟩
        | 8, _, ho =>
          clear hsk
          cases ho
          have e93 : ev (.tmp 93) = .pointer (some ⟨b19, i, none⟩) := hd 7 93 (by kernel_rfl)
          have m1 := (hT.grow hR).cl i hlt
          go_simp
          first | exact ⟨rfl, hR, FC.refl _ _ _ _⟩ | exact ⟨⟨rfl, rfl⟩, hR, FC.refl _ _ _ _⟩ | exact ⟨⟨rfl, fun h => absurd h (by decide)⟩, hR, FC.refl _ _ _ _⟩ | exact ⟨⟨rfl, rfl, fun h => absurd h (by decide)⟩, hR, FC.refl _ _ _ _⟩
        | 9, _, ho =>
          clear hsk
          cases ho
          have e94 : ev (.tmp 94) = .slice (XS i).B (XS i).sts.length (XS i).cb := hd 8 94 (by kernel_rfl)
          go_simp
          refine (((hT.grow hR).ok i hlt).ints (hT.few i hlt)).mono ?_
          rintro e wz ⟨A', c', rfl, h1, h2, hwz⟩
          first | exact ⟨⟨A', c', rfl, h1, h2⟩, hR.trans (hwz.mono hR.size), FC.below hwz⟩ | exact ⟨⟨rfl, ⟨A', c', rfl, h1, h2⟩⟩, hR.trans (hwz.mono hR.size), FC.below hwz⟩ | exact ⟨⟨⟨A', c', rfl, h1, h2⟩, fun h => absurd h (by decide)⟩, hR.trans (hwz.mono hR.size), FC.below hwz⟩ | exact ⟨⟨rfl, ⟨A', c', rfl, h1, h2⟩, fun h => absurd h (by decide)⟩, hR.trans (hwz.mono hR.size), FC.below hwz⟩
        | 10, _, ho =>
          clear hsk
          cases ho
          go_simp
          first | exact ⟨⟨_, rfl, hR.size, .inl (Bx.new _ _ _)⟩, hR.trans (((Below.refl _ _).alloc (Nat.le_refl _) _).mono hR.size), FC.below ((Below.refl _ _).alloc (Nat.le_refl _) _)⟩ | exact ⟨⟨rfl, ⟨_, rfl, hR.size, .inl (Bx.new _ _ _)⟩⟩, hR.trans (((Below.refl _ _).alloc (Nat.le_refl _) _).mono hR.size), FC.below ((Below.refl _ _).alloc (Nat.le_refl _) _)⟩ | exact ⟨⟨⟨_, rfl, hR.size, .inl (Bx.new _ _ _)⟩, fun h => absurd h (by decide)⟩, hR.trans (((Below.refl _ _).alloc (Nat.le_refl _) _).mono hR.size), FC.below ((Below.refl _ _).alloc (Nat.le_refl _) _)⟩ | exact ⟨⟨rfl, ⟨_, rfl, hR.size, .inl (Bx.new _ _ _)⟩, fun h => absurd h (by decide)⟩, hR.trans (((Below.refl _ _).alloc (Nat.le_refl _) _).mono hR.size), FC.below ((Below.refl _ _).alloc (Nat.le_refl _) _)⟩
        | 11, _, ho =>
          clear hsk
          cases ho
          obtain ⟨bx, e21, hb1, hb2⟩ : ∃ b, ev (.tmp 21) = .pointer (some ⟨b, 0, none⟩) ∧ wr.heap.size ≤ b ∧ Sc0 (XS i).r (XS i).ws w' b := hd 10 21 (by kernel_rfl)
          obtain ⟨A', c', e90, hA1, hA2⟩ : ∃ A' c', ev (.tmp 90) = .agg #[I (XS i).r, .slice A' (XS i).ws.length c'] ∧ SlW w' 29 A' (XS i).ws ∧ (XS i).ws.length ≤ c' := hd 4 90 (by kernel_rfl)
          obtain ⟨u0, u1, hbx⟩ : ∃ u0 u1, Bx w' bx 24 #[u0, u1] := by
            rcases hb2 with h | ⟨_, _, h, _⟩
            · exact ⟨_, _, h⟩
            · exact ⟨_, _, h⟩
          have hcx := hbx.cell
          have hfx := hbx.free
          go_simp
          have hput := hb2.put hA1 hA2
          first | exact ⟨⟨rfl, fun t ht => (by cases ht; exact ⟨bx, e21, hb1, hput⟩)⟩, ((hR.setCell (p := ⟨bx, 0, none⟩) hb1 _).setCell (p := ⟨bx, 1, none⟩) hb1 _), FC.put hb1 hb2 hA1 hA2⟩ | exact ⟨fun t ht => (by cases ht; exact ⟨bx, e21, hb1, hput⟩), ((hR.setCell (p := ⟨bx, 0, none⟩) hb1 _).setCell (p := ⟨bx, 1, none⟩) hb1 _), FC.put hb1 hb2 hA1 hA2⟩ | exact ⟨⟨bx, e21, hb1, hput⟩, ((hR.setCell (p := ⟨bx, 0, none⟩) hb1 _).setCell (p := ⟨bx, 1, none⟩) hb1 _), FC.put hb1 hb2 hA1 hA2⟩
        | 12, _, ho =>
          clear hsk
          cases ho
          obtain ⟨B', d', e95, hB1, hB2⟩ : ∃ B' c', ev (.tmp 95) = .slice B' (XS i).sts.length c' ∧ SlI w' 3 B' (XS i).sts ∧ (XS i).sts.length ≤ c' := hd 9 95 (by kernel_rfl)
          go_simp
          first | exact ⟨⟨B', d', rfl, hB1, hB2⟩, hR, FC.refl _ _ _ _⟩ | exact ⟨⟨rfl, ⟨B', d', rfl, hB1, hB2⟩⟩, hR, FC.refl _ _ _ _⟩ | exact ⟨⟨⟨B', d', rfl, hB1, hB2⟩, fun h => absurd h (by decide)⟩, hR, FC.refl _ _ _ _⟩ | exact ⟨⟨rfl, ⟨B', d', rfl, hB1, hB2⟩, fun h => absurd h (by decide)⟩, hR, FC.refl _ _ _ _⟩
        | n + 13, hi, _ => exact absurd hi (by simp)
      intro ρ w13 hR hρ hne K hK
      obtain ⟨q21, p21, hq21, A', c', x21, hA1, hA2⟩ : ∃ b, ρ 10 = .pointer (some ⟨b, 0, none⟩) ∧ wr.heap.size ≤ b ∧ ScB (XS i).r (XS i).ws w13 b := hρ 11 (by simp)
      obtain ⟨B', d', p22, hB1, hB2⟩ : ∃ B' c', ρ 12 = .slice B' (XS i).sts.length c' ∧ SlI w13 3 B' (XS i).sts ∧ (XS i).sts.length ≤ c' := hρ 12 (by simp)
      show K (putAll _ _ ρ 13) _
      simp only [putAll, dOf, List.getElem?_toArray, List.getElem?_cons_zero, List.getElem?_cons_succ, Option.bind_some, Act.put, List.setIfInBounds_toArray, List.set_cons_zero, List.set_cons_succ]
      rw [p21, p22]
      refine hK _ _ ?_
      change wpList _ _ _ [] _ _
      have T13 := hT.grow hR
      clear hK K p21 p22 hρ hne hR
      have hc21 := x21.cell
      go_wp2_with fail
      refine (least_c (XS i).r A' c' (XS i).ws _ _ hA1 (T13.ok i hlt).fit (T13.ok i hlt).l1 hA2).mono ?_
      intro e w14 h14
      obtain ⟨Ba, da, rfl, hla, hb14⟩ := h14.ls
      have T14 := T13.grow hb14
      have x21 := x21.below hb14 x21.lt
      have hA1 := Sl.below hA1 hb14 (Nat.le_refl _)
      have hB1 := Sl.below hB1 hb14 (Nat.le_refl _)
      clear hc21 h14 hb14 T13
      have hcr := T14.cr i hlt
      have hcs := T14.cs i hlt
      go_wp2_with fail
      refine (leastR_c (XS i).r (XS i).A (XS i).c (XS i).ws _ _ (T14.ok i hlt).h1 (T14.ok i hlt).fit (T14.ok i hlt).l1 (T14.ok i hlt).c1).mono ?_
      intro e w15 h15
      obtain ⟨Bb, db, rfl, hlb, hb15⟩ := h15.ls
      have T15 := T14.grow hb15
      have x21 := x21.below hb15 x21.lt
      have hA1 := Sl.below hA1 hb15 (Nat.le_refl _)
      have hB1 := Sl.below hB1 hb15 (Nat.le_refl _)
      have hla := Sl.below hla hb15 (Nat.le_refl _)
      clear hcr hcs h15 hb15 T14
      go_wp2_with fail
      refine wp_region_list_s (by kernel_rfl) (R := RB w15.heap.size w15) (F := FB) [] [] []
          [As.is _ _ (.agg #[I (XS i).r, .slice A' (XS i).ws.length c']),
          As.is _ _ (I (chk (XS i).r (XS i).ws)),
          As.is _ _ (.slice (some ⟨b18, 0, none⟩) 5 5),
          As.is _ _ (I (i : Int)),
          As.is _ _ (.pointer (some ⟨b18, i * 2, none⟩)),
          As.is _ _ (.agg #[I (XS i).r, .slice (XS i).A (XS i).ws.length (XS i).c]),
          As.is _ _ (I (chk (XS i).r (XS i).ws)),
          As.is _ _ (.bool false),
          As.is _ _ (.bool false),
          As.is _ _ (.agg #[I (XS i).r, .slice A' (XS i).ws.length c']),
          As.is _ _ (.slice B' (XS i).sts.length d'),
          As.is _ _ (I (cst (XS i).r (XS i).ws (XS i).sts)),
          As.is _ _ (.slice (some ⟨b18, 0, none⟩) 5 5),
          As.is _ _ (I (i : Int)),
          As.is _ _ (.pointer (some ⟨b18, i * 2, none⟩)),
          As.is _ _ (.agg #[I (XS i).r, .slice (XS i).A (XS i).ws.length (XS i).c]),
          As.is _ _ (.slice (some ⟨b19, 0, none⟩) 5 5),
          As.is _ _ (I (i : Int)),
          As.is _ _ (.pointer (some ⟨b19, i, none⟩)),
          As.is _ _ (.slice (XS i).B (XS i).sts.length (XS i).cb),
          As.is _ _ (I (cst (XS i).r (XS i).ws (XS i).sts)),
          As.is _ _ (.bool false),
          As.is _ _ (.bool false),
          As.is _ _ (.bool false),
          As.is _ _ (I (lsE (XS i).r (XS i).ws)),
          As.is _ _ (I (lsE (XS i).r (XS i).ws)),
          As.is _ _ (.bool false),
          As.is _ _ (.bool false),
          As.is _ _ (.bool false),
          As.is _ _ (.slice Ba (lsL (XS i).r (XS i).ws).length da),
          As.is _ _ (.slice Bb (lsL (XS i).r (XS i).ws).length db),
          As.is _ _ (.bool true),
          As.is _ _ (.bool false),
          As.is _ _ (.bool false),
          As.is _ _ (.bool false),
          As.is _ _ (.agg #[I (XS i).r, .slice A' (XS i).ws.length c']),
          As.is _ _ (.slice (some ⟨b18, 0, none⟩) 5 5),
          As.is _ _ (I (i : Int)),
          As.is _ _ (.pointer (some ⟨b18, i * 2, none⟩)),
          As.is _ _ (.agg #[I (XS i).r, .slice (XS i).A (XS i).ws.length (XS i).c]),
          As.is _ _ (.bool true),
          As.is _ _ (.bool false),
          As.is _ _ (.bool false),
          As.is _ _ (.bool false),
          As.is _ _ (.slice B' (XS i).sts.length d'),
          As.is _ _ (.slice (some ⟨b19, 0, none⟩) 5 5),
          As.is _ _ (I (i : Int)),
          As.is _ _ (.pointer (some ⟨b19, i, none⟩)),
          As.is _ _ (.slice (XS i).B (XS i).sts.length (XS i).cb),
          As.is _ _ (.bool true),
          As.is _ _ (.bool false),
          As.is _ _ (.bool false)] 162 (by kernel_rfl) rfl ((Below.refl _ _).drew) (by simp) (by simp) ?_ (fun _ => Below.refl _ _) ?_ ?_ ?_
      · intro i' hi' o' ho k' b' hg u w' hR hu
        match i', hi', ho with
        | 0, _, ho => cases ho; cases hg
        | 1, _, ho => cases ho; cases hg
        | 2, _, ho => cases ho; cases hg
        | 3, _, ho => cases ho; cases hg
        | 4, _, ho => cases ho; cases hg
        | 5, _, ho => cases ho; cases hg
        | 6, _, ho => cases ho; cases hg
        | 7, _, ho => cases ho; cases hg
        | 8, _, ho => cases ho; cases hg
        | 9, _, ho => cases ho; cases hg; exact hu.trans (by simp)
        | 10, _, ho => cases ho; cases hg; exact hu.trans (by simp)
        | 11, _, ho => cases ho; cases hg; exact hu.trans (by simp)
        | 12, _, ho => cases ho; cases hg; exact hu.trans (by simp)
        | 13, _, ho => cases ho; cases hg; exact hu.trans (by simp)
        | 14, _, ho => cases ho; cases hg; exact hu.trans (by simp)
        | 15, _, ho => cases ho; cases hg; exact hu.trans (by simp)
        | 16, _, ho => cases ho; cases hg; exact hu.trans (by simp)
        | 17, _, ho => cases ho; cases hg; exact hu.trans (by simp)
        | 18, _, ho => cases ho; cases hg; exact hu.trans (by simp)
        | 19, _, ho => cases ho; cases hg; exact hu.trans (by simp)
        | 20, _, ho => cases ho; cases hg; exact hu.trans (by simp)
        | 21, _, ho => cases ho; cases hg; exact hu.trans (by simp)
        | 22, _, ho => cases ho; cases hg
        | 23, _, ho => cases ho; cases hg
        | 24, _, ho => cases ho; cases hg; exact hu.trans (by simp)
        | 25, _, ho => cases ho; cases hg; exact hu.trans (by simp)
        | 26, _, ho => cases ho; cases hg; exact hu.trans (by simp)
        | 27, _, ho => cases ho; cases hg
        | 28, _, ho => cases ho; cases hg
        | 29, _, ho => cases ho; cases hg; exact hu.trans (by simp)
        | 30, _, ho => cases ho; cases hg; exact hu.trans (by simp)
        | 31, _, ho => cases ho; cases hg; exact hu.trans (by simp)
        | 32, _, ho => cases ho; cases hg; exact hu.trans (by simp)
        | 33, _, ho => cases ho; cases hg
        | 34, _, ho => cases ho; cases hg
        | 35, _, ho => cases ho; cases hg; exact hu.trans (by simp)
        | 36, _, ho => cases ho; cases hg; exact hu.trans (by simp)
        | 37, _, ho => cases ho; cases hg; exact hu.trans (by simp)
        | 38, _, ho => cases ho; cases hg; exact hu.trans (by simp)
        | 39, _, ho => cases ho; cases hg; exact hu.trans (by simp)
        | 40, _, ho => cases ho; cases hg; exact hu.trans (by simp)
        | 41, _, ho => cases ho; cases hg; exact hu.trans (by simp)
        | 42, _, ho => cases ho; cases hg
        | 43, _, ho => cases ho; cases hg
        | 44, _, ho => cases ho; cases hg; exact hu.trans (by simp)
        | 45, _, ho => cases ho; cases hg; exact hu.trans (by simp)
        | 46, _, ho => cases ho; cases hg; exact hu.trans (by simp)
        | 47, _, ho => cases ho; cases hg; exact hu.trans (by simp)
        | 48, _, ho => cases ho; cases hg; exact hu.trans (by simp)
        | 49, _, ho => cases ho; cases hg; exact hu.trans (by simp)
        | 50, _, ho => cases ho; cases hg; exact hu.trans (by simp)
        | 51, _, ho => cases ho; cases hg
        | n + 52, hi, _ => exact absurd hi (by simp)
      · intro i' hi' hsk; cases hsk
      · intro i' hi' hsk o' ho ev w' hR hc hf hg hs hd
        match i', hi', ho with
        | 0, _, ho =>
          clear hsk
          cases ho
          have e21 : ev (.tmp 21) = .pointer (some ⟨q21, 0, none⟩) := hs 21 (by kernel_rfl)
          have m21 := (x21.below hR x21.lt).cell
          go_simp
          first | exact ⟨rfl, hR, Below.refl _ _⟩ | exact ⟨⟨rfl, rfl⟩, hR, Below.refl _ _⟩ | exact ⟨⟨rfl, fun h => absurd h (by decide)⟩, hR, Below.refl _ _⟩ | exact ⟨⟨rfl, rfl, fun h => absurd h (by decide)⟩, hR, Below.refl _ _⟩
        | 1, _, ho =>
          clear hsk
          cases ho
          have e109 : ev (.tmp 109) = .agg #[I (XS i).r, .slice A' (XS i).ws.length c'] := hd 0 109 (by kernel_rfl)
          go_simp
          refine (check_c (XS i).r A' c' (XS i).ws _ _ (Sl.below hA1 hR (Nat.le_refl _)) (T15.ok i hlt).fit (T15.ok i hlt).l1 hA2).mono ?_
          rintro e wz ⟨rfl, hwz⟩
          first | exact ⟨rfl, hR.trans (hwz.mono hR.size), hwz⟩ | exact ⟨⟨rfl, rfl⟩, hR.trans (hwz.mono hR.size), hwz⟩ | exact ⟨⟨rfl, fun h => absurd h (by decide)⟩, hR.trans (hwz.mono hR.size), hwz⟩ | exact ⟨⟨rfl, rfl, fun h => absurd h (by decide)⟩, hR.trans (hwz.mono hR.size), hwz⟩
        | 2, _, ho =>
          clear hsk
          cases ho
          have e18 : ev (.tmp 18) = .slice (some ⟨b18, 0, none⟩) 5 5 := hs 18 (by kernel_rfl)
          go_simp
          first | exact ⟨rfl, hR, Below.refl _ _⟩ | exact ⟨⟨rfl, rfl⟩, hR, Below.refl _ _⟩ | exact ⟨⟨rfl, fun h => absurd h (by decide)⟩, hR, Below.refl _ _⟩ | exact ⟨⟨rfl, rfl, fun h => absurd h (by decide)⟩, hR, Below.refl _ _⟩
        | 3, _, ho =>
          clear hsk
          cases ho
          have e20 : ev (.tmp 20) = I (i : Int) := hs 20 (by kernel_rfl)
          go_simp
          first | exact ⟨rfl, hR, Below.refl _ _⟩ | exact ⟨⟨rfl, rfl⟩, hR, Below.refl _ _⟩ | exact ⟨⟨rfl, fun h => absurd h (by decide)⟩, hR, Below.refl _ _⟩ | exact ⟨⟨rfl, rfl, fun h => absurd h (by decide)⟩, hR, Below.refl _ _⟩
        | 4, _, ho =>
          clear hsk
          cases ho
          have e111 : ev (.tmp 111) = .slice (some ⟨b18, 0, none⟩) 5 5 := hd 2 111 (by kernel_rfl)
          have e112 : ev (.tmp 112) = I (i : Int) := hd 3 112 (by kernel_rfl)
          have hil : (i : Int) < 5 := by omega
          go_simp
          first | exact ⟨rfl, hR, Below.refl _ _⟩ | exact ⟨⟨rfl, rfl⟩, hR, Below.refl _ _⟩ | exact ⟨⟨rfl, fun h => absurd h (by decide)⟩, hR, Below.refl _ _⟩ | exact ⟨⟨rfl, rfl, fun h => absurd h (by decide)⟩, hR, Below.refl _ _⟩
        | 5, _, ho =>
          clear hsk
          cases ho
          have e113 : ev (.tmp 113) = .pointer (some ⟨b18, i * 2, none⟩) := hd 4 113 (by kernel_rfl)
          have m1 := (T15.grow hR).cr i hlt
          have m2 := (T15.grow hR).cs i hlt
          go_simp
          first | exact ⟨rfl, hR, Below.refl _ _⟩ | exact ⟨⟨rfl, rfl⟩, hR, Below.refl _ _⟩ | exact ⟨⟨rfl, fun h => absurd h (by decide)⟩, hR, Below.refl _ _⟩ | exact ⟨⟨rfl, rfl, fun h => absurd h (by decide)⟩, hR, Below.refl _ _⟩
        | 6, _, ho =>
          clear hsk
          cases ho
          have e114 : ev (.tmp 114) = .agg #[I (XS i).r, .slice (XS i).A (XS i).ws.length (XS i).c] := hd 5 114 (by kernel_rfl)
          go_simp
          refine (checkR_c (XS i).r (XS i).A (XS i).c (XS i).ws _ _ ((T15.grow hR).ok i hlt).h1 (T15.ok i hlt).fit (T15.ok i hlt).l1).mono ?_
          rintro e wz ⟨rfl, hwz⟩
          first | exact ⟨rfl, hR.trans (hwz.mono hR.size), hwz⟩ | exact ⟨⟨rfl, rfl⟩, hR.trans (hwz.mono hR.size), hwz⟩ | exact ⟨⟨rfl, fun h => absurd h (by decide)⟩, hR.trans (hwz.mono hR.size), hwz⟩ | exact ⟨⟨rfl, rfl, fun h => absurd h (by decide)⟩, hR.trans (hwz.mono hR.size), hwz⟩
        | 7, _, ho =>
          clear hsk
          cases ho
          have e110 : ev (.tmp 110) = I (chk (XS i).r (XS i).ws) := hd 1 110 (by kernel_rfl)
          have e115 : ev (.tmp 115) = I (chk (XS i).r (XS i).ws) := hd 6 115 (by kernel_rfl)
          go_simp
          first | exact ⟨rfl, hR, Below.refl _ _⟩ | exact ⟨⟨rfl, rfl⟩, hR, Below.refl _ _⟩ | exact ⟨⟨rfl, fun h => absurd h (by decide)⟩, hR, Below.refl _ _⟩ | exact ⟨⟨rfl, rfl, fun h => absurd h (by decide)⟩, hR, Below.refl _ _⟩
        | 8, _, ho =>
          clear hsk
          cases ho
          have e116 : ev (.tmp 116) = .bool false := hd 7 116 (by kernel_rfl)
          go_simp
          first | exact ⟨rfl, hR, Below.refl _ _⟩ | exact ⟨⟨rfl, rfl⟩, hR, Below.refl _ _⟩ | exact ⟨⟨rfl, fun h => absurd h (by decide)⟩, hR, Below.refl _ _⟩ | exact ⟨⟨rfl, rfl, fun h => absurd h (by decide)⟩, hR, Below.refl _ _⟩
        | 9, _, ho =>
          clear hsk
          cases ho
          have e21 : ev (.tmp 21) = .pointer (some ⟨q21, 0, none⟩) := hs 21 (by kernel_rfl)
          have m21 := (x21.below hR x21.lt).cell
          go_simp
          first | exact ⟨rfl, hR, Below.refl _ _⟩ | exact ⟨⟨rfl, rfl⟩, hR, Below.refl _ _⟩ | exact ⟨⟨rfl, fun h => absurd h (by decide)⟩, hR, Below.refl _ _⟩ | exact ⟨⟨rfl, rfl, fun h => absurd h (by decide)⟩, hR, Below.refl _ _⟩
        | 10, _, ho =>
          clear hsk
          cases ho
          have e22 : ev (.tmp 22) = .slice B' (XS i).sts.length d' := hs 22 (by kernel_rfl)
          go_simp
          first | exact ⟨rfl, hR, Below.refl _ _⟩ | exact ⟨⟨rfl, rfl⟩, hR, Below.refl _ _⟩ | exact ⟨⟨rfl, fun h => absurd h (by decide)⟩, hR, Below.refl _ _⟩ | exact ⟨⟨rfl, rfl, fun h => absurd h (by decide)⟩, hR, Below.refl _ _⟩
        | 11, _, ho =>
          clear hsk
          cases ho
          have e118 : ev (.tmp 118) = .agg #[I (XS i).r, .slice A' (XS i).ws.length c'] := hd 9 118 (by kernel_rfl)
          have e119 : ev (.tmp 119) = .slice B' (XS i).sts.length d' := hd 10 119 (by kernel_rfl)
          go_simp
          refine (checkStarts_c (XS i).r A' B' c' d' (XS i).ws (XS i).sts _ _ _ (Sl.below hA1 hR (Nat.le_refl _)) (Sl.below hB1 hR (Nat.le_refl _)) (T15.ok i hlt).fit (T15.ok i hlt).l1 hA2 (T15.ok i hlt).l2 hB2).mono ?_
          rintro e wz ⟨rfl, hwz⟩
          first | exact ⟨rfl, hR.trans (hwz.mono hR.size), hwz⟩ | exact ⟨⟨rfl, rfl⟩, hR.trans (hwz.mono hR.size), hwz⟩ | exact ⟨⟨rfl, fun h => absurd h (by decide)⟩, hR.trans (hwz.mono hR.size), hwz⟩ | exact ⟨⟨rfl, rfl, fun h => absurd h (by decide)⟩, hR.trans (hwz.mono hR.size), hwz⟩
        | 12, _, ho =>
          clear hsk
          cases ho
          have e18 : ev (.tmp 18) = .slice (some ⟨b18, 0, none⟩) 5 5 := hs 18 (by kernel_rfl)
          go_simp
          first | exact ⟨rfl, hR, Below.refl _ _⟩ | exact ⟨⟨rfl, rfl⟩, hR, Below.refl _ _⟩ | exact ⟨⟨rfl, fun h => absurd h (by decide)⟩, hR, Below.refl _ _⟩ | exact ⟨⟨rfl, rfl, fun h => absurd h (by decide)⟩, hR, Below.refl _ _⟩
        | 13, _, ho =>
          clear hsk
          cases ho
          have e20 : ev (.tmp 20) = I (i : Int) := hs 20 (by kernel_rfl)
          go_simp
          first | exact ⟨rfl, hR, Below.refl _ _⟩ | exact ⟨⟨rfl, rfl⟩, hR, Below.refl _ _⟩ | exact ⟨⟨rfl, fun h => absurd h (by decide)⟩, hR, Below.refl _ _⟩ | exact ⟨⟨rfl, rfl, fun h => absurd h (by decide)⟩, hR, Below.refl _ _⟩
        | 14, _, ho =>
          clear hsk
          cases ho
          have e121 : ev (.tmp 121) = .slice (some ⟨b18, 0, none⟩) 5 5 := hd 12 121 (by kernel_rfl)
          have e122 : ev (.tmp 122) = I (i : Int) := hd 13 122 (by kernel_rfl)
          have hil : (i : Int) < 5 := by omega
          go_simp
          first | exact ⟨rfl, hR, Below.refl _ _⟩ | exact ⟨⟨rfl, rfl⟩, hR, Below.refl _ _⟩ | exact ⟨⟨rfl, fun h => absurd h (by decide)⟩, hR, Below.refl _ _⟩ | exact ⟨⟨rfl, rfl, fun h => absurd h (by decide)⟩, hR, Below.refl _ _⟩
        | 15, _, ho =>
          clear hsk
          cases ho
          have e123 : ev (.tmp 123) = .pointer (some ⟨b18, i * 2, none⟩) := hd 14 123 (by kernel_rfl)
          have m1 := (T15.grow hR).cr i hlt
          have m2 := (T15.grow hR).cs i hlt
          go_simp
          first | exact ⟨rfl, hR, Below.refl _ _⟩ | exact ⟨⟨rfl, rfl⟩, hR, Below.refl _ _⟩ | exact ⟨⟨rfl, fun h => absurd h (by decide)⟩, hR, Below.refl _ _⟩ | exact ⟨⟨rfl, rfl, fun h => absurd h (by decide)⟩, hR, Below.refl _ _⟩
        | 16, _, ho =>
          clear hsk
          cases ho
          have e19 : ev (.tmp 19) = .slice (some ⟨b19, 0, none⟩) 5 5 := hs 19 (by kernel_rfl)
          go_simp
          first | exact ⟨rfl, hR, Below.refl _ _⟩ | exact ⟨⟨rfl, rfl⟩, hR, Below.refl _ _⟩ | exact ⟨⟨rfl, fun h => absurd h (by decide)⟩, hR, Below.refl _ _⟩ | exact ⟨⟨rfl, rfl, fun h => absurd h (by decide)⟩, hR, Below.refl _ _⟩
        | 17, _, ho =>
          clear hsk
          cases ho
          have e20 : ev (.tmp 20) = I (i : Int) := hs 20 (by kernel_rfl)
          go_simp
          first | exact ⟨rfl, hR, Below.refl _ _⟩ | exact ⟨⟨rfl, rfl⟩, hR, Below.refl _ _⟩ | exact ⟨⟨rfl, fun h => absurd h (by decide)⟩, hR, Below.refl _ _⟩ | exact ⟨⟨rfl, rfl, fun h => absurd h (by decide)⟩, hR, Below.refl _ _⟩
        | 18, _, ho =>
          clear hsk
          cases ho
          have e125 : ev (.tmp 125) = .slice (some ⟨b19, 0, none⟩) 5 5 := hd 16 125 (by kernel_rfl)
          have e126 : ev (.tmp 126) = I (i : Int) := hd 17 126 (by kernel_rfl)
          have hil : (i : Int) < 5 := by omega
          go_simp
          first | exact ⟨rfl, hR, Below.refl _ _⟩ | exact ⟨⟨rfl, rfl⟩, hR, Below.refl _ _⟩ | exact ⟨⟨rfl, fun h => absurd h (by decide)⟩, hR, Below.refl _ _⟩ | exact ⟨⟨rfl, rfl, fun h => absurd h (by decide)⟩, hR, Below.refl _ _⟩
        | 19, _, ho =>
          clear hsk
          cases ho
          have e127 : ev (.tmp 127) = .pointer (some ⟨b19, i, none⟩) := hd 18 127 (by kernel_rfl)
          have m1 := (T15.grow hR).cl i hlt
          go_simp
          first | exact ⟨rfl, hR, Below.refl _ _⟩ | exact ⟨⟨rfl, rfl⟩, hR, Below.refl _ _⟩ | exact ⟨⟨rfl, fun h => absurd h (by decide)⟩, hR, Below.refl _ _⟩ | exact ⟨⟨rfl, rfl, fun h => absurd h (by decide)⟩, hR, Below.refl _ _⟩
        | 20, _, ho =>
          clear hsk
          cases ho
          have e124 : ev (.tmp 124) = .agg #[I (XS i).r, .slice (XS i).A (XS i).ws.length (XS i).c] := hd 15 124 (by kernel_rfl)
          have e128 : ev (.tmp 128) = .slice (XS i).B (XS i).sts.length (XS i).cb := hd 19 128 (by kernel_rfl)
          go_simp
          refine (checkStartsR_c (XS i).r (XS i).A (XS i).B (XS i).c (XS i).cb (XS i).ws (XS i).sts _ _ _ ((T15.grow hR).ok i hlt).h1 ((T15.grow hR).ok i hlt).h2 (T15.ok i hlt).fit (T15.ok i hlt).l1 ((T15.grow hR).ok i hlt).c1 (T15.ok i hlt).l2 ((T15.grow hR).ok i hlt).c2).mono ?_
          rintro e wz ⟨rfl, hwz⟩
          first | exact ⟨rfl, hR.trans (hwz.mono hR.size), hwz⟩ | exact ⟨⟨rfl, rfl⟩, hR.trans (hwz.mono hR.size), hwz⟩ | exact ⟨⟨rfl, fun h => absurd h (by decide)⟩, hR.trans (hwz.mono hR.size), hwz⟩ | exact ⟨⟨rfl, rfl, fun h => absurd h (by decide)⟩, hR.trans (hwz.mono hR.size), hwz⟩
        | 21, _, ho =>
          clear hsk
          cases ho
          have e120 : ev (.tmp 120) = I (cst (XS i).r (XS i).ws (XS i).sts) := hd 11 120 (by kernel_rfl)
          have e129 : ev (.tmp 129) = I (cst (XS i).r (XS i).ws (XS i).sts) := hd 20 129 (by kernel_rfl)
          go_simp
          first | exact ⟨rfl, hR, Below.refl _ _⟩ | exact ⟨⟨rfl, rfl⟩, hR, Below.refl _ _⟩ | exact ⟨⟨rfl, fun h => absurd h (by decide)⟩, hR, Below.refl _ _⟩ | exact ⟨⟨rfl, rfl, fun h => absurd h (by decide)⟩, hR, Below.refl _ _⟩
        | 22, _, ho =>
          clear hsk
          cases ho
          have e117 : ev (.tmp 117) = .bool false := hd 8 117 (by kernel_rfl)
          have e130 : ev (.tmp 130) = .bool false := hd 21 130 (by kernel_rfl)
          go_simp
          first | exact ⟨rfl, hR, Below.refl _ _⟩ | exact ⟨⟨rfl, rfl⟩, hR, Below.refl _ _⟩ | exact ⟨⟨rfl, fun h => absurd h (by decide)⟩, hR, Below.refl _ _⟩ | exact ⟨⟨rfl, rfl, fun h => absurd h (by decide)⟩, hR, Below.refl _ _⟩
        | 23, _, ho =>
          clear hsk
          cases ho
          have e131 : ev (.tmp 131) = .bool false := hd 22 131 (by kernel_rfl)
          go_simp
          first | exact ⟨rfl, hR, Below.refl _ _⟩ | exact ⟨⟨rfl, rfl⟩, hR, Below.refl _ _⟩ | exact ⟨⟨rfl, fun h => absurd h (by decide)⟩, hR, Below.refl _ _⟩ | exact ⟨⟨rfl, rfl, fun h => absurd h (by decide)⟩, hR, Below.refl _ _⟩
        | 24, _, ho =>
          clear hsk
          cases ho
          have e24 : ev (.tmp 24) = I (lsE (XS i).r (XS i).ws) := hs 24 (by kernel_rfl)
          go_simp
          first | exact ⟨rfl, hR, Below.refl _ _⟩ | exact ⟨⟨rfl, rfl⟩, hR, Below.refl _ _⟩ | exact ⟨⟨rfl, fun h => absurd h (by decide)⟩, hR, Below.refl _ _⟩ | exact ⟨⟨rfl, rfl, fun h => absurd h (by decide)⟩, hR, Below.refl _ _⟩
        | 25, _, ho =>
          clear hsk
          cases ho
          have e26 : ev (.tmp 26) = I (lsE (XS i).r (XS i).ws) := hs 26 (by kernel_rfl)
          go_simp
          first | exact ⟨rfl, hR, Below.refl _ _⟩ | exact ⟨⟨rfl, rfl⟩, hR, Below.refl _ _⟩ | exact ⟨⟨rfl, fun h => absurd h (by decide)⟩, hR, Below.refl _ _⟩ | exact ⟨⟨rfl, rfl, fun h => absurd h (by decide)⟩, hR, Below.refl _ _⟩
        | 26, _, ho =>
          clear hsk
          cases ho
          have e133 : ev (.tmp 133) = I (lsE (XS i).r (XS i).ws) := hd 24 133 (by kernel_rfl)
          have e134 : ev (.tmp 134) = I (lsE (XS i).r (XS i).ws) := hd 25 134 (by kernel_rfl)
          go_simp
          first | exact ⟨rfl, hR, Below.refl _ _⟩ | exact ⟨⟨rfl, rfl⟩, hR, Below.refl _ _⟩ | exact ⟨⟨rfl, fun h => absurd h (by decide)⟩, hR, Below.refl _ _⟩ | exact ⟨⟨rfl, rfl, fun h => absurd h (by decide)⟩, hR, Below.refl _ _⟩
        | 27, _, ho =>
          clear hsk
          cases ho
          have e132 : ev (.tmp 132) = .bool false := hd 23 132 (by kernel_rfl)
          have e135 : ev (.tmp 135) = .bool false := hd 26 135 (by kernel_rfl)
          go_simp
          first | exact ⟨rfl, hR, Below.refl _ _⟩ | exact ⟨⟨rfl, rfl⟩, hR, Below.refl _ _⟩ | exact ⟨⟨rfl, fun h => absurd h (by decide)⟩, hR, Below.refl _ _⟩ | exact ⟨⟨rfl, rfl, fun h => absurd h (by decide)⟩, hR, Below.refl _ _⟩
        | 28, _, ho =>
          clear hsk
          cases ho
          have e136 : ev (.tmp 136) = .bool false := hd 27 136 (by kernel_rfl)
          go_simp
          first | exact ⟨rfl, hR, Below.refl _ _⟩ | exact ⟨⟨rfl, rfl⟩, hR, Below.refl _ _⟩ | exact ⟨⟨rfl, fun h => absurd h (by decide)⟩, hR, Below.refl _ _⟩ | exact ⟨⟨rfl, rfl, fun h => absurd h (by decide)⟩, hR, Below.refl _ _⟩
        | 29, _, ho =>
          clear hsk
          cases ho
          have e23 : ev (.tmp 23) = .slice Ba (lsL (XS i).r (XS i).ws).length da := hs 23 (by kernel_rfl)
          go_simp
          first | exact ⟨rfl, hR, Below.refl _ _⟩ | exact ⟨⟨rfl, rfl⟩, hR, Below.refl _ _⟩ | exact ⟨⟨rfl, fun h => absurd h (by decide)⟩, hR, Below.refl _ _⟩ | exact ⟨⟨rfl, rfl, fun h => absurd h (by decide)⟩, hR, Below.refl _ _⟩
        | 30, _, ho =>
          clear hsk
          cases ho
          have e25 : ev (.tmp 25) = .slice Bb (lsL (XS i).r (XS i).ws).length db := hs 25 (by kernel_rfl)
          go_simp
          first | exact ⟨rfl, hR, Below.refl _ _⟩ | exact ⟨⟨rfl, rfl⟩, hR, Below.refl _ _⟩ | exact ⟨⟨rfl, fun h => absurd h (by decide)⟩, hR, Below.refl _ _⟩ | exact ⟨⟨rfl, rfl, fun h => absurd h (by decide)⟩, hR, Below.refl _ _⟩
        | 31, _, ho =>
          clear hsk
          cases ho
          have e138 : ev (.tmp 138) = .slice Ba (lsL (XS i).r (XS i).ws).length da := hd 29 138 (by kernel_rfl)
          have e139 : ev (.tmp 139) = .slice Bb (lsL (XS i).r (XS i).ws).length db := hd 30 139 (by kernel_rfl)
          go_simp
          refine (eqInts_c Ba Bb da db (lsL (XS i).r (XS i).ws) (lsL (XS i).r (XS i).ws) _ _ _ (Sl.below hla hR (Nat.le_refl _)) (Sl.below hlb hR (Nat.le_refl _)) (Nat.le_trans (lsL_len _ _) (T15.ok i hlt).l1) (Nat.le_trans (lsL_len _ _) (T15.ok i hlt).l1)).mono ?_
          rintro e wz ⟨rfl, hwz⟩
          rw [show decide ((lsL (XS i).r (XS i).ws) = (lsL (XS i).r (XS i).ws)) = true from decide_eq_true rfl]
          first | exact ⟨rfl, hR.trans (hwz.mono hR.size), hwz⟩ | exact ⟨⟨rfl, rfl⟩, hR.trans (hwz.mono hR.size), hwz⟩ | exact ⟨⟨rfl, fun h => absurd h (by decide)⟩, hR.trans (hwz.mono hR.size), hwz⟩ | exact ⟨⟨rfl, rfl, fun h => absurd h (by decide)⟩, hR.trans (hwz.mono hR.size), hwz⟩
        | 32, _, ho =>
          clear hsk
          cases ho
          have e140 : ev (.tmp 140) = .bool true := hd 31 140 (by kernel_rfl)
          go_simp
          first | exact ⟨rfl, hR, Below.refl _ _⟩ | exact ⟨⟨rfl, rfl⟩, hR, Below.refl _ _⟩ | exact ⟨⟨rfl, fun h => absurd h (by decide)⟩, hR, Below.refl _ _⟩ | exact ⟨⟨rfl, rfl, fun h => absurd h (by decide)⟩, hR, Below.refl _ _⟩
        | 33, _, ho =>
          clear hsk
          cases ho
          have e137 : ev (.tmp 137) = .bool false := hd 28 137 (by kernel_rfl)
          have e141 : ev (.tmp 141) = .bool false := hd 32 141 (by kernel_rfl)
          go_simp
          first | exact ⟨rfl, hR, Below.refl _ _⟩ | exact ⟨⟨rfl, rfl⟩, hR, Below.refl _ _⟩ | exact ⟨⟨rfl, fun h => absurd h (by decide)⟩, hR, Below.refl _ _⟩ | exact ⟨⟨rfl, rfl, fun h => absurd h (by decide)⟩, hR, Below.refl _ _⟩
        | 34, _, ho =>
          clear hsk
          cases ho
          have e142 : ev (.tmp 142) = .bool false := hd 33 142 (by kernel_rfl)
          go_simp
          first | exact ⟨rfl, hR, Below.refl _ _⟩ | exact ⟨⟨rfl, rfl⟩, hR, Below.refl _ _⟩ | exact ⟨⟨rfl, fun h => absurd h (by decide)⟩, hR, Below.refl _ _⟩ | exact ⟨⟨rfl, rfl, fun h => absurd h (by decide)⟩, hR, Below.refl _ _⟩
        | 35, _, ho =>
          clear hsk
          cases ho
          have e21 : ev (.tmp 21) = .pointer (some ⟨q21, 0, none⟩) := hs 21 (by kernel_rfl)
          have m21 := (x21.below hR x21.lt).cell
          go_simp
          first | exact ⟨rfl, hR, Below.refl _ _⟩ | exact ⟨⟨rfl, rfl⟩, hR, Below.refl _ _⟩ | exact ⟨⟨rfl, fun h => absurd h (by decide)⟩, hR, Below.refl _ _⟩ | exact ⟨⟨rfl, rfl, fun h => absurd h (by decide)⟩, hR, Below.refl _ _⟩
        | 36, _, ho =>
          clear hsk
          cases ho
          have e18 : ev (.tmp 18) = .slice (some ⟨b18, 0, none⟩) 5 5 := hs 18 (by kernel_rfl)
          go_simp
          first | exact ⟨rfl, hR, Below.refl _ _⟩ | exact ⟨⟨rfl, rfl⟩, hR, Below.refl _ _⟩ | exact ⟨⟨rfl, fun h => absurd h (by decide)⟩, hR, Below.refl _ _⟩ | exact ⟨⟨rfl, rfl, fun h => absurd h (by decide)⟩, hR, Below.refl _ _⟩
        | 37, _, ho =>
          clear hsk
          cases ho
          have e20 : ev (.tmp 20) = I (i : Int) := hs 20 (by kernel_rfl)
          go_simp
          first | exact ⟨rfl, hR, Below.refl _ _⟩ | exact ⟨⟨rfl, rfl⟩, hR, Below.refl _ _⟩ | exact ⟨⟨rfl, fun h => absurd h (by decide)⟩, hR, Below.refl _ _⟩ | exact ⟨⟨rfl, rfl, fun h => absurd h (by decide)⟩, hR, Below.refl _ _⟩
        | 38, _, ho =>
          clear hsk
          cases ho
          have e145 : ev (.tmp 145) = .slice (some ⟨b18, 0, none⟩) 5 5 := hd 36 145 (by kernel_rfl)
          have e146 : ev (.tmp 146) = I (i : Int) := hd 37 146 (by kernel_rfl)
          have hil : (i : Int) < 5 := by omega
          go_simp
          first | exact ⟨rfl, hR, Below.refl _ _⟩ | exact ⟨⟨rfl, rfl⟩, hR, Below.refl _ _⟩ | exact ⟨⟨rfl, fun h => absurd h (by decide)⟩, hR, Below.refl _ _⟩ | exact ⟨⟨rfl, rfl, fun h => absurd h (by decide)⟩, hR, Below.refl _ _⟩
        | 39, _, ho =>
          clear hsk
          cases ho
          have e147 : ev (.tmp 147) = .pointer (some ⟨b18, i * 2, none⟩) := hd 38 147 (by kernel_rfl)
          have m1 := (T15.grow hR).cr i hlt
          have m2 := (T15.grow hR).cs i hlt
          go_simp
          first | exact ⟨rfl, hR, Below.refl _ _⟩ | exact ⟨⟨rfl, rfl⟩, hR, Below.refl _ _⟩ | exact ⟨⟨rfl, fun h => absurd h (by decide)⟩, hR, Below.refl _ _⟩ | exact ⟨⟨rfl, rfl, fun h => absurd h (by decide)⟩, hR, Below.refl _ _⟩
        | 40, _, ho =>
          clear hsk
          cases ho
          have e144 : ev (.tmp 144) = .agg #[I (XS i).r, .slice A' (XS i).ws.length c'] := hd 35 144 (by kernel_rfl)
          have e148 : ev (.tmp 148) = .agg #[I (XS i).r, .slice (XS i).A (XS i).ws.length (XS i).c] := hd 39 148 (by kernel_rfl)
          go_simp
          refine (eqSchools_c (XS i).r A' (XS i).A c' (XS i).c (XS i).ws _ _ _ (Sl.below hA1 hR (Nat.le_refl _)) ((T15.grow hR).ok i hlt).h1 (by have := (T15.few i hlt).2.2.1; omega)).mono ?_
          rintro e wz ⟨rfl, hwz⟩
          first | exact ⟨rfl, hR.trans (hwz.mono hR.size), hwz⟩ | exact ⟨⟨rfl, rfl⟩, hR.trans (hwz.mono hR.size), hwz⟩ | exact ⟨⟨rfl, fun h => absurd h (by decide)⟩, hR.trans (hwz.mono hR.size), hwz⟩ | exact ⟨⟨rfl, rfl, fun h => absurd h (by decide)⟩, hR.trans (hwz.mono hR.size), hwz⟩
        | 41, _, ho =>
          clear hsk
          cases ho
          have e149 : ev (.tmp 149) = .bool true := hd 40 149 (by kernel_rfl)
          go_simp
          first | exact ⟨rfl, hR, Below.refl _ _⟩ | exact ⟨⟨rfl, rfl⟩, hR, Below.refl _ _⟩ | exact ⟨⟨rfl, fun h => absurd h (by decide)⟩, hR, Below.refl _ _⟩ | exact ⟨⟨rfl, rfl, fun h => absurd h (by decide)⟩, hR, Below.refl _ _⟩
        | 42, _, ho =>
          clear hsk
          cases ho
          have e143 : ev (.tmp 143) = .bool false := hd 34 143 (by kernel_rfl)
          have e150 : ev (.tmp 150) = .bool false := hd 41 150 (by kernel_rfl)
          go_simp
          first | exact ⟨rfl, hR, Below.refl _ _⟩ | exact ⟨⟨rfl, rfl⟩, hR, Below.refl _ _⟩ | exact ⟨⟨rfl, fun h => absurd h (by decide)⟩, hR, Below.refl _ _⟩ | exact ⟨⟨rfl, rfl, fun h => absurd h (by decide)⟩, hR, Below.refl _ _⟩
        | 43, _, ho =>
          clear hsk
          cases ho
          have e151 : ev (.tmp 151) = .bool false := hd 42 151 (by kernel_rfl)
          go_simp
          first | exact ⟨rfl, hR, Below.refl _ _⟩ | exact ⟨⟨rfl, rfl⟩, hR, Below.refl _ _⟩ | exact ⟨⟨rfl, fun h => absurd h (by decide)⟩, hR, Below.refl _ _⟩ | exact ⟨⟨rfl, rfl, fun h => absurd h (by decide)⟩, hR, Below.refl _ _⟩
        | 44, _, ho =>
          clear hsk
          cases ho
          have e22 : ev (.tmp 22) = .slice B' (XS i).sts.length d' := hs 22 (by kernel_rfl)
          go_simp
          first | exact ⟨rfl, hR, Below.refl _ _⟩ | exact ⟨⟨rfl, rfl⟩, hR, Below.refl _ _⟩ | exact ⟨⟨rfl, fun h => absurd h (by decide)⟩, hR, Below.refl _ _⟩ | exact ⟨⟨rfl, rfl, fun h => absurd h (by decide)⟩, hR, Below.refl _ _⟩
        | 45, _, ho =>
          clear hsk
          cases ho
          have e19 : ev (.tmp 19) = .slice (some ⟨b19, 0, none⟩) 5 5 := hs 19 (by kernel_rfl)
          go_simp
          first | exact ⟨rfl, hR, Below.refl _ _⟩ | exact ⟨⟨rfl, rfl⟩, hR, Below.refl _ _⟩ | exact ⟨⟨rfl, fun h => absurd h (by decide)⟩, hR, Below.refl _ _⟩ | exact ⟨⟨rfl, rfl, fun h => absurd h (by decide)⟩, hR, Below.refl _ _⟩
        | 46, _, ho =>
          clear hsk
          cases ho
          have e20 : ev (.tmp 20) = I (i : Int) := hs 20 (by kernel_rfl)
          go_simp
          first | exact ⟨rfl, hR, Below.refl _ _⟩ | exact ⟨⟨rfl, rfl⟩, hR, Below.refl _ _⟩ | exact ⟨⟨rfl, fun h => absurd h (by decide)⟩, hR, Below.refl _ _⟩ | exact ⟨⟨rfl, rfl, fun h => absurd h (by decide)⟩, hR, Below.refl _ _⟩
        | 47, _, ho =>
          clear hsk
          cases ho
          have e154 : ev (.tmp 154) = .slice (some ⟨b19, 0, none⟩) 5 5 := hd 45 154 (by kernel_rfl)
          have e155 : ev (.tmp 155) = I (i : Int) := hd 46 155 (by kernel_rfl)
          have hil : (i : Int) < 5 := by omega
          go_simp
          first | exact ⟨rfl, hR, Below.refl _ _⟩ | exact ⟨⟨rfl, rfl⟩, hR, Below.refl _ _⟩ | exact ⟨⟨rfl, fun h => absurd h (by decide)⟩, hR, Below.refl _ _⟩ | exact ⟨⟨rfl, rfl, fun h => absurd h (by decide)⟩, hR, Below.refl _ _⟩
        | 48, _, ho =>
          clear hsk
          cases ho
          have e156 : ev (.tmp 156) = .pointer (some ⟨b19, i, none⟩) := hd 47 156 (by kernel_rfl)
          have m1 := (T15.grow hR).cl i hlt
          go_simp
          first | exact ⟨rfl, hR, Below.refl _ _⟩ | exact ⟨⟨rfl, rfl⟩, hR, Below.refl _ _⟩ | exact ⟨⟨rfl, fun h => absurd h (by decide)⟩, hR, Below.refl _ _⟩ | exact ⟨⟨rfl, rfl, fun h => absurd h (by decide)⟩, hR, Below.refl _ _⟩
        | 49, _, ho =>
          clear hsk
          cases ho
          have e153 : ev (.tmp 153) = .slice B' (XS i).sts.length d' := hd 44 153 (by kernel_rfl)
          have e157 : ev (.tmp 157) = .slice (XS i).B (XS i).sts.length (XS i).cb := hd 48 157 (by kernel_rfl)
          go_simp
          refine (eqInts_c B' (XS i).B d' (XS i).cb (XS i).sts (XS i).sts _ _ _ (Sl.below hB1 hR (Nat.le_refl _)) (((T15.grow hR).ok i hlt).h2) (T15.ok i hlt).l2 (T15.ok i hlt).l2).mono ?_
          rintro e wz ⟨rfl, hwz⟩
          rw [show decide ((XS i).sts = (XS i).sts) = true from decide_eq_true rfl]
          first | exact ⟨rfl, hR.trans (hwz.mono hR.size), hwz⟩ | exact ⟨⟨rfl, rfl⟩, hR.trans (hwz.mono hR.size), hwz⟩ | exact ⟨⟨rfl, fun h => absurd h (by decide)⟩, hR.trans (hwz.mono hR.size), hwz⟩ | exact ⟨⟨rfl, rfl, fun h => absurd h (by decide)⟩, hR.trans (hwz.mono hR.size), hwz⟩
        | 50, _, ho =>
          clear hsk
          cases ho
          have e158 : ev (.tmp 158) = .bool true := hd 49 158 (by kernel_rfl)
          go_simp
          first | exact ⟨rfl, hR, Below.refl _ _⟩ | exact ⟨⟨rfl, rfl⟩, hR, Below.refl _ _⟩ | exact ⟨⟨rfl, fun h => absurd h (by decide)⟩, hR, Below.refl _ _⟩ | exact ⟨⟨rfl, rfl, fun h => absurd h (by decide)⟩, hR, Below.refl _ _⟩
        | 51, _, ho =>
          clear hsk
          cases ho
          have e152 : ev (.tmp 152) = .bool false := hd 43 152 (by kernel_rfl)
          have e159 : ev (.tmp 159) = .bool false := hd 50 159 (by kernel_rfl)
          go_simp
          first | exact ⟨rfl, hR, Below.refl _ _⟩ | exact ⟨⟨rfl, rfl⟩, hR, Below.refl _ _⟩ | exact ⟨⟨rfl, fun h => absurd h (by decide)⟩, hR, Below.refl _ _⟩ | exact ⟨⟨rfl, rfl, fun h => absurd h (by decide)⟩, hR, Below.refl _ _⟩
        | n + 52, hi, _ => exact absurd hi (by simp)
      intro ρ w16 hR hρ hne K hK
      have p51 : ρ 51 = .bool false := hρ 51 (by simp)
      show K (putAll _ _ ρ 52) _
      simp only [putAll, dOf, List.getElem?_toArray, List.getElem?_cons_zero, List.getElem?_cons_succ, Option.bind_some, Act.put, List.setIfInBounds_toArray, List.set_cons_zero, List.set_cons_succ]
      rw [p51]
      refine hK _ _ ?_
      change wpList _ _ _ [] _ _
      have T16 := T15.grow hR
      clear hK K p51 hρ hne hR
      go_wp2
      go_roundw
      case rel => exact ⟨i + 1, by go_num, by omega, T16⟩
      case measure => simp [intOf]; omega
    · have hil : ¬ ((i : Int) < 5) := by omega
      go_wp2_with fail
      refine (awake_c _).mono ?_
      rintro e w40 ⟨rfl, hb40⟩
      have hB := hT.below.trans (hb40.mono hT.below.size)
      go_wp2
      go_ret
      exact ⟨rfl, hB⟩

namespace paradeChecks
open Go.ChangeShapes Go.WideShapes Go.ChangeAt Go.RowKit

set_option maxRecDepth 100000 in
theorem lifted (os : Os) (started : os.Started) (H : Type) (enc : TypeId × Value → H) :
    ReturnsInHanded {} Try.checked os 3 .any (Rows.paradeChecksSpec.pre6 enc Try.prog Try.f3 Rows.paradeChecksRow.domain false) (Rows.paradeChecksSpec.post enc Try.prog Try.f3 false true false false) := by
  refine returnsInHanded_of_change (C := Try.checked) prog_own started (by kernel_rfl) Try.func3
    (ChangeSpec.witness6 (enc := enc) (C := Try.checked) false ⟨#[], #[.agg #[.int .i64 0, .slice none 0 0], .slice none 0 0, .agg #[.string ByteArray.empty, .int .i64 0, .int .i64 0, .int .i64 0], .int .i64 0, .int .i64 0, .slice none 0 0], []⟩ 8 (by kernel_rfl) (by kernel_rfl) (by kernel_rfl) (by kernel_rfl)) ?_
  intro W base args ds gs before hval0 hW hcnd _
  have hval : ∀ (j : Nat) t v, Try.f3.params[j]? = some t → args[j]? = some v → Value.okWide Try.prog W .any base t v := hval0
  have hW' := hW
  obtain ⟨p, q, hA0, hV, rfl, hfz, hnd⟩ := hW
  have hA : DataW.TrodAll enc Try.prog W 0 (fun _ => true) true Try.f3.params.toList args.toList ds p := hA0
  rw [Try.params3] at hA hval
  obtain ⟨v0, vs0, d0, ds0, p0, q0, hargs, rfl, rfl, h0, r0⟩ := trodAll_cons hA
  obtain ⟨v1, vs1, d1, ds1, p1, q1, rfl, rfl, rfl, h1, r1⟩ := trodAll_cons r0
  obtain ⟨v2, vs2, d2, ds2, p2, q2, rfl, rfl, rfl, h2, r2⟩ := trodAll_cons r1
  obtain ⟨v3, vs3, d3, ds3, p3, q3, rfl, rfl, rfl, h3, r3⟩ := trodAll_cons r2
  obtain ⟨v4, vs4, d4, ds4, p4, q4, rfl, rfl, rfl, h4, r4⟩ := trodAll_cons r3
  obtain ⟨v5, vs5, d5, ds5, p5, q5, rfl, rfl, rfl, h5, r5⟩ := trodAll_cons r4
  obtain ⟨rfl, rfl, rfl⟩ := trodAll_nil r5
  obtain rfl : args = #[v0, v1, v2, v3, v4, v5] := by cases args; simp_all
  obtain ⟨rfl, rfl⟩ := trodVars_none hV
  have k0 := h0
  have lt0 : ∀ x ∈ p0, x.block < W.heap.size := by obtain ⟨m, hm⟩ := k0; exact DataW.trod_lt m _ _ _ hm
  obtain ⟨rs0, A0, c0, T0, ws0, rfl, hs0, fit0, hm0, hc0, wr0⟩ := school_sl (hval 0 24 v0 rfl rfl) h0
  have k1 := h1
  have lt1 : ∀ x ∈ p1, x.block < W.heap.size := by obtain ⟨m, hm⟩ := k1; exact DataW.trod_lt m _ _ _ hm
  obtain ⟨a1, len1, cap1, rfl⟩ := okWide_slice Try.underlying25 (hval 1 25 v1 rfl rfl)
  have hcap1 := ints_cap h1
  obtain ⟨T1, zs1, rfl, hs1, hm1⟩ := ints_sl h1
  have k2 := h2
  have lt2 : ∀ x ∈ p2, x.block < W.heap.size := by obtain ⟨m, hm⟩ := k2; exact DataW.trod_lt m _ _ _ hm
  obtain ⟨g2, rfl, hg2⟩ := wing_sl (hval 2 29 v2 rfl rfl) h2
  obtain ⟨a3, rfl, rfl, rfl, w3⟩ := open_int Try.underlying3 (hval 3 3 v3 rfl rfl) h3
  obtain ⟨a4, rfl, rfl, rfl, w4⟩ := open_int Try.underlying3 (hval 4 3 v4 rfl rfl) h4
  have k5 := h5
  have lt5 : ∀ x ∈ p5, x.block < W.heap.size := by obtain ⟨m, hm⟩ := k5; exact DataW.trod_lt m _ _ _ hm
  obtain ⟨a5, len5, cap5, rfl⟩ := okWide_slice Try.underlying25 (hval 5 25 v5 rfl rfl)
  obtain ⟨T5, zs5, rfl, hs5, hm5⟩ := ints_sl h5
  clear hA0 hval0
  refine (checks_c rs0 A0 c0 ws0 T0 a1 cap1 zs1 T1 g2 a3 a4 a5 cap5 T5 zs5 W ⟨hs0, fit0, hm0, hc0, hs1, hm1, hcap1⟩ (wings_ok (hval 0 24 _ rfl rfl) k0) (ints_ok k1) hg2 hs5 hm5).mono fun e W' ⟨he, bel⟩ => ?_
  subst he
  exact ⟨_, rfl, _, _, _, [], _, [], hW', trodAll_mk1 (shut_bool Try.underlying4 _), (trodAll_cons_mk (Below.trod prog_laid (by kernel_rfl) (of_decide_eq_true (by kernel_rfl)) k0 bel lt0) (trodAll_cons_mk (Below.trod prog_laid (by kernel_rfl) (of_decide_eq_true (by kernel_rfl)) k1 bel lt1) (trodAll_cons_mk (Below.trod prog_laid (by kernel_rfl) (of_decide_eq_true (by kernel_rfl)) k2 bel lt2) (trodAll_cons_mk (shut_int Try.underlying3 w3) (trodAll_cons_mk (shut_int Try.underlying3 w4) (trodAll_cons_mk (Below.trod prog_laid (by kernel_rfl) (of_decide_eq_true (by kernel_rfl)) k5 bel lt5) trodAll_mk0)))))), rfl, bel.frame _, fun h => by cases h⟩

theorem proved : Rows.ParadeChecksSaid :=
  OpenClaim.holds_of_wide 3 Try.f3 rfl rfl rfl rfl rfl rfl rfl ⟨rfl, rfl, rfl, rfl, rfl⟩ rfl rfl rfl rfl rfl (by kernel_rfl) Try.func3 (by kernel_rfl)
    (of_decide_eq_true (by kernel_rfl)) (by unfold Func.isWrapper; first | (rw [if_pos (by decide +kernel)]; kernel_rfl) | (rw [if_neg (by decide +kernel)]; exact ⟨rfl, rfl⟩))
    (fun os started H enc _ => lifted os started H enc)
end paradeChecks
end Go.Proofs.Ytnihkgdkdinliaa
