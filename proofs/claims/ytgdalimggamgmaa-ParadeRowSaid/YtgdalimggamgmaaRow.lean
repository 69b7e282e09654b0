/- ParadeRow. Own work. -/
import Derived.Test.YtgdalimggamgmaaLawKit
namespace Go.Proofs.Ytgdalimggamgmaa
open Go.RowKit Go.ChangeShapes Go.WideShapes Go.ChangeAt
set_option linter.unusedVariables false
set_option linter.unusedSimpArgs false

/-- The gaps and places of a wing that is not the first. -/
theorem row_math {r : Int} {c : Nat} {ws : List Wg} {sts : List Int} {cb i : Nat} {t : Int} (V : LV r c ws sts cb) (hk : i + 1 < ws.length) (ht : gI sts (i + 1) ≤ t) (h2 : t ≤ 100000) :
    front ws sts (los ws) t (i + 1) ≤ front ws sts (los ws) t i - (gW ws i).len ∧ front ws sts (his ws) t (i + 1) ≤ front ws sts (his ws) t i - (gW ws i).len ∧ 0 ≤ front ws sts (los ws) t (i + 1) ∧
    0 ≤ gapF ws sts (los ws) (gW ws (i + 1)).hi t (i + 1) ∧ gapF ws sts (his ws) (gW ws (i + 1)).lo t (i + 1) ≤ front ws sts (his ws) t i - (gW ws i).len := by
  have hv := V.val
  have e1 := (V.fbd hk ht h2).1
  have e2 := hv.tail0 hk ht (ps := his ws) fun j hj => (hv.los1 (by omega)).2.1
  obtain ⟨_, a1, a2, a3, a4, a5, a6⟩ := V.made.at_ hk
  have e3 : 0 ≤ (gW ws (i + 1)).lo * (t - gI sts (i + 1)) := Int.mul_nonneg (by omega) (by omega)
  refine ⟨?_, ?_, e1, ?_, ?_⟩
  · rw [front_succ]; omega
  · rw [front_succ]; omega
  · unfold gapF; omega
  · unfold gapF
    simp only [Nat.add_sub_cancel]
    omega

set_option maxRecDepth 100000 in
set_option maxHeartbeats 4000000 in
theorem row_c (A0 : Option Addr) (c0 : Nat) (T0 : TypeId) (zs : List Int) (w : World) (hs0 : SlI w T0 A0 zs) (hl0 : zs.length ≤ maxLen) :
    Calls Try.prog 9 #[.slice A0 zs.length c0] w (LawPost w) := by
  go_enter Try.func9, Try.ntmps9
  go_wp2_with fail
  refine (drumOf_c A0 c0 T0 zs _ hs0 hl0).mono ?_
  rintro e w1 ⟨d, rfl, hd1, hdn, hb1⟩
  go_wp2_with fail
  refine (schoolOf_c d 6 _ hd1 (by omega) (by omega)).mono ?_
  rintro e w2 ⟨r, A, c, ws, rfl, hws2, hd2, hk2, hr1, hr2, hn1, hn2, hm, hcap⟩
  have hB2 := below_of_kp hb1 hk2 hdn hb1.size
  have L3 : LK d w2.heap.size r A c ws w (w2.alloc (.cells #[I r, .slice A ws.length c] 24)) :=
    ⟨hd2.alloc _, Bx.new _ _ _, hws2.alloc _, hB2.alloc hB2.size _, hdn, hB2.size⟩
  clear hb1 hk2 hd1 hws2 hd2
  have hchk := made_chk hm hr1 hr2 hn1 (by omega)
  have hn6 : ws.length ≤ 6 := by omega
  by_cases hshort : ws.length < 2
  · have hdec : decide ((ws.length : Int) < 2) = true := by simp; omega
    have hc3 := L3.box.cell
    go_wp2_with fail
    refine (awake_c _).mono ?_
    rintro e w4 ⟨rfl, hb4⟩
    have hB := L3.below.trans (hb4.mono L3.below.size)
    go_wp2
    go_ret
    exact ⟨rfl, hB⟩
  have hdec : decide ((ws.length : Int) < 2) = false := by simp; omega
  have hc3 := L3.box.cell
  go_wp2_with fail
  refine (startsOf_c d r A c ws _ L3.dr L3.wings hm hchk).mono ?_
  rintro e w4 ⟨B, cb, sts, rfl, hsl4, hcapb, hd4, hk4, hlen, hcst, hst⟩
  have L4 := L3.kp hk4 hd4
  have V : LV r c ws sts cb := ⟨hm, hr1, hr2, hn1, by omega, hcap, hlen, hcapb, hcst, hst⟩
  clear hk4 hd4 hcst hst hlen hcapb L3
  clear hdec hc3
  have hc4 := L4.box.cell
  go_wp2_with fail
  refine (mid_c d 1 (ws.length - 1) (ws.length - 1) _ L4.dr (by omega) (by omega) (by omega) (by omega) (by omega) (by omega) (by omega)).mono ?_
  rintro e w5 ⟨k1, rfl, hk1, hk2, hd5, hg5⟩
  have L5 := L4.kp hg5 hd5
  have hsl5 : SlI w5 3 B sts := hsl4.kp L4.dr hg5 (by decide)
  clear hc4 hsl4 L4 hg5 hd5
  obtain ⟨i, rfl⟩ : ∃ i : Nat, k1 = (i : Int) + 1 := ⟨(k1 - 1).toNat, by omega⟩
  have hi : i + 1 < ws.length := by omega
  obtain ⟨b, o, rfl, _⟩ := SlI.some_ hsl5 (show i + 1 < sts.length by have := V.len; omega)
  have hS := V.start hi
  have hS0 := V.val.sorted (show i ≤ i + 1 by omega) hi
  clear hk1 hk2
  go_wp2_with fail
  refine wp_region_list_of (by kernel_rfl) (R := fun w' => LK d w2.heap.size r A c ws w w' ∧ SlI w' 3 (some ⟨b, o, none⟩) sts) (F := DF d) [As.is _ _ (.slice (some ⟨b, o, none⟩) sts.length cb),
      As.is _ _ (I ((i : Int) + 1)),
      As.is _ _ (.pointer (some ⟨b, o + (i + 1), none⟩)),
      As.is _ _ (I (gI sts (i + 1))),
      As.is _ _ (.pointer (some ⟨d, 0, none⟩)),
      asInt _ _ 0 199,
      asInt _ _ (gI sts (i + 1)) (gI sts (i + 1) + 199)] 122 (by kernel_rfl) rfl ?_ ?_ ?_
  · exact ⟨L5.drew, hsl5.drew⟩
  · intro i' hi' o' ho ev w' hR hc hf hg hs hd
    match i', hi', ho with
    | 0, _, ho =>
      cases ho
      have e5 : ev (.tmp 5) = .slice (some ⟨b, o, none⟩) sts.length cb := hs 5 (by kernel_rfl)
      go_simp
      exact ⟨rfl, hR, World.grownBy.refl _ _⟩
    | 1, _, ho =>
      cases ho
      have e6 : ev (.tmp 6) = I ((i : Int) + 1) := hs 6 (by kernel_rfl)
      go_simp
      exact ⟨rfl, hR, World.grownBy.refl _ _⟩
    | 2, _, ho =>
      cases ho
      have e33 : ev (.tmp 33) = .slice (some ⟨b, o, none⟩) sts.length cb := hd 0 33 (by kernel_rfl)
      have e34 : ev (.tmp 34) = I ((i : Int) + 1) := hd 1 34 (by kernel_rfl)
      have en : ((i : Int) + 1).toNat = i + 1 := by omega
      have hlt : (i : Int) + 1 < (sts.length : Int) := by have := V.len; omega
      have h0 : 0 ≤ (i : Int) + 1 := by omega
      go_simp
      exact ⟨rfl, hR, World.grownBy.refl _ _⟩
    | 3, _, ho =>
      cases ho
      have e35 : ev (.tmp 35) = .pointer (some ⟨b, o + (i + 1), none⟩) := hd 2 35 (by kernel_rfl)
      have hcl : w'.cell? ⟨b, o + (i + 1), none⟩ = some (I (gI sts (i + 1))) := SlI.cellG hR.2 (by have := V.len; omega)
      go_simp
      exact ⟨rfl, hR, World.grownBy.refl _ _⟩
    | 4, _, ho =>
      cases ho
      have e3 : ev (.tmp 3) = .pointer (some ⟨d, 0, none⟩) := hs 3 (by kernel_rfl)
      go_simp
      exact ⟨rfl, hR, World.grownBy.refl _ _⟩
    | 5, _, ho =>
      cases ho
      have e37 : ev (.tmp 37) = .pointer (some ⟨d, 0, none⟩) := hd 4 37 (by kernel_rfl)
      go_simp
      refine (roll_c d 200 199 _ hR.1.dr (by omega) (by omega) (by omega) (by omega)).mono ?_
      rintro e w1 ⟨r, rfl, hr1, hr2, hd1, hk1⟩
      exact ⟨⟨r, rfl, hr1, hr2⟩, ⟨hR.1.kp hk1 hd1, hR.2.kp hR.1.dr hk1 (by decide)⟩, hk1⟩
    | 6, _, ho =>
      cases ho
      have e36 : ev (.tmp 36) = I (gI sts (i + 1)) := hd 3 36 (by kernel_rfl)
      obtain ⟨x38, e38, hx381, hx382⟩ : ∃ r : Int, ev (.tmp 38) = I r ∧ 0 ≤ r ∧ r ≤ 199 := hd 5 38 (by kernel_rfl)
      have ew : IntKind.i64.wrap (gI sts (i + 1) + x38) = gI sts (i + 1) + x38 := IntWalk.i64_in _ (by omega)
      go_simp
      clear ew
      exact ⟨⟨_, rfl, by omega, by omega⟩, hR, World.grownBy.refl _ _⟩
    | n + 7, hi, _ => exact absurd hi (by simp)
  intro ρ w6 hR hρ K hK
  obtain ⟨t, p6, ht1, ht2⟩ : ∃ r : Int, ρ 6 = I r ∧ gI sts (i + 1) ≤ r ∧ r ≤ gI sts (i + 1) + 199 := hρ 6 (by simp)
  show K (putAll _ _ ρ 7) _
  simp only [putAll, dOf, List.getElem?_toArray, List.getElem?_cons_zero, List.getElem?_cons_succ, Option.bind_some, Act.put, List.setIfInBounds_toArray, List.set_cons_zero, List.set_cons_succ]
  rw [p6]
  refine hK _ _ ?_
  change wpList _ _ _ [_] _ _
  obtain ⟨L6, hsl6⟩ := hR
  clear hK K p6 hρ L5 hsl5
  have M := row_math V hi (t := t) (by omega) (by omega)
  have F1 := V.fbd hi (t := t) (by omega) (by omega)
  have F0 := V.fbd (show i < ws.length by omega) (t := t) (by omega) (by omega)
  obtain ⟨_, l1, l2, _⟩ := V.made.at_ (show i < ws.length by omega)
  obtain ⟨b1, o1, rfl, _⟩ := SlW.some_ L6.wings (show i < ws.length by omega)
  have c1 := where_c r (some ⟨b1, o1, none⟩) (some ⟨b, o, none⟩) c cb ws sts 29 3 _ L6.wings hsl6 V.fit V.max.1 V.cap V.max.2 V.capb ((i : Int) + 1) t
  rw [show mom r ws sts ((i : Int) + 1) t = 0 from V.mom (k := i + 1) hi (by omega) (by omega), show whLo r ws sts ((i : Int) + 1) t = _ from V.whLo (k := i + 1) hi (by omega) (by omega), show whHi r ws sts ((i : Int) + 1) t = _ from V.whHi (k := i + 1) hi (by omega) (by omega)] at c1
  generalize front ws sts (los ws) t (i + 1) = xl at M F1 c1
  generalize front ws sts (his ws) t (i + 1) = xh at M F1 c1
  have hc6 := L6.box.cell
  go_wp2_with fail
  refine c1.mono ?_
  rintro e w7 ⟨rfl, hb7⟩
  have L8 := (L6.grow hb7).alloc (.cells #[I (xl), I (xh)] 27)
  have hsl8 := (hsl6.below hb7 (Nat.le_refl _)).alloc (.cells #[I (xl), I (xh)] 27)
  have x8 := Bx.new w7 27 #[I (xl), I (xh)]
  clear hb7 L6 hsl6 hc6 c1 
  have c2 := where_c r (some ⟨b1, o1, none⟩) (some ⟨b, o, none⟩) c cb ws sts 29 3 _ L8.wings hsl8 V.fit V.max.1 V.cap V.max.2 V.capb (i : Int) t
  rw [V.mom (k := i) (t := t) (by omega) (by omega) (by omega), V.whLo (k := i) (t := t) (by omega) (by omega) (by omega), V.whHi (k := i) (t := t) (by omega) (by omega) (by omega)] at c2
  generalize front ws sts (los ws) t i = yl at M F0 c2
  generalize front ws sts (his ws) t i = yh at M F0 c2
  have hc8 := L8.box.cell
  go_wp2_with fail
  refine c2.mono ?_
  rintro e w9 ⟨rfl, hb9⟩
  have L10 := (L8.grow hb9).alloc (.cells #[I (yl), I (yh)] 27)
  have hsl10 := (hsl8.below hb9 (Nat.le_refl _)).alloc (.cells #[I (yl), I (yh)] 27)
  have x10 := Bx.new w9 27 #[I (yl), I (yh)]
  have x8b := (x8.below hb9 x8.lt).alloc (.cells #[I (yl), I (yh)] 27)
  clear hb9 L8 hsl8 hc8 c2 x8
  have c3 := gapP_c r (some ⟨b1, o1, none⟩) (some ⟨b, o, none⟩) c cb ws sts 29 3 _ L10.wings hsl10 V.fit V.max.1 V.cap V.max.2 V.capb ((i : Int) + 1) t
  rw [show gaE r ws sts ((i : Int) + 1) t = 0 from V.gaE (k := i + 1) hi (by omega) (by omega) (by omega), show gaLo r ws sts ((i : Int) + 1) t = _ from V.gaLo (k := i + 1) hi (by omega) (by omega) (by omega), show gaHi r ws sts ((i : Int) + 1) t = _ from V.gaHi (k := i + 1) hi (by omega) (by omega) (by omega)] at c3
  generalize gapF ws sts (los ws) (gW ws (i + 1)).hi t (i + 1) = gl at M c3
  generalize gapF ws sts (his ws) (gW ws (i + 1)).lo t (i + 1) = gh at M c3
  have hc10 := L10.box.cell
  go_wp2_with fail
  refine c3.mono ?_
  rintro e w11 ⟨rfl, hb11⟩
  have L12 := (L10.grow hb11).alloc (.cells #[I (gl), I (gh)] 27)
  have hsl12 := (hsl10.below hb11 (Nat.le_refl _)).alloc (.cells #[I (gl), I (gh)] 27)
  have x12 := Bx.new w11 27 #[I (gl), I (gh)]
  have x8c := (x8b.below hb11 x8b.lt).alloc (.cells #[I (gl), I (gh)] 27)
  have x10b := (x10.below hb11 x10.lt).alloc (.cells #[I (gl), I (gh)] 27)
  clear hb11 L10 hsl10 hc10 c3 x8b x10
  have hc12 := L12.box.cell
  have hx8 := x8c.cell
  have hx10 := x10b.cell
  have hx12 := x12.cell
  have hcw := (SlW.cellG L12.wings (show i < ws.length by omega)).2.1
  have hB := L12.below
  generalize hln : (gW ws i).len = ln at *
  clear hln x8c x10b x12 L12 hsl12
  obtain ⟨m1, m2, m3, m4, m5⟩ := M
  go_wp2_with fail
  refine (awake_c _).mono ?_
  rintro e w13 ⟨rfl, hb13⟩
  have hB' := hB.trans (hb13.mono hB.size)
  clear hb13 hB hc12 hx8 hx10 hx12 hcw
  go_wp2
  go_ret
  exact ⟨rfl, hB'⟩

namespace paradeRow
open Go.ChangeShapes Go.WideShapes Go.ChangeAt Go.RowKit

set_option maxRecDepth 100000 in
theorem lifted (os : Os) (started : os.Started) (H : Type) (enc : TypeId × Value → H) :
    ReturnsInHanded {} Try.checked os 9 .any (Rows.paradeRowSpec.pre6 enc Try.prog Try.f9 Rows.paradeRowRow.domain false) (Rows.paradeRowSpec.post enc Try.prog Try.f9 false true false false) := by
  refine returnsInHanded_of_change (C := Try.checked) prog_own started (by kernel_rfl) Try.func9
    (ChangeSpec.witness6 (enc := enc) (C := Try.checked) false ⟨#[], #[.slice none 0 0], []⟩ 8 (by kernel_rfl) (by kernel_rfl) (by kernel_rfl) (by kernel_rfl)) ?_
  intro W base args ds gs before hval0 hW hcnd _
  have hval : ∀ (j : Nat) t v, Try.f9.params[j]? = some t → args[j]? = some v → Value.okWide Try.prog W .any base t v := hval0
  have hW' := hW
  obtain ⟨p, q, hA0, hV, rfl, hfz, hnd⟩ := hW
  have hA : DataW.TrodAll enc Try.prog W 0 (fun _ => true) true Try.f9.params.toList args.toList ds p := hA0
  rw [Try.params9] at hA hval
  obtain ⟨v0, vs0, d0, ds0, p0, q0, hargs, rfl, rfl, h0, r0⟩ := trodAll_cons hA
  obtain ⟨rfl, rfl, rfl⟩ := trodAll_nil r0
  obtain rfl : args = #[v0] := by cases args; simp_all
  obtain ⟨rfl, rfl⟩ := trodVars_none hV
  obtain ⟨a0, len0, cap0, rfl⟩ := okWide_slice Try.underlying25 (hval 0 25 v0 rfl rfl)
  have k0 := h0
  have lt0 : ∀ x ∈ p0, x.block < W.heap.size := by obtain ⟨m, hm⟩ := k0; exact DataW.trod_lt m _ _ _ hm
  obtain ⟨T, zs, rfl, hs, hm⟩ := ints_sl h0
  clear hA0 hval0
  refine (row_c a0 cap0 T zs W hs hm).mono fun e W' ⟨he, bel⟩ => ?_
  subst he
  exact ⟨_, rfl, _, _, _, [], _, [], hW', trodAll_mk1 (shut_bool Try.underlying4 _), (trodAll_cons_mk (Below.trod prog_laid (by kernel_rfl) (of_decide_eq_true (by kernel_rfl)) k0 bel lt0) trodAll_mk0), rfl, bel.frame _, fun h => by cases h⟩

theorem proved : Rows.ParadeRowSaid :=
  OpenClaim.holds_of_wide 9 Try.f9 rfl rfl rfl rfl rfl rfl rfl ⟨rfl, rfl, rfl, rfl, rfl⟩ rfl rfl rfl rfl rfl (by kernel_rfl) Try.func9 (by kernel_rfl)
    (of_decide_eq_true (by kernel_rfl)) (by unfold Func.isWrapper; first | (rw [if_pos (by decide +kernel)]; kernel_rfl) | (rw [if_neg (by decide +kernel)]; exact ⟨rfl, rfl⟩))
    (fun os started H enc _ => lifted os started H enc)
end paradeRow
end Go.Proofs.Ytgdalimggamgmaa
