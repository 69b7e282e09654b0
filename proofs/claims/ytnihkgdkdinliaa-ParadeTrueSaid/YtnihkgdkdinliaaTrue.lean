/- ParadeTrue: whatever the true paces are, places, seconds, lasting and gaps lie within what is returned, and both ends are reached. Own work. -/
import Derived.Test.YtnihkgdkdinliaaLawKit
import Derived.Test.YtnihkgdkdinliaaTrueN
import Derived.Deep.Cut
import Derived.Deep.CutRange
namespace Go.Proofs.Ytnihkgdkdinliaa
open Go.RowKit Go.ChangeShapes Go.WideShapes Go.ChangeAt
set_option linter.unusedVariables false
set_option linter.unusedSimpArgs false

set_option maxRecDepth 100000 in
set_option maxHeartbeats 16000000 in
theorem true_c (A0 : Option Addr) (c0 : Nat) (T0 : TypeId) (zs : List Int) (w : World) (hs0 : SlI w T0 A0 zs) (hl0 : zs.length ≤ maxLen) :
    Calls Try.prog 8 #[.slice A0 zs.length c0] w (LawPost w) := by
  go_enter Try.func8, Try.ntmps8
  go_wp2_with fail
  refine (drumOf_c A0 c0 T0 zs _ hs0 hl0).mono ?_
  rintro e w1 ⟨d, rfl, hd1, hdn, hb1⟩
  go_wp2_with fail
  refine (schoolOf_c d 5 _ hd1 (by omega) (by omega)).mono ?_
  rintro e w2 ⟨r, A, c, ws, rfl, hws2, hd2, hk2, hr1, hr2, hn1, hn2, hm, hcap⟩
  have hB2 := below_of_kp hb1 hk2 hdn hb1.size
  have L3 : LK d w2.heap.size r A c ws w (w2.alloc (.cells #[I r, .slice A ws.length c] 24)) :=
    ⟨hd2.alloc _, Bx.new _ _ _, hws2.alloc _, hB2.alloc hB2.size _, hdn, hB2.size⟩
  clear hb1 hk2 hd1 hws2 hd2
  have hchk := made_chk hm hr1 hr2 hn1 (by omega)
  have hn5 : ws.length ≤ 5 := by omega
  have hq2 : w2.heap.size < w2.heap.size + 1 ∧ w.heap.size ≤ w2.heap.size + 1 := ⟨by omega, by have := L3.qn; omega⟩
  have hc3 := L3.box.cell
  go_wp2_with fail
  refine (startsOf_c d r A c ws _ L3.dr L3.wings hm hchk).mono ?_
  rintro e w4 ⟨B, cb, sts, rfl, hsl4, hcapb, hd4, hk4, hlen, hcst, hst⟩
  have L4 := L3.kp hk4 hd4
  have V : LV r c ws sts cb := ⟨hm, hr1, hr2, hn1, by omega, hcap, hlen, hcapb, hcst, hst⟩
  clear hk4 hd4 hcst hst hlen hcapb L3 hc3
  have hc4 := L4.box.cell
  go_wp2_with fail
  refine (roll_c d ws.length (ws.length - 1) _ L4.dr (by omega) (by omega) (by omega) (by omega)).mono ?_
  rintro e w5 ⟨k1, rfl, hk1, hk2, hd5, hg5⟩
  have L5 := L4.kp hg5 hd5
  have hsl5 : SlI w5 3 B sts := hsl4.kp L4.dr hg5 (by decide)
  clear hc4 hsl4 L4 hg5 hd5
  obtain ⟨k, rfl⟩ := Int.eq_ofNat_of_zero_le hk1
  have hi : k < ws.length := by omega
  have hks : k < sts.length := by have := V.len; omega
  have hks' : (k : Int) < sts.length := by omega
  obtain ⟨b, o, rfl, _⟩ := SlI.some_ hsl5 hks
  have hS := V.start hi
  clear hk1 hk2
  go_wp2_with fail
  refine wp_region_list_s (by kernel_rfl) (R := (fun w' => LK d w2.heap.size r A c ws w w' ∧ SlI w' 3 (some ⟨b, o, none⟩) sts)) (F := DF d) [] [] []
      [As.is _ _ (.slice (some ⟨b, o, none⟩) sts.length cb),
      As.is _ _ (I (k : Int)),
      As.is _ _ (.pointer (some ⟨b, o + k, none⟩)),
      As.is _ _ (I (gI sts k)),
      As.is _ _ (.pointer (some ⟨d, 0, none⟩)),
      asInt _ _ 0 (59),
      asInt _ _ (gI sts k) (gI sts k + 59),
      As.is _ _ (.pointer (some ⟨d, 0, none⟩)),
      As.is _ _ (.pointer (some ⟨w2.heap.size, 0, none⟩)),
      As.is _ _ (I r),
      As.is _ _ (I (r + 1)),
      asInt _ _ 0 (r),
      asInt _ _ (gI sts k) (gI sts k + 59),
      asInt _ _ 0 (r)] 295 (by kernel_rfl) rfl (⟨L5.drew, hsl5⟩) (by simp) (by simp) ?_ (fun _ => World.grownBy.refl _ _) ?_ ?_ ?_
  · intro i' hi' o' ho k' b' hg u w' hR hu
    match i', hi', ho with
    | 0, _, ho => cases ho; cases hg
    | 1, _, ho => cases ho; cases hg
    | 2, _, ho => cases ho; cases hg
    | 3, _, ho => cases ho; cases hg
    | 4, _, ho => cases ho; cases hg
    | 5, _, ho => cases ho; cases hg
    | 6, _, ho => cases ho; cases hg
    | 7, _, ho => cases ho; cases hg
    | 8, _, ho => cases ho; cases hg
    | 9, _, ho => cases ho; cases hg
    | 10, _, ho => cases ho; cases hg
    | 11, _, ho => cases ho; cases hg
    | 12, _, ho => cases ho; cases hg
    | 13, _, ho => cases ho; cases hg
    | n + 14, hi, _ => exact absurd hi (by simp)
  · intro i' hi' hsk; cases hsk
  · intro i' hi' hsk o' ho ev w' hR hc hf hg hs hd
    match i', hi', ho with
    | 0, _, ho =>
      clear hsk
      cases ho
      have e5 : ev (.tmp 5) = .slice (some ⟨b, o, none⟩) sts.length cb := hs 5 (by kernel_rfl)
      go_simp
      first | exact ⟨rfl, hR, World.grownBy.refl _ _⟩ | exact ⟨⟨rfl, rfl⟩, hR, World.grownBy.refl _ _⟩ | exact ⟨⟨rfl, fun h => absurd h (by decide)⟩, hR, World.grownBy.refl _ _⟩ | exact ⟨⟨rfl, rfl, fun h => absurd h (by decide)⟩, hR, World.grownBy.refl _ _⟩
    | 1, _, ho =>
      clear hsk
      cases ho
      have e6 : ev (.tmp 6) = I (k : Int) := hs 6 (by kernel_rfl)
      go_simp
      first | exact ⟨rfl, hR, World.grownBy.refl _ _⟩ | exact ⟨⟨rfl, rfl⟩, hR, World.grownBy.refl _ _⟩ | exact ⟨⟨rfl, fun h => absurd h (by decide)⟩, hR, World.grownBy.refl _ _⟩ | exact ⟨⟨rfl, rfl, fun h => absurd h (by decide)⟩, hR, World.grownBy.refl _ _⟩
    | 2, _, ho =>
      clear hsk
      cases ho
      have e38 : ev (.tmp 38) = .slice (some ⟨b, o, none⟩) sts.length cb := hd 0 38 (by kernel_rfl)
      have e39 : ev (.tmp 39) = I (k : Int) := hd 1 39 (by kernel_rfl)
      go_simp
      first | exact ⟨rfl, hR, World.grownBy.refl _ _⟩ | exact ⟨⟨rfl, rfl⟩, hR, World.grownBy.refl _ _⟩ | exact ⟨⟨rfl, fun h => absurd h (by decide)⟩, hR, World.grownBy.refl _ _⟩ | exact ⟨⟨rfl, rfl, fun h => absurd h (by decide)⟩, hR, World.grownBy.refl _ _⟩
    | 3, _, ho =>
      clear hsk
      cases ho
      have e40 : ev (.tmp 40) = .pointer (some ⟨b, o + k, none⟩) := hd 2 40 (by kernel_rfl)
      have hcl : w'.cell? ⟨b, o + k, none⟩ = some (I (gI sts k)) := SlI.cellG hR.2 hks
      go_simp
      first | exact ⟨rfl, hR, World.grownBy.refl _ _⟩ | exact ⟨⟨rfl, rfl⟩, hR, World.grownBy.refl _ _⟩ | exact ⟨⟨rfl, fun h => absurd h (by decide)⟩, hR, World.grownBy.refl _ _⟩ | exact ⟨⟨rfl, rfl, fun h => absurd h (by decide)⟩, hR, World.grownBy.refl _ _⟩
    | 4, _, ho =>
      clear hsk
      cases ho
      have e3 : ev (.tmp 3) = .pointer (some ⟨d, 0, none⟩) := hs 3 (by kernel_rfl)
      go_simp
      first | exact ⟨rfl, hR, World.grownBy.refl _ _⟩ | exact ⟨⟨rfl, rfl⟩, hR, World.grownBy.refl _ _⟩ | exact ⟨⟨rfl, fun h => absurd h (by decide)⟩, hR, World.grownBy.refl _ _⟩ | exact ⟨⟨rfl, rfl, fun h => absurd h (by decide)⟩, hR, World.grownBy.refl _ _⟩
    | 5, _, ho =>
      clear hsk
      cases ho
      have e42 : ev (.tmp 42) = .pointer (some ⟨d, 0, none⟩) := hd 4 42 (by kernel_rfl)
      go_simp
      refine (roll_c d (60) (59) _ hR.1.dr (by omega) (by omega) (by omega) (by omega)).mono ?_
      rintro e w1 ⟨y, rfl, hr1, hr2, hd1, hk1⟩
      first | exact ⟨⟨y, rfl, hr1, hr2⟩, ⟨hR.1.kp hk1 hd1, Sl.kp hR.2 hR.1.dr hk1 (by decide)⟩, hk1⟩ | exact ⟨⟨rfl, ⟨y, rfl, hr1, hr2⟩⟩, ⟨hR.1.kp hk1 hd1, Sl.kp hR.2 hR.1.dr hk1 (by decide)⟩, hk1⟩ | exact ⟨⟨⟨y, rfl, hr1, hr2⟩, fun h => absurd h (by decide)⟩, ⟨hR.1.kp hk1 hd1, Sl.kp hR.2 hR.1.dr hk1 (by decide)⟩, hk1⟩ | exact ⟨⟨rfl, ⟨y, rfl, hr1, hr2⟩, fun h => absurd h (by decide)⟩, ⟨hR.1.kp hk1 hd1, Sl.kp hR.2 hR.1.dr hk1 (by decide)⟩, hk1⟩
    | 6, _, ho =>
      clear hsk
      cases ho
      have e41 : ev (.tmp 41) = I (gI sts k) := hd 3 41 (by kernel_rfl)
      obtain ⟨x43, e43, hx431, hx432⟩ : ∃ r' : Int, ev (.tmp 43) = I r' ∧ 0 ≤ r' ∧ r' ≤ 59 := hd 5 43 (by kernel_rfl)
      have ew : IntKind.i64.wrap (gI sts k + x43) = gI sts k + x43 := IntWalk.i64_in _ (by omega)
      go_simp
      clear ew
      first | exact ⟨⟨_, rfl, by omega, by omega⟩, hR, World.grownBy.refl _ _⟩ | exact ⟨⟨rfl, ⟨_, rfl, by omega, by omega⟩⟩, hR, World.grownBy.refl _ _⟩ | exact ⟨⟨⟨_, rfl, by omega, by omega⟩, fun h => absurd h (by decide)⟩, hR, World.grownBy.refl _ _⟩ | exact ⟨⟨rfl, ⟨_, rfl, by omega, by omega⟩, fun h => absurd h (by decide)⟩, hR, World.grownBy.refl _ _⟩
    | 7, _, ho =>
      clear hsk
      cases ho
      have e3 : ev (.tmp 3) = .pointer (some ⟨d, 0, none⟩) := hs 3 (by kernel_rfl)
      go_simp
      first | exact ⟨rfl, hR, World.grownBy.refl _ _⟩ | exact ⟨⟨rfl, rfl⟩, hR, World.grownBy.refl _ _⟩ | exact ⟨⟨rfl, fun h => absurd h (by decide)⟩, hR, World.grownBy.refl _ _⟩ | exact ⟨⟨rfl, rfl, fun h => absurd h (by decide)⟩, hR, World.grownBy.refl _ _⟩
    | 8, _, ho =>
      clear hsk
      cases ho
      have e4 : ev (.tmp 4) = .pointer (some ⟨w2.heap.size, 0, none⟩) := hs 4 (by kernel_rfl)
      go_simp
      first | exact ⟨rfl, hR, World.grownBy.refl _ _⟩ | exact ⟨⟨rfl, rfl⟩, hR, World.grownBy.refl _ _⟩ | exact ⟨⟨rfl, fun h => absurd h (by decide)⟩, hR, World.grownBy.refl _ _⟩ | exact ⟨⟨rfl, rfl, fun h => absurd h (by decide)⟩, hR, World.grownBy.refl _ _⟩
    | 9, _, ho =>
      clear hsk
      cases ho
      have e46 : ev (.tmp 46) = .pointer (some ⟨w2.heap.size, 0, none⟩) := hd 8 46 (by kernel_rfl)
      have m4 := hR.1.box.cell
      go_simp
      first | exact ⟨rfl, hR, World.grownBy.refl _ _⟩ | exact ⟨⟨rfl, rfl⟩, hR, World.grownBy.refl _ _⟩ | exact ⟨⟨rfl, fun h => absurd h (by decide)⟩, hR, World.grownBy.refl _ _⟩ | exact ⟨⟨rfl, rfl, fun h => absurd h (by decide)⟩, hR, World.grownBy.refl _ _⟩
    | 10, _, ho =>
      clear hsk
      cases ho
      have e47 : ev (.tmp 47) = I r := hd 9 47 (by kernel_rfl)
      have ew : IntKind.i64.wrap (r + 1) = r + 1 := IntWalk.i64_in _ (by omega)
      go_simp
      first | exact ⟨rfl, hR, World.grownBy.refl _ _⟩ | exact ⟨⟨rfl, rfl⟩, hR, World.grownBy.refl _ _⟩ | exact ⟨⟨rfl, fun h => absurd h (by decide)⟩, hR, World.grownBy.refl _ _⟩ | exact ⟨⟨rfl, rfl, fun h => absurd h (by decide)⟩, hR, World.grownBy.refl _ _⟩
    | 11, _, ho =>
      clear hsk
      cases ho
      have e45 : ev (.tmp 45) = .pointer (some ⟨d, 0, none⟩) := hd 7 45 (by kernel_rfl)
      have e48 : ev (.tmp 48) = I (r + 1) := hd 10 48 (by kernel_rfl)
      go_simp
      refine (roll_c d (r + 1) (r) _ hR.1.dr (by omega) (by omega) (by omega) (by omega)).mono ?_
      rintro e w1 ⟨y, rfl, hr1, hr2, hd1, hk1⟩
      first | exact ⟨⟨y, rfl, hr1, hr2⟩, ⟨hR.1.kp hk1 hd1, Sl.kp hR.2 hR.1.dr hk1 (by decide)⟩, hk1⟩ | exact ⟨⟨rfl, ⟨y, rfl, hr1, hr2⟩⟩, ⟨hR.1.kp hk1 hd1, Sl.kp hR.2 hR.1.dr hk1 (by decide)⟩, hk1⟩ | exact ⟨⟨⟨y, rfl, hr1, hr2⟩, fun h => absurd h (by decide)⟩, ⟨hR.1.kp hk1 hd1, Sl.kp hR.2 hR.1.dr hk1 (by decide)⟩, hk1⟩ | exact ⟨⟨rfl, ⟨y, rfl, hr1, hr2⟩, fun h => absurd h (by decide)⟩, ⟨hR.1.kp hk1 hd1, Sl.kp hR.2 hR.1.dr hk1 (by decide)⟩, hk1⟩
    | 12, _, ho =>
      clear hsk
      cases ho
      obtain ⟨x44, e44, hx441, hx442⟩ : ∃ r' : Int, ev (.tmp 44) = I r' ∧ gI sts k ≤ r' ∧ r' ≤ gI sts k + 59 := hd 6 44 (by kernel_rfl)
      go_simp
      first | exact ⟨⟨_, rfl, hx441, hx442⟩, hR, World.grownBy.refl _ _⟩ | exact ⟨⟨rfl, ⟨_, rfl, hx441, hx442⟩⟩, hR, World.grownBy.refl _ _⟩ | exact ⟨⟨⟨_, rfl, hx441, hx442⟩, fun h => absurd h (by decide)⟩, hR, World.grownBy.refl _ _⟩ | exact ⟨⟨rfl, ⟨_, rfl, hx441, hx442⟩, fun h => absurd h (by decide)⟩, hR, World.grownBy.refl _ _⟩
    | 13, _, ho =>
      clear hsk
      cases ho
      obtain ⟨x49, e49, hx491, hx492⟩ : ∃ r' : Int, ev (.tmp 49) = I r' ∧ 0 ≤ r' ∧ r' ≤ r := hd 11 49 (by kernel_rfl)
      go_simp
      first | exact ⟨⟨_, rfl, hx491, hx492⟩, hR, World.grownBy.refl _ _⟩ | exact ⟨⟨rfl, ⟨_, rfl, hx491, hx492⟩⟩, hR, World.grownBy.refl _ _⟩ | exact ⟨⟨⟨_, rfl, hx491, hx492⟩, fun h => absurd h (by decide)⟩, hR, World.grownBy.refl _ _⟩ | exact ⟨⟨rfl, ⟨_, rfl, hx491, hx492⟩, fun h => absurd h (by decide)⟩, hR, World.grownBy.refl _ _⟩
    | n + 14, hi, _ => exact absurd hi (by simp)
  intro ρ w6 hR hρ hne K hK
  obtain ⟨y, p7, hy1, hy2⟩ : ∃ r' : Int, ρ 12 = I r' ∧ gI sts k ≤ r' ∧ r' ≤ gI sts k + 59 := hρ 12 (by simp)
  obtain ⟨pl, p8, hpl1, hpl2⟩ : ∃ r' : Int, ρ 13 = I r' ∧ 0 ≤ r' ∧ r' ≤ r := hρ 13 (by simp)
  show K (putAll _ _ ρ 14) _
  simp only [putAll, dOf, List.getElem?_toArray, List.getElem?_cons_zero, List.getElem?_cons_succ, Option.bind_some, Act.put, List.setIfInBounds_toArray, List.set_cons_zero, List.set_cons_succ]
  rw [p7, p8]
  refine hK _ _ ?_
  change wpList _ _ _ [] _ _
  obtain ⟨L6, hsl6⟩ := hR
  clear hK K p7 p8 hρ hne L5 hsl5
  obtain ⟨L, rfl⟩ : ∃ L : Nat, y = (L : Int) := ⟨y.toNat, by omega⟩
  have hc6 := L6.box.cell
  go_wp2_with fail
  refine (V.where_ L6.wings hsl6 hi hy1 (by omega)).mono ?_
  rintro e w7 ⟨rfl, hb7⟩
  generalize hxa : front ws sts (los ws) (L : Int) k = xa at *
  generalize hxb : front ws sts (his ws) (L : Int) k = xb at *
  have HXA := Lib.hid hxa
  have HXB := Lib.hid hxb
  have L7 := (L6.grow hb7).alloc (.cells #[I xa, I xb] 27)
  have hsl7 := (Sl.below hsl6 hb7 (Nat.le_refl _)).alloc (.cells #[I xa, I xb] 27)
  have x9 := Bx.new w7 27 #[I xa, I xb]
  clear hxa hxb L6 hsl6 hc6 hb7
  have hc7 := L7.box.cell
  go_wp2_with fail
  refine (V.passes_ L7.wings hsl7 hi hpl1 (by omega)).mono ?_
  rintro e w8 ⟨rfl, hb8⟩
  generalize w7.heap.size = q9 at *
  generalize hya : passed ws sts (his ws) k pl = ya at *
  generalize hyb : passed ws sts (los ws) k pl = yb at *
  have HYA := Lib.hid hya
  have HYB := Lib.hid hyb
  have L8 := (L7.grow hb8).alloc (.cells #[I ya, I yb] 27)
  have hsl8 := (Sl.below hsl7 hb8 (Nat.le_refl _)).alloc (.cells #[I ya, I yb] 27)
  have x9 := (x9.below hb8 x9.lt).alloc (.cells #[I ya, I yb] 27)
  have x11 := Bx.new w8 27 #[I ya, I yb]
  clear hya hyb L7 hsl7 hc7 hb8
  have hc8 := L8.box.cell
  have hru0 : rulE 0 0 0 = 0 := by decide
  have hla := fun W (h1 : SlW W 29 A ws) (h2 : SlI W 3 (some ⟨b, o, none⟩) sts) => V.lasts_ h1 h2 hru0
  clear hru0
  obtain ⟨kl, hkl⟩ : ∃ kl, kl + 1 = ws.length := ⟨ws.length - 1, by omega⟩
  have eLh : lasF r ws sts (his ws) = passed ws sts (his ws) kl (r + (gW ws kl).len) - gI sts 0 := by unfold lasF; rw [show ws.length - 1 = kl by omega]
  have eLl : lasF r ws sts (los ws) = passed ws sts (los ws) kl (r + (gW ws kl).len) - gI sts 0 := by unfold lasF; rw [show ws.length - 1 = kl by omega]
  go_wp2_with fail
  refine (hla _ L8.wings hsl8).mono ?_
  rintro e w9 ⟨rfl, hb9⟩
  generalize w8.heap.size = q11 at *
  rw [eLh, eLl] at *
  clear eLh eLl hla
  generalize hza : passed ws sts (his ws) kl (r + (gW ws kl).len) - gI sts 0 = za at *
  generalize hzb : passed ws sts (los ws) kl (r + (gW ws kl).len) - gI sts 0 = zb at *
  generalize verd 0 0 za zb = vv at *
  have HZA := Lib.hid hza
  have HZB := Lib.hid hzb
  have L9 := (L8.grow hb9).alloc (.cells #[I za, I zb] 27)
  have hsl9 := (Sl.below hsl8 hb9 (Nat.le_refl _)).alloc (.cells #[I za, I zb] 27)
  have x9 := (x9.below hb9 x9.lt).alloc (.cells #[I za, I zb] 27)
  have x11 := (x11.below hb9 x11.lt).alloc (.cells #[I za, I zb] 27)
  have x14 := Bx.new w9 27 #[I za, I zb]
  have HKL := Lib.hid hkl
  clear hza hzb L8 hsl8 hc8 hb9 hkl
  have hc9 := L9.box.cell
  go_wp2_with fail
  refine (V.gapAll L9.wings hsl9 hi hy1 (by omega)).mono ?_
  rintro e w10 ⟨ga, gb, ge, rfl, hge, hgab, hb10⟩
  generalize w9.heap.size = q14 at *
  have T10 : TrS d w2.heap.size r A c ws (some ⟨b, o, none⟩) sts (w10.heap.size + 1) q9 q11 q14 w10.heap.size #[I xa, I xb] #[I ya, I yb] #[I za, I zb] #[I ga, I gb] w (w10.alloc (.cells #[I ga, I gb] 27)) :=
    have hb10' := hb10
    ⟨(L9.grow hb10).alloc _, (Sl.below hsl9 hb10 (Nat.le_refl _)).alloc _, (x9.below hb10 x9.lt).alloc _, (x11.below hb10 x11.lt).alloc _, (x14.below hb10 x14.lt).alloc _, Bx.new _ _ _, by simp⟩
  have HGAB := Lib.hid hgab
  have HQ := Lib.hid (show w.heap.size ≤ w10.heap.size ∧ w2.heap.size < w10.heap.size ∧ b < w10.heap.size from ⟨(L9.grow hb10).below.size, (L9.grow hb10).box.lt, by
    obtain ⟨b', o', e, hlt⟩ := SlI.some_ (Sl.below hsl9 hb10 (Nat.le_refl _)) hks
    injection e with e
    injection e with e
    omega⟩)
  have hgb : (ge == 0) = decide (0 < k) := by
    have h1 : (ge = 0) ↔ 0 < k := by rw [hge]; omega
    rw [Bool.eq_iff_iff]
    simp [h1]
  clear hge
  clear hgab L9 hsl9 hc9 hb10 x9 x11 x14
  go_wp2_with fail
  clear hgb
  generalize w10.heap.size = q16 at *

  have hRd : ∀ w', (TrS d w2.heap.size r A c ws (some ⟨b, o, none⟩) sts (q16 + 1) q9 q11 q14 q16 #[I xa, I xb] #[I ya, I yb] #[I za, I zb] #[I ga, I gb] w) w' → Dr w' d := fun _ h => h.1.dr
  refine wp_region_list_e (by kernel_rfl) (R := (TrS d w2.heap.size r A c ws (some ⟨b, o, none⟩) sts (q16 + 1) q9 q11 q14 q16 #[I xa, I xb] #[I ya, I yb] #[I za, I zb] #[I ga, I gb] w)) (F := DF d) [1, 3, 6, 8, 10] [] []
      [As.is _ _ (.agg #[I r, .slice A ws.length c]),
      asFr _ d hRd (q16 + 1) (fun qs => qs.length = ws.length ∧ qs = los ws),
      As.is _ _ (.agg #[I r, .slice A ws.length c]),
      asFr _ d hRd (q16 + 1) (fun qs => qs.length = ws.length ∧ qs = his ws),
      As.is _ _ (.pointer (some ⟨d, 0, none⟩)),
      As.is _ _ (.agg #[I r, .slice A ws.length c]),
      asFr _ d hRd (q16 + 1) (fun qs => qs.length = ws.length ∧ InP ws qs),
      As.is _ _ (.agg #[I r, .slice A ws.length c]),
      asFr _ d hRd (q16 + 1) (fun qs => qs.length = ws.length ∧ qs = his ws),
      As.is _ _ (.agg #[I r, .slice A ws.length c]),
      asFr _ d hRd (q16 + 1) (fun qs => qs.length = ws.length ∧ qs = los ws),
      asAll _ d hRd (q16 + 1) ws.length (fun qs => qs = los ws) (fun qs => qs = his ws) (fun qs => InP ws qs) (fun qs => qs = his ws) (fun qs => qs = los ws),
      asAll _ d hRd (q16 + 1) ws.length (fun qs => qs = los ws) (fun qs => qs = his ws) (fun qs => InP ws qs) (fun qs => qs = his ws) (fun qs => qs = los ws)] 295 (by kernel_rfl) rfl (T10.grow (Below.refl _ _).drew) (by decide) (by decide) ?_ (fun _ => World.grownBy.refl _ _) ?_ ?_ ?_
  · intro i' hi' o' ho k' b' hg u w' hR hu
    match i', hi', ho with
    | 0, _, ho => cases ho; cases hg
    | 1, _, ho => cases ho; cases hg
    | 2, _, ho => cases ho; cases hg
    | 3, _, ho => cases ho; cases hg
    | 4, _, ho => cases ho; cases hg
    | 5, _, ho => cases ho; cases hg
    | 6, _, ho => cases ho; cases hg
    | 7, _, ho => cases ho; cases hg
    | 8, _, ho => cases ho; cases hg
    | 9, _, ho => cases ho; cases hg
    | 10, _, ho => cases ho; cases hg
    | 11, _, ho => cases ho; cases hg
    | 12, _, ho => cases ho; cases hg
    | n + 13, hi, _ => exact absurd hi (by simp)
  · intro i' hi' hsk; cases hsk
  · intro i' hi' hsk o' ho ev w' hR hc hf hg hs hd hx
    match i', hi', ho with
    | 0, _, ho =>
      clear hsk
      cases ho
      have e4 : ev (.tmp 4) = .pointer (some ⟨w2.heap.size, 0, none⟩) := hs 4 (by kernel_rfl)
      have m4 := hR.1.box.cell
      go_simp
      first | exact ⟨rfl, hR, World.grownBy.refl _ _⟩ | exact ⟨⟨rfl, rfl⟩, hR, World.grownBy.refl _ _⟩ | exact ⟨⟨rfl, fun h => absurd h (by decide)⟩, hR, World.grownBy.refl _ _⟩ | exact ⟨⟨rfl, rfl, fun h => absurd h (by decide)⟩, hR, World.grownBy.refl _ _⟩
    | 1, _, ho =>
      clear hsk
      cases ho
      have e99 : ev (.tmp 99) = .agg #[I r, .slice A ws.length c] := hd 0 99 (by kernel_rfl)
      go_simp
      refine (slow2_c r A c ws _ w' hR.1.wings (by omega)).mono ?_
      rintro e wz ⟨v, rfl, hv, hwz⟩
      have hfr0 : FrR w'.heap.size (fun qs => qs.length = ws.length ∧ qs = los ws) v wz := FrR.ofOwn hv (by rw [los_length]; omega) ⟨los_length ws, rfl⟩
      first | exact ⟨⟨FrR.base hfr0 hR.2.2.2.2.2.2, (by (repeat' apply And.intro) <;> exact fun u hu => FrR.ne hfr0 hu)⟩, hR.grow hwz, kp_of_below hwz (Nat.le_refl _)⟩ | exact ⟨⟨rfl, FrR.base hfr0 hR.2.2.2.2.2.2, (by (repeat' apply And.intro) <;> exact fun u hu => FrR.ne hfr0 hu)⟩, hR.grow hwz, kp_of_below hwz (Nat.le_refl _)⟩
    | 2, _, ho =>
      clear hsk
      cases ho
      have e4 : ev (.tmp 4) = .pointer (some ⟨w2.heap.size, 0, none⟩) := hs 4 (by kernel_rfl)
      have m4 := hR.1.box.cell
      go_simp
      first | exact ⟨rfl, hR, World.grownBy.refl _ _⟩ | exact ⟨⟨rfl, rfl⟩, hR, World.grownBy.refl _ _⟩ | exact ⟨⟨rfl, fun h => absurd h (by decide)⟩, hR, World.grownBy.refl _ _⟩ | exact ⟨⟨rfl, rfl, fun h => absurd h (by decide)⟩, hR, World.grownBy.refl _ _⟩
    | 3, _, ho =>
      clear hsk
      cases ho
      have e101 : ev (.tmp 101) = .agg #[I r, .slice A ws.length c] := hd 2 101 (by kernel_rfl)
      go_simp
      refine (fast2_c r A c ws _ w' hR.1.wings (by omega)).mono ?_
      rintro e wz ⟨v, rfl, hv, hwz⟩
      have hfr0 : FrR w'.heap.size (fun qs => qs.length = ws.length ∧ qs = his ws) v wz := FrR.ofOwn hv (by rw [his_length]; omega) ⟨his_length ws, rfl⟩
      first | exact ⟨⟨FrR.base hfr0 hR.2.2.2.2.2.2, (by (repeat' apply And.intro) <;> exact fun u hu => FrR.ne hfr0 hu)⟩, hR.grow hwz, kp_of_below hwz (Nat.le_refl _)⟩ | exact ⟨⟨rfl, FrR.base hfr0 hR.2.2.2.2.2.2, (by (repeat' apply And.intro) <;> exact fun u hu => FrR.ne hfr0 hu)⟩, hR.grow hwz, kp_of_below hwz (Nat.le_refl _)⟩
    | 4, _, ho =>
      clear hsk
      cases ho
      have e3 : ev (.tmp 3) = .pointer (some ⟨d, 0, none⟩) := hs 3 (by kernel_rfl)
      go_simp
      first | exact ⟨rfl, hR, World.grownBy.refl _ _⟩ | exact ⟨⟨rfl, rfl⟩, hR, World.grownBy.refl _ _⟩ | exact ⟨⟨rfl, fun h => absurd h (by decide)⟩, hR, World.grownBy.refl _ _⟩ | exact ⟨⟨rfl, rfl, fun h => absurd h (by decide)⟩, hR, World.grownBy.refl _ _⟩
    | 5, _, ho =>
      clear hsk
      cases ho
      have e4 : ev (.tmp 4) = .pointer (some ⟨w2.heap.size, 0, none⟩) := hs 4 (by kernel_rfl)
      have m4 := hR.1.box.cell
      go_simp
      first | exact ⟨rfl, hR, World.grownBy.refl _ _⟩ | exact ⟨⟨rfl, rfl⟩, hR, World.grownBy.refl _ _⟩ | exact ⟨⟨rfl, fun h => absurd h (by decide)⟩, hR, World.grownBy.refl _ _⟩ | exact ⟨⟨rfl, rfl, fun h => absurd h (by decide)⟩, hR, World.grownBy.refl _ _⟩
    | 6, _, ho =>
      clear hsk
      cases ho
      have e103 : ev (.tmp 103) = .pointer (some ⟨d, 0, none⟩) := hd 4 103 (by kernel_rfl)
      have e104 : ev (.tmp 104) = .agg #[I r, .slice A ws.length c] := hd 5 104 (by kernel_rfl)
      go_simp
      refine (paces2_c d r A c ws w' hR.1.dr hR.1.wings hm (by omega)).mono ?_
      rintro e wz ⟨v, ps, rfl, hv, hd1, hk1, hlp, hpb⟩
      have hfr0 : FrR w'.heap.size (fun qs => qs.length = ws.length ∧ InP ws qs) v wz := FrR.ofOwn hv (by omega) ⟨hlp, hlp, hpb⟩
      first | exact ⟨⟨FrR.base hfr0 hR.2.2.2.2.2.2, (by (repeat' apply And.intro) <;> exact fun u hu => FrR.ne hfr0 hu)⟩, hR.kp hk1 hd1, hk1⟩ | exact ⟨⟨rfl, FrR.base hfr0 hR.2.2.2.2.2.2, (by (repeat' apply And.intro) <;> exact fun u hu => FrR.ne hfr0 hu)⟩, hR.kp hk1 hd1, hk1⟩
    | 7, _, ho =>
      clear hsk
      cases ho
      have e4 : ev (.tmp 4) = .pointer (some ⟨w2.heap.size, 0, none⟩) := hs 4 (by kernel_rfl)
      have m4 := hR.1.box.cell
      go_simp
      first | exact ⟨rfl, hR, World.grownBy.refl _ _⟩ | exact ⟨⟨rfl, rfl⟩, hR, World.grownBy.refl _ _⟩ | exact ⟨⟨rfl, fun h => absurd h (by decide)⟩, hR, World.grownBy.refl _ _⟩ | exact ⟨⟨rfl, rfl, fun h => absurd h (by decide)⟩, hR, World.grownBy.refl _ _⟩
    | 8, _, ho =>
      clear hsk
      cases ho
      have e106 : ev (.tmp 106) = .agg #[I r, .slice A ws.length c] := hd 7 106 (by kernel_rfl)
      go_simp
      refine (fast2_c r A c ws _ w' hR.1.wings (by omega)).mono ?_
      rintro e wz ⟨v, rfl, hv, hwz⟩
      have hfr0 : FrR w'.heap.size (fun qs => qs.length = ws.length ∧ qs = his ws) v wz := FrR.ofOwn hv (by rw [his_length]; omega) ⟨his_length ws, rfl⟩
      first | exact ⟨⟨FrR.base hfr0 hR.2.2.2.2.2.2, (by (repeat' apply And.intro) <;> exact fun u hu => FrR.ne hfr0 hu)⟩, hR.grow hwz, kp_of_below hwz (Nat.le_refl _)⟩ | exact ⟨⟨rfl, FrR.base hfr0 hR.2.2.2.2.2.2, (by (repeat' apply And.intro) <;> exact fun u hu => FrR.ne hfr0 hu)⟩, hR.grow hwz, kp_of_below hwz (Nat.le_refl _)⟩
    | 9, _, ho =>
      clear hsk
      cases ho
      have e4 : ev (.tmp 4) = .pointer (some ⟨w2.heap.size, 0, none⟩) := hs 4 (by kernel_rfl)
      have m4 := hR.1.box.cell
      go_simp
      first | exact ⟨rfl, hR, World.grownBy.refl _ _⟩ | exact ⟨⟨rfl, rfl⟩, hR, World.grownBy.refl _ _⟩ | exact ⟨⟨rfl, fun h => absurd h (by decide)⟩, hR, World.grownBy.refl _ _⟩ | exact ⟨⟨rfl, rfl, fun h => absurd h (by decide)⟩, hR, World.grownBy.refl _ _⟩
    | 10, _, ho =>
      clear hsk
      cases ho
      have e108 : ev (.tmp 108) = .agg #[I r, .slice A ws.length c] := hd 9 108 (by kernel_rfl)
      go_simp
      refine (slow2_c r A c ws _ w' hR.1.wings (by omega)).mono ?_
      rintro e wz ⟨v, rfl, hv, hwz⟩
      have hfr0 : FrR w'.heap.size (fun qs => qs.length = ws.length ∧ qs = los ws) v wz := FrR.ofOwn hv (by rw [los_length]; omega) ⟨los_length ws, rfl⟩
      first | exact ⟨⟨FrR.base hfr0 hR.2.2.2.2.2.2, (by (repeat' apply And.intro) <;> exact fun u hu => FrR.ne hfr0 hu)⟩, hR.grow hwz, kp_of_below hwz (Nat.le_refl _)⟩ | exact ⟨⟨rfl, FrR.base hfr0 hR.2.2.2.2.2.2, (by (repeat' apply And.intro) <;> exact fun u hu => FrR.ne hfr0 hu)⟩, hR.grow hwz, kp_of_below hwz (Nat.le_refl _)⟩
    | 11, _, ho =>
      clear hsk
      cases ho
      obtain ⟨g100, c100, l100, e100, hn100, hr100, hl100, hp100⟩ : FrR (q16 + 1) (fun qs => qs.length = ws.length ∧ qs = los ws) (ev (.tmp 100)) w' := hd 1 100 (by kernel_rfl)
      rw [hl100] at e100
      obtain ⟨g102, c102, l102, e102, hn102, hr102, hl102, hp102⟩ : FrR (q16 + 1) (fun qs => qs.length = ws.length ∧ qs = his ws) (ev (.tmp 102)) w' := hd 3 102 (by kernel_rfl)
      rw [hl102] at e102
      obtain ⟨g105, c105, l105, e105, hn105, hr105, hl105, hp105⟩ : FrR (q16 + 1) (fun qs => qs.length = ws.length ∧ InP ws qs) (ev (.tmp 105)) w' := hd 6 105 (by kernel_rfl)
      rw [hl105] at e105
      obtain ⟨g107, c107, l107, e107, hn107, hr107, hl107, hp107⟩ : FrR (q16 + 1) (fun qs => qs.length = ws.length ∧ qs = his ws) (ev (.tmp 107)) w' := hd 8 107 (by kernel_rfl)
      rw [hl107] at e107
      obtain ⟨g109, c109, l109, e109, hn109, hr109, hl109, hp109⟩ : FrR (q16 + 1) (fun qs => qs.length = ws.length ∧ qs = los ws) (ev (.tmp 109)) w' := hd 10 109 (by kernel_rfl)
      rw [hl109] at e109
      have z107_100 := hx 8 1 107 100 (by decide) (by decide) (by decide) (by kernel_rfl) (by kernel_rfl)
      rw [e107, e100] at z107_100
      have y107_100 : g107 ≠ g100 := rows_ne hr107 hr100 (by rw [hl107, hl100]) (by rw [hl107, hl100]; exact z107_100)
      have z107_102 := hx 8 3 107 102 (by decide) (by decide) (by decide) (by kernel_rfl) (by kernel_rfl)
      rw [e107, e102] at z107_102
      have y107_102 : g107 ≠ g102 := rows_ne hr107 hr102 (by rw [hl107, hl102]) (by rw [hl107, hl102]; exact z107_102)
      have z107_105 := hx 8 6 107 105 (by decide) (by decide) (by decide) (by kernel_rfl) (by kernel_rfl)
      rw [e107, e105] at z107_105
      have y107_105 : g107 ≠ g105 := rows_ne hr107 hr105 (by rw [hl107, hl105]) (by rw [hl107, hl105]; exact z107_105)
      have z109_100 := hx 10 1 109 100 (by decide) (by decide) (by decide) (by kernel_rfl) (by kernel_rfl)
      rw [e109, e100] at z109_100
      have y109_100 : g109 ≠ g100 := rows_ne hr109 hr100 (by rw [hl109, hl100]) (by rw [hl109, hl100]; exact z109_100)
      have z109_102 := hx 10 3 109 102 (by decide) (by decide) (by decide) (by kernel_rfl) (by kernel_rfl)
      rw [e109, e102] at z109_102
      have y109_102 : g109 ≠ g102 := rows_ne hr109 hr102 (by rw [hl109, hl102]) (by rw [hl109, hl102]; exact z109_102)
      have z109_105 := hx 10 6 109 105 (by decide) (by decide) (by decide) (by kernel_rfl) (by kernel_rfl)
      rw [e109, e105] at z109_105
      have y109_105 : g109 ≠ g105 := rows_ne hr109 hr105 (by rw [hl109, hl105]) (by rw [hl109, hl105]; exact z109_105)
      have z107_109 := hx 8 10 107 109 (by decide) (by decide) (by decide) (by kernel_rfl) (by kernel_rfl)
      rw [e107, e109] at z107_109
      have y107_109 : g107 ≠ g109 := rows_ne hr107 hr109 (by rw [hl107, hl109]) (by rw [hl107, hl109]; exact z107_109)
      clear z107_100
      clear z107_102
      clear z107_105
      clear z109_100
      clear z109_102
      clear z109_105
      clear z107_109
      have HL100 := Lib.hid hl100
      clear hl100
      have HL102 := Lib.hid hl102
      clear hl102
      have HL105 := Lib.hid hl105
      clear hl105
      have HL107 := Lib.hid hl107
      clear hl107
      have HL109 := Lib.hid hl109
      clear hl109
      go_simp
      have hal : Below w'.heap.size w' (w'.alloc (.cells #[.slice (some ⟨g100, 0, none⟩) ws.length c100, .slice (some ⟨g102, 0, none⟩) ws.length c102, .slice (some ⟨g105, 0, none⟩) ws.length c105, .slice (some ⟨g107, 0, none⟩) ws.length c107, .slice (some ⟨g109, 0, none⟩) ws.length c109] 25)) := (Below.refl _ _).alloc (Nat.le_refl _) _
      first | exact ⟨⟨_, g100, c100, g102, c102, g105, c105, g107, c107, g109, c109, l100, l102, l105, l107, l109, rfl, hR.2.2.2.2.2.2, Bx.new _ _ _, ⟨hn100, hn102, hn105, hn107, hn109⟩, ⟨HL100.out, HL102.out, HL105.out, HL107.out, HL109.out⟩, ⟨hr100.below hal, hr102.below hal, hr105.below hal, hr107.below hal, hr109.below hal⟩, ⟨hp100, hp102, hp105, hp107, hp109⟩, ⟨y107_100, y107_102, y107_105, y109_100, y109_102, y109_105, y107_109⟩⟩, hR.grow hal, kp_of_below hal (Nat.le_refl _)⟩ | exact ⟨⟨rfl, ⟨_, g100, c100, g102, c102, g105, c105, g107, c107, g109, c109, l100, l102, l105, l107, l109, rfl, hR.2.2.2.2.2.2, Bx.new _ _ _, ⟨hn100, hn102, hn105, hn107, hn109⟩, ⟨HL100.out, HL102.out, HL105.out, HL107.out, HL109.out⟩, ⟨hr100.below hal, hr102.below hal, hr105.below hal, hr107.below hal, hr109.below hal⟩, ⟨hp100, hp102, hp105, hp107, hp109⟩, ⟨y107_100, y107_102, y107_105, y109_100, y109_102, y109_105, y107_109⟩⟩⟩, hR.grow hal, kp_of_below hal (Nat.le_refl _)⟩ | exact ⟨⟨⟨_, g100, c100, g102, c102, g105, c105, g107, c107, g109, c109, l100, l102, l105, l107, l109, rfl, hR.2.2.2.2.2.2, Bx.new _ _ _, ⟨hn100, hn102, hn105, hn107, hn109⟩, ⟨HL100.out, HL102.out, HL105.out, HL107.out, HL109.out⟩, ⟨hr100.below hal, hr102.below hal, hr105.below hal, hr107.below hal, hr109.below hal⟩, ⟨hp100, hp102, hp105, hp107, hp109⟩, ⟨y107_100, y107_102, y107_105, y109_100, y109_102, y109_105, y107_109⟩⟩, fun h => absurd h (by decide)⟩, hR.grow hal, kp_of_below hal (Nat.le_refl _)⟩ | exact ⟨⟨rfl, ⟨_, g100, c100, g102, c102, g105, c105, g107, c107, g109, c109, l100, l102, l105, l107, l109, rfl, hR.2.2.2.2.2.2, Bx.new _ _ _, ⟨hn100, hn102, hn105, hn107, hn109⟩, ⟨HL100.out, HL102.out, HL105.out, HL107.out, HL109.out⟩, ⟨hr100.below hal, hr102.below hal, hr105.below hal, hr107.below hal, hr109.below hal⟩, ⟨hp100, hp102, hp105, hp107, hp109⟩, ⟨y107_100, y107_102, y107_105, y109_100, y109_102, y109_105, y107_109⟩⟩, fun h => absurd h (by decide)⟩, hR.grow hal, kp_of_below hal (Nat.le_refl _)⟩
    | 12, _, ho =>
      clear hsk
      cases ho
      have f110 : FrAll (q16 + 1) ws.length (fun qs => qs = los ws) (fun qs => qs = his ws) (fun qs => InP ws qs) (fun qs => qs = his ws) (fun qs => qs = los ws) (ev (.tmp 110)) w' := hd 11 110 (by kernel_rfl)
      go_simp
      first | exact ⟨f110, hR, World.grownBy.refl _ _⟩ | exact ⟨⟨rfl, f110⟩, hR, World.grownBy.refl _ _⟩ | exact ⟨⟨f110, fun h => absurd h (by decide)⟩, hR, World.grownBy.refl _ _⟩ | exact ⟨⟨rfl, f110, fun h => absurd h (by decide)⟩, hR, World.grownBy.refl _ _⟩
    | n + 13, hi, _ => exact absurd hi (by simp)
  intro ρ w12 hR hρ hne K hK
  obtain ⟨b18, g0, d0, g1, d1, g2, d2, g3, d3, g4, d4, l0, l1, pp, l3, l4, p18, hb18, x18, ⟨n0, n1, n2, n3, n4⟩, ⟨_, _, _, _, _⟩, ⟨a0, a1, a2, a3, a4⟩, ⟨rfl, rfl, hpp, rfl, rfl⟩, y30, y31, y32, y40, y41, y42, y34⟩ : FrAll (q16 + 1) ws.length (fun qs => qs = los ws) (fun qs => qs = his ws) (fun qs => InP ws qs) (fun qs => qs = his ws) (fun qs => qs = los ws) (ρ 12) w12 := hρ 12 (by simp)
  show K (putAll _ _ ρ 13) _
  simp only [putAll, dOf, List.getElem?_toArray, List.getElem?_cons_zero, List.getElem?_cons_succ, Option.bind_some, Act.put, List.setIfInBounds_toArray, List.set_cons_zero, List.set_cons_succ]
  rw [p18]
  refine hK _ _ ?_
  change wpList _ _ _ [] _ _
  have T12 := hR
  clear hK K p18 hρ hne hRd T10 hR
  have R12 : TrR b18 ws.length (q16 + 1) g0 d0 g1 d1 g2 d2 g3 d3 g4 d4 (los ws) (his ws) pp w12 := ⟨x18, a0, a1, a2⟩
  clear x18 a0 a1 a2
  obtain ⟨bw, ow, rfl, _⟩ := SlW.some_ T12.1.wings hi
  have hw0n : w.heap.size ≤ q16 + 1 := by have := HQ.out; omega
  have hqn : w2.heap.size < q16 + 1 := by have := HQ.out; omega
  have hBo : ∀ b' o', some (⟨b, o, none⟩ : Addr) = some ⟨b', o', none⟩ → b' < q16 + 1 := fun b' o' e => by injection e with e; injection e with e; have := HQ.out; omega
  go_wp2_with fail
  refine wp_region_list_s (by kernel_rfl) (R := (fun w' => TrS d w2.heap.size r (some ⟨bw, ow, none⟩) c ws (some ⟨b, o, none⟩) sts (q16 + 1) q9 q11 q14 q16 #[I xa, I xb] #[I ya, I yb] #[I za, I zb] #[I ga, I gb] w w' ∧ TrR b18 ws.length (q16 + 1) g0 d0 g1 d1 g2 d2 g3 d3 g4 d4 (los ws) (his ws) pp w' ∧ (∃ x, RowAt w' g3 d3 ((his ws).set k x)) ∧ (∃ x, RowAt w' g4 d4 ((los ws).set k x)))) (F := (fun wa wb => (RowAt wa g3 d3 ((his ws).set k (gW ws k).lo) → RowAt wb g3 d3 ((his ws).set k (gW ws k).lo)) ∧ (RowAt wa g4 d4 ((los ws).set k (gW ws k).hi) → RowAt wb g4 d4 ((los ws).set k (gW ws k).hi)))) [] [] [(23, 22), (25, 24)]
      [As.is _ _ (.slice (some ⟨b18, 0, none⟩) 5 5),
      As.is _ _ (.pointer (some ⟨b18, 3, none⟩)),
      As.is _ _ (.slice (some ⟨g3, 0, none⟩) ws.length d3),
      As.is _ _ (I (k : Int)),
      As.is _ _ (.slice (some ⟨b18, 0, none⟩) 5 5),
      As.is _ _ (.pointer (some ⟨b18, 4, none⟩)),
      As.is _ _ (.slice (some ⟨g4, 0, none⟩) ws.length d4),
      As.is _ _ (I (k : Int)),
      As.is _ _ (.pointer (some ⟨w2.heap.size, 1, none⟩)),
      As.is _ _ (.slice (some ⟨bw, ow, none⟩) ws.length c),
      As.is _ _ (I (k : Int)),
      As.is _ _ (.pointer (some ⟨bw, ow + k * 4, none⟩)),
      As.is _ _ (.pointer (some ⟨bw, ow + k * 4 + 2, none⟩)),
      As.is _ _ (.pointer (some ⟨bw, ow + k * 4 + 2, none⟩)),
      As.is _ _ (I (gW ws k).lo),
      As.is _ _ (.pointer (some ⟨w2.heap.size, 1, none⟩)),
      As.is _ _ (.slice (some ⟨bw, ow, none⟩) ws.length c),
      As.is _ _ (I (k : Int)),
      As.is _ _ (.pointer (some ⟨bw, ow + k * 4, none⟩)),
      As.is _ _ (.pointer (some ⟨bw, ow + k * 4 + 2, none⟩)),
      As.is _ _ (.pointer (some ⟨bw, ow + k * 4 + 3, none⟩)),
      As.is _ _ (I (gW ws k).hi),
      As.is _ _ (.pointer (some ⟨g3, k, none⟩)),
      (⟨fun _ w' => RowAt w' g3 d3 ((his ws).set k (gW ws k).lo), fun _ _ _ _ _ hF h => hF.1 h⟩ : As _ _),
      As.is _ _ (.pointer (some ⟨g4, k, none⟩)),
      (⟨fun _ w' => RowAt w' g4 d4 ((los ws).set k (gW ws k).hi), fun _ _ _ _ _ hF h => hF.2 h⟩ : As _ _)] 295 (by kernel_rfl) rfl (⟨T12.grow (Below.refl _ _).drew, R12.grow (Below.refl _ _).drew, ⟨_, (a3.self (k := k) (by rw [his_length]; exact hi)).below (Below.refl _ _).drew⟩, ⟨_, (a4.self (k := k) (by rw [los_length]; exact hi)).below (Below.refl _ _).drew⟩⟩) (by simp) (by simp) ?_ (fun _ => ⟨id, id⟩) ?_ ?_ ?_
  · intro i' hi' o' ho k' b' hg u w' hR hu
    match i', hi', ho with
    | 0, _, ho => cases ho; cases hg
    | 1, _, ho => cases ho; cases hg
    | 2, _, ho => cases ho; cases hg
    | 3, _, ho => cases ho; cases hg
    | 4, _, ho => cases ho; cases hg
    | 5, _, ho => cases ho; cases hg
    | 6, _, ho => cases ho; cases hg
    | 7, _, ho => cases ho; cases hg
    | 8, _, ho => cases ho; cases hg
    | 9, _, ho => cases ho; cases hg
    | 10, _, ho => cases ho; cases hg
    | 11, _, ho => cases ho; cases hg
    | 12, _, ho => cases ho; cases hg
    | 13, _, ho => cases ho; cases hg
    | 14, _, ho => cases ho; cases hg
    | 15, _, ho => cases ho; cases hg
    | 16, _, ho => cases ho; cases hg
    | 17, _, ho => cases ho; cases hg
    | 18, _, ho => cases ho; cases hg
    | 19, _, ho => cases ho; cases hg
    | 20, _, ho => cases ho; cases hg
    | 21, _, ho => cases ho; cases hg
    | 22, _, ho => cases ho; cases hg
    | 23, _, ho => cases ho; cases hg
    | 24, _, ho => cases ho; cases hg
    | 25, _, ho => cases ho; cases hg
    | n + 26, hi, _ => exact absurd hi (by simp)
  · intro i' hi' hsk; cases hsk
  · intro i' hi' hsk o' ho ev w' hR hc hf hg hs hd
    match i', hi', ho with
    | 0, _, ho =>
      clear hsk
      cases ho
      have e18 : ev (.tmp 18) = .slice (some ⟨b18, 0, none⟩) 5 5 := hs 18 (by kernel_rfl)
      go_simp
      first | exact ⟨rfl, hR, ⟨id, id⟩⟩ | exact ⟨⟨rfl, rfl⟩, hR, ⟨id, id⟩⟩ | exact ⟨⟨rfl, fun h => absurd h (by decide)⟩, hR, ⟨id, id⟩⟩ | exact ⟨⟨rfl, rfl, fun h => absurd h (by decide)⟩, hR, ⟨id, id⟩⟩
    | 1, _, ho =>
      clear hsk
      cases ho
      have e111 : ev (.tmp 111) = .slice (some ⟨b18, 0, none⟩) 5 5 := hd 0 111 (by kernel_rfl)
      go_simp
      first | exact ⟨rfl, hR, ⟨id, id⟩⟩ | exact ⟨⟨rfl, rfl⟩, hR, ⟨id, id⟩⟩ | exact ⟨⟨rfl, fun h => absurd h (by decide)⟩, hR, ⟨id, id⟩⟩ | exact ⟨⟨rfl, rfl, fun h => absurd h (by decide)⟩, hR, ⟨id, id⟩⟩
    | 2, _, ho =>
      clear hsk
      cases ho
      have e112 : ev (.tmp 112) = .pointer (some ⟨b18, 3, none⟩) := hd 1 112 (by kernel_rfl)
      have mb := hR.2.1.box.cell
      go_simp
      first | exact ⟨rfl, hR, ⟨id, id⟩⟩ | exact ⟨⟨rfl, rfl⟩, hR, ⟨id, id⟩⟩ | exact ⟨⟨rfl, fun h => absurd h (by decide)⟩, hR, ⟨id, id⟩⟩ | exact ⟨⟨rfl, rfl, fun h => absurd h (by decide)⟩, hR, ⟨id, id⟩⟩
    | 3, _, ho =>
      clear hsk
      cases ho
      have e6 : ev (.tmp 6) = I (k : Int) := hs 6 (by kernel_rfl)
      go_simp
      first | exact ⟨rfl, hR, ⟨id, id⟩⟩ | exact ⟨⟨rfl, rfl⟩, hR, ⟨id, id⟩⟩ | exact ⟨⟨rfl, fun h => absurd h (by decide)⟩, hR, ⟨id, id⟩⟩ | exact ⟨⟨rfl, rfl, fun h => absurd h (by decide)⟩, hR, ⟨id, id⟩⟩
    | 4, _, ho =>
      clear hsk
      cases ho
      have e18 : ev (.tmp 18) = .slice (some ⟨b18, 0, none⟩) 5 5 := hs 18 (by kernel_rfl)
      go_simp
      first | exact ⟨rfl, hR, ⟨id, id⟩⟩ | exact ⟨⟨rfl, rfl⟩, hR, ⟨id, id⟩⟩ | exact ⟨⟨rfl, fun h => absurd h (by decide)⟩, hR, ⟨id, id⟩⟩ | exact ⟨⟨rfl, rfl, fun h => absurd h (by decide)⟩, hR, ⟨id, id⟩⟩
    | 5, _, ho =>
      clear hsk
      cases ho
      have e115 : ev (.tmp 115) = .slice (some ⟨b18, 0, none⟩) 5 5 := hd 4 115 (by kernel_rfl)
      go_simp
      first | exact ⟨rfl, hR, ⟨id, id⟩⟩ | exact ⟨⟨rfl, rfl⟩, hR, ⟨id, id⟩⟩ | exact ⟨⟨rfl, fun h => absurd h (by decide)⟩, hR, ⟨id, id⟩⟩ | exact ⟨⟨rfl, rfl, fun h => absurd h (by decide)⟩, hR, ⟨id, id⟩⟩
    | 6, _, ho =>
      clear hsk
      cases ho
      have e116 : ev (.tmp 116) = .pointer (some ⟨b18, 4, none⟩) := hd 5 116 (by kernel_rfl)
      have mb := hR.2.1.box.cell
      go_simp
      first | exact ⟨rfl, hR, ⟨id, id⟩⟩ | exact ⟨⟨rfl, rfl⟩, hR, ⟨id, id⟩⟩ | exact ⟨⟨rfl, fun h => absurd h (by decide)⟩, hR, ⟨id, id⟩⟩ | exact ⟨⟨rfl, rfl, fun h => absurd h (by decide)⟩, hR, ⟨id, id⟩⟩
    | 7, _, ho =>
      clear hsk
      cases ho
      have e6 : ev (.tmp 6) = I (k : Int) := hs 6 (by kernel_rfl)
      go_simp
      first | exact ⟨rfl, hR, ⟨id, id⟩⟩ | exact ⟨⟨rfl, rfl⟩, hR, ⟨id, id⟩⟩ | exact ⟨⟨rfl, fun h => absurd h (by decide)⟩, hR, ⟨id, id⟩⟩ | exact ⟨⟨rfl, rfl, fun h => absurd h (by decide)⟩, hR, ⟨id, id⟩⟩
    | 8, _, ho =>
      clear hsk
      cases ho
      have e4 : ev (.tmp 4) = .pointer (some ⟨w2.heap.size, 0, none⟩) := hs 4 (by kernel_rfl)
      go_simp
      first | exact ⟨rfl, hR, ⟨id, id⟩⟩ | exact ⟨⟨rfl, rfl⟩, hR, ⟨id, id⟩⟩ | exact ⟨⟨rfl, fun h => absurd h (by decide)⟩, hR, ⟨id, id⟩⟩ | exact ⟨⟨rfl, rfl, fun h => absurd h (by decide)⟩, hR, ⟨id, id⟩⟩
    | 9, _, ho =>
      clear hsk
      cases ho
      have e119 : ev (.tmp 119) = .pointer (some ⟨w2.heap.size, 1, none⟩) := hd 8 119 (by kernel_rfl)
      have m4 := hR.1.1.box.cell
      go_simp
      first | exact ⟨rfl, hR, ⟨id, id⟩⟩ | exact ⟨⟨rfl, rfl⟩, hR, ⟨id, id⟩⟩ | exact ⟨⟨rfl, fun h => absurd h (by decide)⟩, hR, ⟨id, id⟩⟩ | exact ⟨⟨rfl, rfl, fun h => absurd h (by decide)⟩, hR, ⟨id, id⟩⟩
    | 10, _, ho =>
      clear hsk
      cases ho
      have e6 : ev (.tmp 6) = I (k : Int) := hs 6 (by kernel_rfl)
      go_simp
      first | exact ⟨rfl, hR, ⟨id, id⟩⟩ | exact ⟨⟨rfl, rfl⟩, hR, ⟨id, id⟩⟩ | exact ⟨⟨rfl, fun h => absurd h (by decide)⟩, hR, ⟨id, id⟩⟩ | exact ⟨⟨rfl, rfl, fun h => absurd h (by decide)⟩, hR, ⟨id, id⟩⟩
    | 11, _, ho =>
      clear hsk
      cases ho
      have e120 : ev (.tmp 120) = .slice (some ⟨bw, ow, none⟩) ws.length c := hd 9 120 (by kernel_rfl)
      have e121 : ev (.tmp 121) = I (k : Int) := hd 10 121 (by kernel_rfl)
      have hkl : (k : Int) < (ws.length : Int) := by omega
      go_simp
      first | exact ⟨rfl, hR, ⟨id, id⟩⟩ | exact ⟨⟨rfl, rfl⟩, hR, ⟨id, id⟩⟩ | exact ⟨⟨rfl, fun h => absurd h (by decide)⟩, hR, ⟨id, id⟩⟩ | exact ⟨⟨rfl, rfl, fun h => absurd h (by decide)⟩, hR, ⟨id, id⟩⟩
    | 12, _, ho =>
      clear hsk
      cases ho
      have e122 : ev (.tmp 122) = .pointer (some ⟨bw, ow + k * 4, none⟩) := hd 11 122 (by kernel_rfl)
      go_simp
      first | exact ⟨rfl, hR, ⟨id, id⟩⟩ | exact ⟨⟨rfl, rfl⟩, hR, ⟨id, id⟩⟩ | exact ⟨⟨rfl, fun h => absurd h (by decide)⟩, hR, ⟨id, id⟩⟩ | exact ⟨⟨rfl, rfl, fun h => absurd h (by decide)⟩, hR, ⟨id, id⟩⟩
    | 13, _, ho =>
      clear hsk
      cases ho
      have e123 : ev (.tmp 123) = .pointer (some ⟨bw, ow + k * 4 + 2, none⟩) := hd 12 123 (by kernel_rfl)
      go_simp
      first | exact ⟨rfl, hR, ⟨id, id⟩⟩ | exact ⟨⟨rfl, rfl⟩, hR, ⟨id, id⟩⟩ | exact ⟨⟨rfl, fun h => absurd h (by decide)⟩, hR, ⟨id, id⟩⟩ | exact ⟨⟨rfl, rfl, fun h => absurd h (by decide)⟩, hR, ⟨id, id⟩⟩
    | 14, _, ho =>
      clear hsk
      cases ho
      have e124 : ev (.tmp 124) = .pointer (some ⟨bw, ow + k * 4 + 2, none⟩) := hd 13 124 (by kernel_rfl)
      have m6 := (SlW.cellG hR.1.1.wings hi).2.2
      go_simp
      first | exact ⟨rfl, hR, ⟨id, id⟩⟩ | exact ⟨⟨rfl, rfl⟩, hR, ⟨id, id⟩⟩ | exact ⟨⟨rfl, fun h => absurd h (by decide)⟩, hR, ⟨id, id⟩⟩ | exact ⟨⟨rfl, rfl, fun h => absurd h (by decide)⟩, hR, ⟨id, id⟩⟩
    | 15, _, ho =>
      clear hsk
      cases ho
      have e4 : ev (.tmp 4) = .pointer (some ⟨w2.heap.size, 0, none⟩) := hs 4 (by kernel_rfl)
      go_simp
      first | exact ⟨rfl, hR, ⟨id, id⟩⟩ | exact ⟨⟨rfl, rfl⟩, hR, ⟨id, id⟩⟩ | exact ⟨⟨rfl, fun h => absurd h (by decide)⟩, hR, ⟨id, id⟩⟩ | exact ⟨⟨rfl, rfl, fun h => absurd h (by decide)⟩, hR, ⟨id, id⟩⟩
    | 16, _, ho =>
      clear hsk
      cases ho
      have e126 : ev (.tmp 126) = .pointer (some ⟨w2.heap.size, 1, none⟩) := hd 15 126 (by kernel_rfl)
      have m4 := hR.1.1.box.cell
      go_simp
      first | exact ⟨rfl, hR, ⟨id, id⟩⟩ | exact ⟨⟨rfl, rfl⟩, hR, ⟨id, id⟩⟩ | exact ⟨⟨rfl, fun h => absurd h (by decide)⟩, hR, ⟨id, id⟩⟩ | exact ⟨⟨rfl, rfl, fun h => absurd h (by decide)⟩, hR, ⟨id, id⟩⟩
    | 17, _, ho =>
      clear hsk
      cases ho
      have e6 : ev (.tmp 6) = I (k : Int) := hs 6 (by kernel_rfl)
      go_simp
      first | exact ⟨rfl, hR, ⟨id, id⟩⟩ | exact ⟨⟨rfl, rfl⟩, hR, ⟨id, id⟩⟩ | exact ⟨⟨rfl, fun h => absurd h (by decide)⟩, hR, ⟨id, id⟩⟩ | exact ⟨⟨rfl, rfl, fun h => absurd h (by decide)⟩, hR, ⟨id, id⟩⟩
    | 18, _, ho =>
      clear hsk
      cases ho
      have e127 : ev (.tmp 127) = .slice (some ⟨bw, ow, none⟩) ws.length c := hd 16 127 (by kernel_rfl)
      have e128 : ev (.tmp 128) = I (k : Int) := hd 17 128 (by kernel_rfl)
      have hkl : (k : Int) < (ws.length : Int) := by omega
      go_simp
      first | exact ⟨rfl, hR, ⟨id, id⟩⟩ | exact ⟨⟨rfl, rfl⟩, hR, ⟨id, id⟩⟩ | exact ⟨⟨rfl, fun h => absurd h (by decide)⟩, hR, ⟨id, id⟩⟩ | exact ⟨⟨rfl, rfl, fun h => absurd h (by decide)⟩, hR, ⟨id, id⟩⟩
    | 19, _, ho =>
      clear hsk
      cases ho
      have e129 : ev (.tmp 129) = .pointer (some ⟨bw, ow + k * 4, none⟩) := hd 18 129 (by kernel_rfl)
      go_simp
      first | exact ⟨rfl, hR, ⟨id, id⟩⟩ | exact ⟨⟨rfl, rfl⟩, hR, ⟨id, id⟩⟩ | exact ⟨⟨rfl, fun h => absurd h (by decide)⟩, hR, ⟨id, id⟩⟩ | exact ⟨⟨rfl, rfl, fun h => absurd h (by decide)⟩, hR, ⟨id, id⟩⟩
    | 20, _, ho =>
      clear hsk
      cases ho
      have e130 : ev (.tmp 130) = .pointer (some ⟨bw, ow + k * 4 + 2, none⟩) := hd 19 130 (by kernel_rfl)
      go_simp
      first | exact ⟨rfl, hR, ⟨id, id⟩⟩ | exact ⟨⟨rfl, rfl⟩, hR, ⟨id, id⟩⟩ | exact ⟨⟨rfl, fun h => absurd h (by decide)⟩, hR, ⟨id, id⟩⟩ | exact ⟨⟨rfl, rfl, fun h => absurd h (by decide)⟩, hR, ⟨id, id⟩⟩
    | 21, _, ho =>
      clear hsk
      cases ho
      have e131 : ev (.tmp 131) = .pointer (some ⟨bw, ow + k * 4 + 3, none⟩) := hd 20 131 (by kernel_rfl)
      have m6 := (SlW.cellG hR.1.1.wings hi).2.2
      go_simp
      first | exact ⟨rfl, hR, ⟨id, id⟩⟩ | exact ⟨⟨rfl, rfl⟩, hR, ⟨id, id⟩⟩ | exact ⟨⟨rfl, fun h => absurd h (by decide)⟩, hR, ⟨id, id⟩⟩ | exact ⟨⟨rfl, rfl, fun h => absurd h (by decide)⟩, hR, ⟨id, id⟩⟩
    | 22, _, ho =>
      clear hsk
      cases ho
      have e113 : ev (.tmp 113) = .slice (some ⟨g3, 0, none⟩) ws.length d3 := hd 2 113 (by kernel_rfl)
      have e114 : ev (.tmp 114) = I (k : Int) := hd 3 114 (by kernel_rfl)
      have hkl : (k : Int) < (ws.length : Int) := by omega
      go_simp
      first | exact ⟨rfl, hR, ⟨id, id⟩⟩ | exact ⟨⟨rfl, rfl⟩, hR, ⟨id, id⟩⟩ | exact ⟨⟨rfl, fun h => absurd h (by decide)⟩, hR, ⟨id, id⟩⟩ | exact ⟨⟨rfl, rfl, fun h => absurd h (by decide)⟩, hR, ⟨id, id⟩⟩
    | 23, _, ho =>
      clear hsk
      cases ho
      have e133 : ev (.tmp 133) = .pointer (some ⟨g3, k, none⟩) := hd 22 133 (by kernel_rfl)
      have e125 : ev (.tmp 125) = I (gW ws k).lo := hd 14 125 (by kernel_rfl)
      obtain ⟨x0, hx0⟩ := hR.2.2.1
      have hkk : k < (his ws).length := by rw [his_length]; exact hi
      have hcx := (hx0.cell (k := k) (by simpa using hkk)).1
      have hfx := (hx0.cell (k := k) (by simpa using hkk)).2
      have hput := hx0.put (y := (gW ws k).lo) hkk
      have HKK := Lib.hid hkk
      clear hkk
      go_simp
      first | exact ⟨⟨rfl, fun t ht => hput⟩, ⟨hR.1.put hx0 n3 hBo hw0n hqn _, hR.2.1.put hx0 y30 y31 y32 _, ⟨_, hput⟩, hR.2.2.2.imp fun _ h => h.far (fun e => y34 e.symm) _⟩, ⟨fun _ => hput, fun h => h.far (fun e => y34 e.symm) _⟩⟩ | exact ⟨fun t ht => hput, ⟨hR.1.put hx0 n3 hBo hw0n hqn _, hR.2.1.put hx0 y30 y31 y32 _, ⟨_, hput⟩, hR.2.2.2.imp fun _ h => h.far (fun e => y34 e.symm) _⟩, ⟨fun _ => hput, fun h => h.far (fun e => y34 e.symm) _⟩⟩ | exact ⟨hput, ⟨hR.1.put hx0 n3 hBo hw0n hqn _, hR.2.1.put hx0 y30 y31 y32 _, ⟨_, hput⟩, hR.2.2.2.imp fun _ h => h.far (fun e => y34 e.symm) _⟩, ⟨fun _ => hput, fun h => h.far (fun e => y34 e.symm) _⟩⟩
    | 24, _, ho =>
      clear hsk
      cases ho
      have e117 : ev (.tmp 117) = .slice (some ⟨g4, 0, none⟩) ws.length d4 := hd 6 117 (by kernel_rfl)
      have e118 : ev (.tmp 118) = I (k : Int) := hd 7 118 (by kernel_rfl)
      have hkl : (k : Int) < (ws.length : Int) := by omega
      go_simp
      first | exact ⟨rfl, hR, ⟨id, id⟩⟩ | exact ⟨⟨rfl, rfl⟩, hR, ⟨id, id⟩⟩ | exact ⟨⟨rfl, fun h => absurd h (by decide)⟩, hR, ⟨id, id⟩⟩ | exact ⟨⟨rfl, rfl, fun h => absurd h (by decide)⟩, hR, ⟨id, id⟩⟩
    | 25, _, ho =>
      clear hsk
      cases ho
      have e134 : ev (.tmp 134) = .pointer (some ⟨g4, k, none⟩) := hd 24 134 (by kernel_rfl)
      have e132 : ev (.tmp 132) = I (gW ws k).hi := hd 21 132 (by kernel_rfl)
      obtain ⟨x0, hx0⟩ := hR.2.2.2
      have hkk : k < (los ws).length := by rw [los_length]; exact hi
      have hcx := (hx0.cell (k := k) (by simpa using hkk)).1
      have hfx := (hx0.cell (k := k) (by simpa using hkk)).2
      have hput := hx0.put (y := (gW ws k).hi) hkk
      have HKK := Lib.hid hkk
      clear hkk
      go_simp
      first | exact ⟨⟨rfl, fun t ht => hput⟩, ⟨hR.1.put hx0 n4 hBo hw0n hqn _, hR.2.1.put hx0 y40 y41 y42 _, hR.2.2.1.imp fun _ h => h.far y34 _, ⟨_, hput⟩⟩, ⟨fun h => h.far y34 _, fun _ => hput⟩⟩ | exact ⟨fun t ht => hput, ⟨hR.1.put hx0 n4 hBo hw0n hqn _, hR.2.1.put hx0 y40 y41 y42 _, hR.2.2.1.imp fun _ h => h.far y34 _, ⟨_, hput⟩⟩, ⟨fun h => h.far y34 _, fun _ => hput⟩⟩ | exact ⟨hput, ⟨hR.1.put hx0 n4 hBo hw0n hqn _, hR.2.1.put hx0 y40 y41 y42 _, hR.2.2.1.imp fun _ h => h.far y34 _, ⟨_, hput⟩⟩, ⟨fun h => h.far y34 _, fun _ => hput⟩⟩
    | n + 26, hi, _ => exact absurd hi (by simp)
  intro ρ w13 hR hρ hne K hK
  have f3 : RowAt w13 g3 d3 ((his ws).set k (gW ws k).lo) := hρ 23 (by simp)
  have f4 : RowAt w13 g4 d4 ((los ws).set k (gW ws k).hi) := hρ 25 (by simp)
  show K (putAll _ _ ρ 26) _
  simp only [putAll, dOf, List.getElem?_toArray, List.getElem?_cons_zero, List.getElem?_cons_succ, Option.bind_some, Act.put, List.setIfInBounds_toArray, List.set_cons_zero, List.set_cons_succ]
  refine hK _ _ ?_
  change wpList _ _ _ [] _ _
  have T13 : TrL d w2.heap.size r (some ⟨bw, ow, none⟩) c ws (some ⟨b, o, none⟩) sts (q16 + 1) q9 q11 q14 q16 #[I xa, I xb] #[I ya, I yb] #[I za, I zb] #[I ga, I gb] b18 g0 d0 g1 d1 g2 d2 g3 d3 g4 d4 (los ws) (his ws) pp ((his ws).set k (gW ws k).lo) ((los ws).set k (gW ws k).hi) w w13 := ⟨hR.1, hR.2.1, f3, f4⟩
  clear hK K hρ hne T12 R12 hR a3 a4 f3 f4
  have HSO := Lib.hid (show ∀ j m, j ≤ m → m < ws.length → gI sts j ≤ gI sts m from fun j m h1 h2 => V.val.sorted h1 h2)
  clear hBo hw0n hqn y30 y31 y32 y40 y41 y42 y34 n0 n1 n2 n3 n4
  go_wp2_with fail
  go_loopw [19] (fun i wr => ∃ n : Nat, i = .int .i64 n ∧ n ≤ 5 ∧ TrL d w2.heap.size r (some ⟨bw, ow, none⟩) c ws (some ⟨b, o, none⟩) sts (q16 + 1) q9 q11 q14 q16 #[I xa, I xb] #[I ya, I yb] #[I za, I zb] #[I ga, I gb] b18 g0 d0 g1 d1 g2 d2 g3 d3 g4 d4 (los ws) (his ws) pp ((his ws).set k (gW ws k).lo) ((los ws).set k (gW ws k).hi) w wr) (fun i _ => 5 - (intOf i).toNat)
  case atStart => exact ⟨0, rfl, by omega, T13⟩
  case round =>
   as_aux_lemma =>
    obtain ⟨i, rfl, hi5, hT⟩ := hrel
    clear T13
    by_cases hlt : i < 5
    · have hkl := HKL.out
      obtain ⟨g, cg, ps, hrc, hrow, his_⟩ := hT.row hlt
      have M := true_row (p := pl) V hi hy1 hkl hpp his_
      obtain ⟨hip, hm1, hm2, hm3, hm4, hm5, hm6⟩ := M
      have HPL := Lib.hid hip.1
      have HSM := Lib.hid (hip.sm V)
      obtain ⟨_, hlk1, hlk2, _⟩ := V.made.at_ (show kl < ws.length by omega)
      have hl12 := V.pbd (k := kl) (by omega) (t := r + (gW ws kl).len) (by omega) (by omega)
      have hst0 := V.start (show 0 < ws.length by omega)
      have HPB := Lib.hid (show 0 ≤ passed ws sts ps kl (r + (gW ws kl).len) ∧ passed ws sts ps kl (r + (gW ws kl).len) ≤ 9300 from by have := hm3; have := V.start (show kl < ws.length by omega); omega)
      have HFM := Lib.hid (show ∀ km, km + 1 = k → gI sts km ≤ (L : Int) → -1 ≤ rv ws sts ps (L : Int) km ∧ rv ws sts ps (L : Int) km ≤ 2000000000000 ∧ 0 ≤ (gW ws km).len ∧ (gW ws km).len ≤ 1000000 from fun km e ht => by
        have hb := V.fbd (k := km) (by omega) ht (by omega)
        have hf := hip.front V (k := km) (by omega) ht
        obtain ⟨_, a1, a2, _⟩ := V.made.at_ (show km < ws.length by omega)
        unfold rv
        rw [if_pos ht]
        omega)
      have HFA := Lib.hid (show -1 ≤ rv ws sts ps (L : Int) k ∧ rv ws sts ps (L : Int) k ≤ 2000000000000 from by
        have hb := V.fbd (k := k) hi hy1 (by omega)
        omega)
      have HM := Lib.hid (show _ ∧ _ ∧ _ ∧ _ ∧ _ ∧ _ from ⟨hm1, hm2, hm3, hm4, hm5, hm6⟩)
      clear hip hm1 hm2 hm3 hm4 hm5 hm6 hl12 hkl his_
      go_wp2_with fail
      refine wp_region_list_s (by kernel_rfl) (R := RB wr.heap.size wr) (F := FB) [] [] []
          [As.is _ _ (.agg #[I r, .slice (some ⟨bw, ow, none⟩) ws.length c]),
          As.is _ _ (.slice (some ⟨b, o, none⟩) sts.length cb),
          As.is _ _ (.slice (some ⟨b18, 0, none⟩) 5 5),
          As.is _ _ (I (i : Int)),
          As.is _ _ (.pointer (some ⟨b18, i, none⟩)),
          As.is _ _ (.slice (some ⟨g, 0, none⟩) ws.length cg),
          As.is _ _ (I (L : Int)),
          asWalkT _ ws sts ps L 0,
          asWalkT _ ws sts ps L 0] 295 (by kernel_rfl) rfl ((Below.refl _ _).drew) (by simp) (by simp) ?_ (fun _ => Below.refl _ _) ?_ ?_ ?_
      · intro i' hi' o' ho k' b' hg u w' hR hu
        match i', hi', ho with
        | 0, _, ho => cases ho; cases hg
        | 1, _, ho => cases ho; cases hg
        | 2, _, ho => cases ho; cases hg
        | 3, _, ho => cases ho; cases hg
        | 4, _, ho => cases ho; cases hg
        | 5, _, ho => cases ho; cases hg
        | 6, _, ho => cases ho; cases hg
        | 7, _, ho => cases ho; cases hg
        | 8, _, ho => cases ho; cases hg
        | n + 9, hi, _ => exact absurd hi (by simp)
      · intro i' hi' hsk; cases hsk
      · intro i' hi' hsk o' ho ev w' hR hc hf hg hs hd
        match i', hi', ho with
        | 0, _, ho =>
          clear hsk
          cases ho
          have e4 : ev (.tmp 4) = .pointer (some ⟨w2.heap.size, 0, none⟩) := hs 4 (by kernel_rfl)
          have m4 := (hT.grow hR).1.1.box.cell
          go_simp
          first | exact ⟨rfl, hR, Below.refl _ _⟩ | exact ⟨⟨rfl, rfl⟩, hR, Below.refl _ _⟩ | exact ⟨⟨rfl, fun h => absurd h (by decide)⟩, hR, Below.refl _ _⟩ | exact ⟨⟨rfl, rfl, fun h => absurd h (by decide)⟩, hR, Below.refl _ _⟩
        | 1, _, ho =>
          clear hsk
          cases ho
          have e5 : ev (.tmp 5) = .slice (some ⟨b, o, none⟩) sts.length cb := hs 5 (by kernel_rfl)
          go_simp
          first | exact ⟨rfl, hR, Below.refl _ _⟩ | exact ⟨⟨rfl, rfl⟩, hR, Below.refl _ _⟩ | exact ⟨⟨rfl, fun h => absurd h (by decide)⟩, hR, Below.refl _ _⟩ | exact ⟨⟨rfl, rfl, fun h => absurd h (by decide)⟩, hR, Below.refl _ _⟩
        | 2, _, ho =>
          clear hsk
          cases ho
          have e18 : ev (.tmp 18) = .slice (some ⟨b18, 0, none⟩) 5 5 := hs 18 (by kernel_rfl)
          go_simp
          first | exact ⟨rfl, hR, Below.refl _ _⟩ | exact ⟨⟨rfl, rfl⟩, hR, Below.refl _ _⟩ | exact ⟨⟨rfl, fun h => absurd h (by decide)⟩, hR, Below.refl _ _⟩ | exact ⟨⟨rfl, rfl, fun h => absurd h (by decide)⟩, hR, Below.refl _ _⟩
        | 3, _, ho =>
          clear hsk
          cases ho
          have e19 : ev (.tmp 19) = I (i : Int) := hs 19 (by kernel_rfl)
          go_simp
          first | exact ⟨rfl, hR, Below.refl _ _⟩ | exact ⟨⟨rfl, rfl⟩, hR, Below.refl _ _⟩ | exact ⟨⟨rfl, fun h => absurd h (by decide)⟩, hR, Below.refl _ _⟩ | exact ⟨⟨rfl, rfl, fun h => absurd h (by decide)⟩, hR, Below.refl _ _⟩
        | 4, _, ho =>
          clear hsk
          cases ho
          have e143 : ev (.tmp 143) = .slice (some ⟨b18, 0, none⟩) 5 5 := hd 2 143 (by kernel_rfl)
          have e144 : ev (.tmp 144) = I (i : Int) := hd 3 144 (by kernel_rfl)
          have hil : (i : Int) < 5 := by omega
          go_simp
          first | exact ⟨rfl, hR, Below.refl _ _⟩ | exact ⟨⟨rfl, rfl⟩, hR, Below.refl _ _⟩ | exact ⟨⟨rfl, fun h => absurd h (by decide)⟩, hR, Below.refl _ _⟩ | exact ⟨⟨rfl, rfl, fun h => absurd h (by decide)⟩, hR, Below.refl _ _⟩
        | 5, _, ho =>
          clear hsk
          cases ho
          have e145 : ev (.tmp 145) = .pointer (some ⟨b18, i, none⟩) := hd 4 145 (by kernel_rfl)
          have m1 := cell_grow hrc hR
          go_simp
          first | exact ⟨rfl, hR, Below.refl _ _⟩ | exact ⟨⟨rfl, rfl⟩, hR, Below.refl _ _⟩ | exact ⟨⟨rfl, fun h => absurd h (by decide)⟩, hR, Below.refl _ _⟩ | exact ⟨⟨rfl, rfl, fun h => absurd h (by decide)⟩, hR, Below.refl _ _⟩
        | 6, _, ho =>
          clear hsk
          cases ho
          have e7 : ev (.tmp 7) = I (L : Int) := hs 7 (by kernel_rfl)
          go_simp
          first | exact ⟨rfl, hR, Below.refl _ _⟩ | exact ⟨⟨rfl, rfl⟩, hR, Below.refl _ _⟩ | exact ⟨⟨rfl, fun h => absurd h (by decide)⟩, hR, Below.refl _ _⟩ | exact ⟨⟨rfl, rfl, fun h => absurd h (by decide)⟩, hR, Below.refl _ _⟩
        | 7, _, ho =>
          clear hsk
          cases ho
          have e141 : ev (.tmp 141) = .agg #[I r, .slice (some ⟨bw, ow, none⟩) ws.length c] := hd 0 141 (by kernel_rfl)
          have e142 : ev (.tmp 142) = .slice (some ⟨b, o, none⟩) sts.length cb := hd 1 142 (by kernel_rfl)
          have e146 : ev (.tmp 146) = .slice (some ⟨g, 0, none⟩) ws.length cg := hd 5 146 (by kernel_rfl)
          have e147 : ev (.tmp 147) = I (L : Int) := hd 6 147 (by kernel_rfl)
          go_simp
          have hwk0 := walk_c r (some ⟨bw, ow, none⟩) (some ⟨b, o, none⟩) (some ⟨g, 0, none⟩) c cb cg ws sts ps _ _ _ L w' (hT.grow hR).1.1.wings (hT.grow hR).1.2.1 (hrow.below hR).sl (by omega) (by omega) V.len HPL.out HSM.out HSO.out (by omega)
          rw [HPL.out] at hwk0
          refine hwk0.mono ?_
          rintro e wz ⟨xs, V', rfl, ho, hxl, hrw, hwz⟩
          first | exact ⟨⟨xs, own_baseT ho (Nat.zero_le _), hxl, hrw⟩, hR.trans (hwz.mono hR.size), hwz⟩ | exact ⟨⟨rfl, ⟨xs, own_baseT ho (Nat.zero_le _), hxl, hrw⟩⟩, hR.trans (hwz.mono hR.size), hwz⟩ | exact ⟨⟨⟨xs, own_baseT ho (Nat.zero_le _), hxl, hrw⟩, fun h => absurd h (by decide)⟩, hR.trans (hwz.mono hR.size), hwz⟩ | exact ⟨⟨rfl, ⟨xs, own_baseT ho (Nat.zero_le _), hxl, hrw⟩, fun h => absurd h (by decide)⟩, hR.trans (hwz.mono hR.size), hwz⟩
        | 8, _, ho =>
          clear hsk
          cases ho
          obtain ⟨V20, e148, hwk⟩ : ∃ V, ev (.tmp 148) = V ∧ WkT ws sts ps L 0 V w' := ⟨_, rfl, hd 7 148 (by kernel_rfl)⟩
          go_simp
          first | exact ⟨hwk, hR, Below.refl _ _⟩ | exact ⟨⟨rfl, hwk⟩, hR, Below.refl _ _⟩ | exact ⟨⟨hwk, fun h => absurd h (by decide)⟩, hR, Below.refl _ _⟩ | exact ⟨⟨rfl, hwk, fun h => absurd h (by decide)⟩, hR, Below.refl _ _⟩
        | n + 9, hi, _ => exact absurd hi (by simp)
      intro ρ w17 hR hρ hne K hK
      have p20 : WkT ws sts ps L 0 (ρ 8) w17 := hρ 8 (by simp)
      obtain ⟨gt, ct, bt, ot, ct', eV, ht1, ht2⟩ := p20.row (Nat.le_refl L) (by omega)
      show K (putAll _ _ ρ 9) _
      simp only [putAll, dOf, List.getElem?_toArray, List.getElem?_cons_zero, List.getElem?_cons_succ, Option.bind_some, Act.put, List.setIfInBounds_toArray, List.set_cons_zero, List.set_cons_succ]
      rw [eV]
      refine hK _ _ ?_
      change wpList _ _ _ [] _ _
      have T17 := hT.grow hR
      have hrow17 := hrow.below hR
      have hrc17 := cell_grow hrc hR
      clear hK K eV hρ hne p20 hR
      go_wp2_with fail
      refine wp_region_list_s (by kernel_rfl) (R := RB w17.heap.size w17) (F := FB) [] [] []
          [As.is _ _ (.slice (some ⟨gt, 0, none⟩) (L + 1) ct),
          As.is _ _ (I (L : Int)),
          As.is _ _ (.pointer (some ⟨gt, L, none⟩)),
          As.is _ _ (.slice (some ⟨bt, ot, none⟩) ws.length ct'),
          As.is _ _ (I (k : Int)),
          As.is _ _ (.pointer (some ⟨bt, ot + k, none⟩)),
          As.is _ _ (I (rv ws sts ps (L : Int) k)),
          As.is _ _ (.agg #[I r, .slice (some ⟨bw, ow, none⟩) ws.length c]),
          As.is _ _ (.slice (some ⟨b, o, none⟩) sts.length cb),
          As.is _ _ (.slice (some ⟨b18, 0, none⟩) 5 5),
          As.is _ _ (I (i : Int)),
          As.is _ _ (.pointer (some ⟨b18, i, none⟩)),
          As.is _ _ (.slice (some ⟨g, 0, none⟩) ws.length cg),
          As.is _ _ (I (k : Int)),
          As.is _ _ (I pl),
          As.is _ _ (I (passed ws sts ps k pl)),
          As.is _ _ (I (rv ws sts ps (L : Int) k)),
          As.is _ _ (I (passed ws sts ps k pl))] 295 (by kernel_rfl) rfl ((Below.refl _ _).drew) (by simp) (by simp) ?_ (fun _ => Below.refl _ _) ?_ ?_ ?_
      · intro i' hi' o' ho k' b' hg u w' hR hu
        match i', hi', ho with
        | 0, _, ho => cases ho; cases hg
        | 1, _, ho => cases ho; cases hg
        | 2, _, ho => cases ho; cases hg
        | 3, _, ho => cases ho; cases hg
        | 4, _, ho => cases ho; cases hg
        | 5, _, ho => cases ho; cases hg
        | 6, _, ho => cases ho; cases hg
        | 7, _, ho => cases ho; cases hg
        | 8, _, ho => cases ho; cases hg
        | 9, _, ho => cases ho; cases hg
        | 10, _, ho => cases ho; cases hg
        | 11, _, ho => cases ho; cases hg
        | 12, _, ho => cases ho; cases hg
        | 13, _, ho => cases ho; cases hg
        | 14, _, ho => cases ho; cases hg
        | 15, _, ho => cases ho; cases hg
        | 16, _, ho => cases ho; cases hg
        | 17, _, ho => cases ho; cases hg
        | n + 18, hi, _ => exact absurd hi (by simp)
      · intro i' hi' hsk; cases hsk
      · intro i' hi' hsk o' ho ev w' hR hc hf hg hs hd
        match i', hi', ho with
        | 0, _, ho =>
          clear hsk
          cases ho
          have e20 : ev (.tmp 20) = .slice (some ⟨gt, 0, none⟩) (L + 1) ct := hs 20 (by kernel_rfl)
          go_simp
          first | exact ⟨rfl, hR, Below.refl _ _⟩ | exact ⟨⟨rfl, rfl⟩, hR, Below.refl _ _⟩ | exact ⟨⟨rfl, fun h => absurd h (by decide)⟩, hR, Below.refl _ _⟩ | exact ⟨⟨rfl, rfl, fun h => absurd h (by decide)⟩, hR, Below.refl _ _⟩
        | 1, _, ho =>
          clear hsk
          cases ho
          have e7 : ev (.tmp 7) = I (L : Int) := hs 7 (by kernel_rfl)
          go_simp
          first | exact ⟨rfl, hR, Below.refl _ _⟩ | exact ⟨⟨rfl, rfl⟩, hR, Below.refl _ _⟩ | exact ⟨⟨rfl, fun h => absurd h (by decide)⟩, hR, Below.refl _ _⟩ | exact ⟨⟨rfl, rfl, fun h => absurd h (by decide)⟩, hR, Below.refl _ _⟩
        | 2, _, ho =>
          clear hsk
          cases ho
          have e149 : ev (.tmp 149) = .slice (some ⟨gt, 0, none⟩) (L + 1) ct := hd 0 149 (by kernel_rfl)
          have e150 : ev (.tmp 150) = I (L : Int) := hd 1 150 (by kernel_rfl)
          have hnl : (L : Int) < ((L + 1 : Nat) : Int) := by omega
          have hnl' : (L : Int) < (L : Int) + 1 := by omega
          go_simp
          first | exact ⟨rfl, hR, Below.refl _ _⟩ | exact ⟨⟨rfl, rfl⟩, hR, Below.refl _ _⟩ | exact ⟨⟨rfl, fun h => absurd h (by decide)⟩, hR, Below.refl _ _⟩ | exact ⟨⟨rfl, rfl, fun h => absurd h (by decide)⟩, hR, Below.refl _ _⟩
        | 3, _, ho =>
          clear hsk
          cases ho
          have e151 : ev (.tmp 151) = .pointer (some ⟨gt, L, none⟩) := hd 2 151 (by kernel_rfl)
          have m1 := cell_grow ht1 hR
          go_simp
          first | exact ⟨rfl, hR, Below.refl _ _⟩ | exact ⟨⟨rfl, rfl⟩, hR, Below.refl _ _⟩ | exact ⟨⟨rfl, fun h => absurd h (by decide)⟩, hR, Below.refl _ _⟩ | exact ⟨⟨rfl, rfl, fun h => absurd h (by decide)⟩, hR, Below.refl _ _⟩
        | 4, _, ho =>
          clear hsk
          cases ho
          have e6 : ev (.tmp 6) = I (k : Int) := hs 6 (by kernel_rfl)
          go_simp
          first | exact ⟨rfl, hR, Below.refl _ _⟩ | exact ⟨⟨rfl, rfl⟩, hR, Below.refl _ _⟩ | exact ⟨⟨rfl, fun h => absurd h (by decide)⟩, hR, Below.refl _ _⟩ | exact ⟨⟨rfl, rfl, fun h => absurd h (by decide)⟩, hR, Below.refl _ _⟩
        | 5, _, ho =>
          clear hsk
          cases ho
          have e152 : ev (.tmp 152) = .slice (some ⟨bt, ot, none⟩) ws.length ct' := hd 3 152 (by kernel_rfl)
          have e153 : ev (.tmp 153) = I (k : Int) := hd 4 153 (by kernel_rfl)
          have hkl : (k : Int) < (ws.length : Int) := by omega
          go_simp
          first | exact ⟨rfl, hR, Below.refl _ _⟩ | exact ⟨⟨rfl, rfl⟩, hR, Below.refl _ _⟩ | exact ⟨⟨rfl, fun h => absurd h (by decide)⟩, hR, Below.refl _ _⟩ | exact ⟨⟨rfl, rfl, fun h => absurd h (by decide)⟩, hR, Below.refl _ _⟩
        | 6, _, ho =>
          clear hsk
          cases ho
          have e154 : ev (.tmp 154) = .pointer (some ⟨bt, ot + k, none⟩) := hd 5 154 (by kernel_rfl)
          have m1 := cell_grow (ht2 k hi) hR
          go_simp
          first | exact ⟨rfl, hR, Below.refl _ _⟩ | exact ⟨⟨rfl, rfl⟩, hR, Below.refl _ _⟩ | exact ⟨⟨rfl, fun h => absurd h (by decide)⟩, hR, Below.refl _ _⟩ | exact ⟨⟨rfl, rfl, fun h => absurd h (by decide)⟩, hR, Below.refl _ _⟩
        | 7, _, ho =>
          clear hsk
          cases ho
          have e4 : ev (.tmp 4) = .pointer (some ⟨w2.heap.size, 0, none⟩) := hs 4 (by kernel_rfl)
          have m4 := (T17.grow hR).1.1.box.cell
          go_simp
          first | exact ⟨rfl, hR, Below.refl _ _⟩ | exact ⟨⟨rfl, rfl⟩, hR, Below.refl _ _⟩ | exact ⟨⟨rfl, fun h => absurd h (by decide)⟩, hR, Below.refl _ _⟩ | exact ⟨⟨rfl, rfl, fun h => absurd h (by decide)⟩, hR, Below.refl _ _⟩
        | 8, _, ho =>
          clear hsk
          cases ho
          have e5 : ev (.tmp 5) = .slice (some ⟨b, o, none⟩) sts.length cb := hs 5 (by kernel_rfl)
          go_simp
          first | exact ⟨rfl, hR, Below.refl _ _⟩ | exact ⟨⟨rfl, rfl⟩, hR, Below.refl _ _⟩ | exact ⟨⟨rfl, fun h => absurd h (by decide)⟩, hR, Below.refl _ _⟩ | exact ⟨⟨rfl, rfl, fun h => absurd h (by decide)⟩, hR, Below.refl _ _⟩
        | 9, _, ho =>
          clear hsk
          cases ho
          have e18 : ev (.tmp 18) = .slice (some ⟨b18, 0, none⟩) 5 5 := hs 18 (by kernel_rfl)
          go_simp
          first | exact ⟨rfl, hR, Below.refl _ _⟩ | exact ⟨⟨rfl, rfl⟩, hR, Below.refl _ _⟩ | exact ⟨⟨rfl, fun h => absurd h (by decide)⟩, hR, Below.refl _ _⟩ | exact ⟨⟨rfl, rfl, fun h => absurd h (by decide)⟩, hR, Below.refl _ _⟩
        | 10, _, ho =>
          clear hsk
          cases ho
          have e19 : ev (.tmp 19) = I (i : Int) := hs 19 (by kernel_rfl)
          go_simp
          first | exact ⟨rfl, hR, Below.refl _ _⟩ | exact ⟨⟨rfl, rfl⟩, hR, Below.refl _ _⟩ | exact ⟨⟨rfl, fun h => absurd h (by decide)⟩, hR, Below.refl _ _⟩ | exact ⟨⟨rfl, rfl, fun h => absurd h (by decide)⟩, hR, Below.refl _ _⟩
        | 11, _, ho =>
          clear hsk
          cases ho
          have e158 : ev (.tmp 158) = .slice (some ⟨b18, 0, none⟩) 5 5 := hd 9 158 (by kernel_rfl)
          have e159 : ev (.tmp 159) = I (i : Int) := hd 10 159 (by kernel_rfl)
          have hil : (i : Int) < 5 := by omega
          go_simp
          first | exact ⟨rfl, hR, Below.refl _ _⟩ | exact ⟨⟨rfl, rfl⟩, hR, Below.refl _ _⟩ | exact ⟨⟨rfl, fun h => absurd h (by decide)⟩, hR, Below.refl _ _⟩ | exact ⟨⟨rfl, rfl, fun h => absurd h (by decide)⟩, hR, Below.refl _ _⟩
        | 12, _, ho =>
          clear hsk
          cases ho
          have e160 : ev (.tmp 160) = .pointer (some ⟨b18, i, none⟩) := hd 11 160 (by kernel_rfl)
          have m1 := cell_grow hrc17 hR
          go_simp
          first | exact ⟨rfl, hR, Below.refl _ _⟩ | exact ⟨⟨rfl, rfl⟩, hR, Below.refl _ _⟩ | exact ⟨⟨rfl, fun h => absurd h (by decide)⟩, hR, Below.refl _ _⟩ | exact ⟨⟨rfl, rfl, fun h => absurd h (by decide)⟩, hR, Below.refl _ _⟩
        | 13, _, ho =>
          clear hsk
          cases ho
          have e6 : ev (.tmp 6) = I (k : Int) := hs 6 (by kernel_rfl)
          go_simp
          first | exact ⟨rfl, hR, Below.refl _ _⟩ | exact ⟨⟨rfl, rfl⟩, hR, Below.refl _ _⟩ | exact ⟨⟨rfl, fun h => absurd h (by decide)⟩, hR, Below.refl _ _⟩ | exact ⟨⟨rfl, rfl, fun h => absurd h (by decide)⟩, hR, Below.refl _ _⟩
        | 14, _, ho =>
          clear hsk
          cases ho
          have e8 : ev (.tmp 8) = I pl := hs 8 (by kernel_rfl)
          go_simp
          first | exact ⟨rfl, hR, Below.refl _ _⟩ | exact ⟨⟨rfl, rfl⟩, hR, Below.refl _ _⟩ | exact ⟨⟨rfl, fun h => absurd h (by decide)⟩, hR, Below.refl _ _⟩ | exact ⟨⟨rfl, rfl, fun h => absurd h (by decide)⟩, hR, Below.refl _ _⟩
        | 15, _, ho =>
          clear hsk
          cases ho
          have e156 : ev (.tmp 156) = .agg #[I r, .slice (some ⟨bw, ow, none⟩) ws.length c] := hd 7 156 (by kernel_rfl)
          have e157 : ev (.tmp 157) = .slice (some ⟨b, o, none⟩) sts.length cb := hd 8 157 (by kernel_rfl)
          have e161 : ev (.tmp 161) = .slice (some ⟨g, 0, none⟩) ws.length cg := hd 12 161 (by kernel_rfl)
          have e162 : ev (.tmp 162) = I (k : Int) := hd 13 162 (by kernel_rfl)
          have e163 : ev (.tmp 163) = I pl := hd 14 163 (by kernel_rfl)
          go_simp
          have hpc := passed_c r (some ⟨bw, ow, none⟩) (some ⟨b, o, none⟩) (some ⟨g, 0, none⟩) c cb cg ws sts ps k (pl) _ _ _ w' (T17.grow hR).1.1.wings (T17.grow hR).1.2.1 (hrow17.below hR).sl (HSM.out.less (by omega)) (by omega) (by omega) (by omega) (by unfold maxLen; have := V.len; omega) (by have := HPL.out; omega)
          rw [HPL.out] at hpc
          refine hpc.mono ?_
          rintro e wz ⟨rfl, hwz⟩
          first | exact ⟨rfl, hR.trans (hwz.mono hR.size), hwz⟩ | exact ⟨⟨rfl, rfl⟩, hR.trans (hwz.mono hR.size), hwz⟩ | exact ⟨⟨rfl, fun h => absurd h (by decide)⟩, hR.trans (hwz.mono hR.size), hwz⟩ | exact ⟨⟨rfl, rfl, fun h => absurd h (by decide)⟩, hR.trans (hwz.mono hR.size), hwz⟩
        | 16, _, ho =>
          clear hsk
          cases ho
          have e155 : ev (.tmp 155) = I (rv ws sts ps (L : Int) k) := hd 6 155 (by kernel_rfl)
          go_simp
          first | exact ⟨rfl, hR, Below.refl _ _⟩ | exact ⟨⟨rfl, rfl⟩, hR, Below.refl _ _⟩ | exact ⟨⟨rfl, fun h => absurd h (by decide)⟩, hR, Below.refl _ _⟩ | exact ⟨⟨rfl, rfl, fun h => absurd h (by decide)⟩, hR, Below.refl _ _⟩
        | 17, _, ho =>
          clear hsk
          cases ho
          have e164 : ev (.tmp 164) = I (passed ws sts ps k pl) := hd 15 164 (by kernel_rfl)
          go_simp
          first | exact ⟨rfl, hR, Below.refl _ _⟩ | exact ⟨⟨rfl, rfl⟩, hR, Below.refl _ _⟩ | exact ⟨⟨rfl, fun h => absurd h (by decide)⟩, hR, Below.refl _ _⟩ | exact ⟨⟨rfl, rfl, fun h => absurd h (by decide)⟩, hR, Below.refl _ _⟩
        | n + 18, hi, _ => exact absurd hi (by simp)
      intro ρ w18 hR hρ hne K hK
      have p21 : ρ 16 = I (rv ws sts ps (L : Int) k) := hρ 16 (by simp)
      have p22 : ρ 17 = I (passed ws sts ps k pl) := hρ 17 (by simp)
      show K (putAll _ _ ρ 18) _
      simp only [putAll, dOf, List.getElem?_toArray, List.getElem?_cons_zero, List.getElem?_cons_succ, Option.bind_some, Act.put, List.setIfInBounds_toArray, List.set_cons_zero, List.set_cons_succ]
      rw [p21, p22]
      refine hK _ _ ?_
      change wpList _ _ _ [] _ _
      have T18 := T17.grow hR
      have hrow18 := hrow17.below hR
      have hrc18 := cell_grow hrc17 hR
      have ht1' := cell_grow ht1 hR
      have ht2' := fun j hj => cell_grow (ht2 j hj) hR
      clear hK K p21 p22 hρ hne hR T17 hrow17 hrc17 ht1 ht2
      have hkm : (ws.length : Int) - 1 = (kl : Int) := by have := HKL.out; omega
      have hc18 := T18.1.1.box.cell
      go_wp2_with fail
      clear hc18
      refine wp_region_list_s (by kernel_rfl) (R := RB w18.heap.size w18) (F := FB) [] [] []
          [As.is _ _ (.agg #[I r, .slice (some ⟨bw, ow, none⟩) ws.length c]),
          As.is _ _ (.slice (some ⟨b, o, none⟩) sts.length cb),
          As.is _ _ (.slice (some ⟨b18, 0, none⟩) 5 5),
          As.is _ _ (I (i : Int)),
          As.is _ _ (.pointer (some ⟨b18, i, none⟩)),
          As.is _ _ (.slice (some ⟨g, 0, none⟩) ws.length cg),
          As.is _ _ (I (kl : Int)),
          As.is _ _ (.pointer (some ⟨w2.heap.size, 0, none⟩)),
          As.is _ _ (I r),
          As.is _ _ (.pointer (some ⟨w2.heap.size, 1, none⟩)),
          As.is _ _ (.slice (some ⟨bw, ow, none⟩) ws.length c),
          As.is _ _ (I (kl : Int)),
          As.is _ _ (.pointer (some ⟨bw, ow + kl * 4, none⟩)),
          As.is _ _ (.pointer (some ⟨bw, ow + kl * 4 + 1, none⟩)),
          As.is _ _ (I (gW ws kl).len),
          As.is _ _ (I (r + (gW ws kl).len)),
          As.is _ _ (I (passed ws sts ps kl (r + (gW ws kl).len))),
          As.is _ _ (.slice (some ⟨b, o, none⟩) sts.length cb),
          As.is _ _ (.pointer (some ⟨b, o, none⟩)),
          As.is _ _ (I (gI sts 0)),
          As.is _ _ (I (passed ws sts ps kl (r + (gW ws kl).len) - gI sts 0)),
          As.is _ _ (I (passed ws sts ps kl (r + (gW ws kl).len) - gI sts 0))] 295 (by kernel_rfl) rfl ((Below.refl _ _).drew) (by simp) (by simp) ?_ (fun _ => Below.refl _ _) ?_ ?_ ?_
      · intro i' hi' o' ho k' b' hg u w' hR hu
        match i', hi', ho with
        | 0, _, ho => cases ho; cases hg
        | 1, _, ho => cases ho; cases hg
        | 2, _, ho => cases ho; cases hg
        | 3, _, ho => cases ho; cases hg
        | 4, _, ho => cases ho; cases hg
        | 5, _, ho => cases ho; cases hg
        | 6, _, ho => cases ho; cases hg
        | 7, _, ho => cases ho; cases hg
        | 8, _, ho => cases ho; cases hg
        | 9, _, ho => cases ho; cases hg
        | 10, _, ho => cases ho; cases hg
        | 11, _, ho => cases ho; cases hg
        | 12, _, ho => cases ho; cases hg
        | 13, _, ho => cases ho; cases hg
        | 14, _, ho => cases ho; cases hg
        | 15, _, ho => cases ho; cases hg
        | 16, _, ho => cases ho; cases hg
        | 17, _, ho => cases ho; cases hg
        | 18, _, ho => cases ho; cases hg
        | 19, _, ho => cases ho; cases hg
        | 20, _, ho => cases ho; cases hg
        | 21, _, ho => cases ho; cases hg
        | n + 22, hi, _ => exact absurd hi (by simp)
      · intro i' hi' hsk; cases hsk
      · intro i' hi' hsk o' ho ev w' hR hc hf hg hs hd
        match i', hi', ho with
        | 0, _, ho =>
          clear hsk
          cases ho
          have e4 : ev (.tmp 4) = .pointer (some ⟨w2.heap.size, 0, none⟩) := hs 4 (by kernel_rfl)
          have m4 := (T18.grow hR).1.1.box.cell
          go_simp
          first | exact ⟨rfl, hR, Below.refl _ _⟩ | exact ⟨⟨rfl, rfl⟩, hR, Below.refl _ _⟩ | exact ⟨⟨rfl, fun h => absurd h (by decide)⟩, hR, Below.refl _ _⟩ | exact ⟨⟨rfl, rfl, fun h => absurd h (by decide)⟩, hR, Below.refl _ _⟩
        | 1, _, ho =>
          clear hsk
          cases ho
          have e5 : ev (.tmp 5) = .slice (some ⟨b, o, none⟩) sts.length cb := hs 5 (by kernel_rfl)
          go_simp
          first | exact ⟨rfl, hR, Below.refl _ _⟩ | exact ⟨⟨rfl, rfl⟩, hR, Below.refl _ _⟩ | exact ⟨⟨rfl, fun h => absurd h (by decide)⟩, hR, Below.refl _ _⟩ | exact ⟨⟨rfl, rfl, fun h => absurd h (by decide)⟩, hR, Below.refl _ _⟩
        | 2, _, ho =>
          clear hsk
          cases ho
          have e18 : ev (.tmp 18) = .slice (some ⟨b18, 0, none⟩) 5 5 := hs 18 (by kernel_rfl)
          go_simp
          first | exact ⟨rfl, hR, Below.refl _ _⟩ | exact ⟨⟨rfl, rfl⟩, hR, Below.refl _ _⟩ | exact ⟨⟨rfl, fun h => absurd h (by decide)⟩, hR, Below.refl _ _⟩ | exact ⟨⟨rfl, rfl, fun h => absurd h (by decide)⟩, hR, Below.refl _ _⟩
        | 3, _, ho =>
          clear hsk
          cases ho
          have e19 : ev (.tmp 19) = I (i : Int) := hs 19 (by kernel_rfl)
          go_simp
          first | exact ⟨rfl, hR, Below.refl _ _⟩ | exact ⟨⟨rfl, rfl⟩, hR, Below.refl _ _⟩ | exact ⟨⟨rfl, fun h => absurd h (by decide)⟩, hR, Below.refl _ _⟩ | exact ⟨⟨rfl, rfl, fun h => absurd h (by decide)⟩, hR, Below.refl _ _⟩
        | 4, _, ho =>
          clear hsk
          cases ho
          have e171 : ev (.tmp 171) = .slice (some ⟨b18, 0, none⟩) 5 5 := hd 2 171 (by kernel_rfl)
          have e172 : ev (.tmp 172) = I (i : Int) := hd 3 172 (by kernel_rfl)
          have hil : (i : Int) < 5 := by omega
          go_simp
          first | exact ⟨rfl, hR, Below.refl _ _⟩ | exact ⟨⟨rfl, rfl⟩, hR, Below.refl _ _⟩ | exact ⟨⟨rfl, fun h => absurd h (by decide)⟩, hR, Below.refl _ _⟩ | exact ⟨⟨rfl, rfl, fun h => absurd h (by decide)⟩, hR, Below.refl _ _⟩
        | 5, _, ho =>
          clear hsk
          cases ho
          have e173 : ev (.tmp 173) = .pointer (some ⟨b18, i, none⟩) := hd 4 173 (by kernel_rfl)
          have m1 := cell_grow hrc18 hR
          go_simp
          first | exact ⟨rfl, hR, Below.refl _ _⟩ | exact ⟨⟨rfl, rfl⟩, hR, Below.refl _ _⟩ | exact ⟨⟨rfl, fun h => absurd h (by decide)⟩, hR, Below.refl _ _⟩ | exact ⟨⟨rfl, rfl, fun h => absurd h (by decide)⟩, hR, Below.refl _ _⟩
        | 6, _, ho =>
          clear hsk
          cases ho
          have e23 : ev (.tmp 23) = I (kl : Int) := hs 23 (by kernel_rfl)
          go_simp
          first | exact ⟨rfl, hR, Below.refl _ _⟩ | exact ⟨⟨rfl, rfl⟩, hR, Below.refl _ _⟩ | exact ⟨⟨rfl, fun h => absurd h (by decide)⟩, hR, Below.refl _ _⟩ | exact ⟨⟨rfl, rfl, fun h => absurd h (by decide)⟩, hR, Below.refl _ _⟩
        | 7, _, ho =>
          clear hsk
          cases ho
          have e4 : ev (.tmp 4) = .pointer (some ⟨w2.heap.size, 0, none⟩) := hs 4 (by kernel_rfl)
          go_simp
          first | exact ⟨rfl, hR, Below.refl _ _⟩ | exact ⟨⟨rfl, rfl⟩, hR, Below.refl _ _⟩ | exact ⟨⟨rfl, fun h => absurd h (by decide)⟩, hR, Below.refl _ _⟩ | exact ⟨⟨rfl, rfl, fun h => absurd h (by decide)⟩, hR, Below.refl _ _⟩
        | 8, _, ho =>
          clear hsk
          cases ho
          have e176 : ev (.tmp 176) = .pointer (some ⟨w2.heap.size, 0, none⟩) := hd 7 176 (by kernel_rfl)
          have m4 := (T18.grow hR).1.1.box.cell
          go_simp
          first | exact ⟨rfl, hR, Below.refl _ _⟩ | exact ⟨⟨rfl, rfl⟩, hR, Below.refl _ _⟩ | exact ⟨⟨rfl, fun h => absurd h (by decide)⟩, hR, Below.refl _ _⟩ | exact ⟨⟨rfl, rfl, fun h => absurd h (by decide)⟩, hR, Below.refl _ _⟩
        | 9, _, ho =>
          clear hsk
          cases ho
          have e4 : ev (.tmp 4) = .pointer (some ⟨w2.heap.size, 0, none⟩) := hs 4 (by kernel_rfl)
          go_simp
          first | exact ⟨rfl, hR, Below.refl _ _⟩ | exact ⟨⟨rfl, rfl⟩, hR, Below.refl _ _⟩ | exact ⟨⟨rfl, fun h => absurd h (by decide)⟩, hR, Below.refl _ _⟩ | exact ⟨⟨rfl, rfl, fun h => absurd h (by decide)⟩, hR, Below.refl _ _⟩
        | 10, _, ho =>
          clear hsk
          cases ho
          have e178 : ev (.tmp 178) = .pointer (some ⟨w2.heap.size, 1, none⟩) := hd 9 178 (by kernel_rfl)
          have m4 := (T18.grow hR).1.1.box.cell
          go_simp
          first | exact ⟨rfl, hR, Below.refl _ _⟩ | exact ⟨⟨rfl, rfl⟩, hR, Below.refl _ _⟩ | exact ⟨⟨rfl, fun h => absurd h (by decide)⟩, hR, Below.refl _ _⟩ | exact ⟨⟨rfl, rfl, fun h => absurd h (by decide)⟩, hR, Below.refl _ _⟩
        | 11, _, ho =>
          clear hsk
          cases ho
          have e23 : ev (.tmp 23) = I (kl : Int) := hs 23 (by kernel_rfl)
          go_simp
          first | exact ⟨rfl, hR, Below.refl _ _⟩ | exact ⟨⟨rfl, rfl⟩, hR, Below.refl _ _⟩ | exact ⟨⟨rfl, fun h => absurd h (by decide)⟩, hR, Below.refl _ _⟩ | exact ⟨⟨rfl, rfl, fun h => absurd h (by decide)⟩, hR, Below.refl _ _⟩
        | 12, _, ho =>
          clear hsk
          cases ho
          have e179 : ev (.tmp 179) = .slice (some ⟨bw, ow, none⟩) ws.length c := hd 10 179 (by kernel_rfl)
          have e180 : ev (.tmp 180) = I (kl : Int) := hd 11 180 (by kernel_rfl)
          have hkl' : (kl : Int) < (ws.length : Int) := by have := HKL.out; omega
          go_simp
          first | exact ⟨rfl, hR, Below.refl _ _⟩ | exact ⟨⟨rfl, rfl⟩, hR, Below.refl _ _⟩ | exact ⟨⟨rfl, fun h => absurd h (by decide)⟩, hR, Below.refl _ _⟩ | exact ⟨⟨rfl, rfl, fun h => absurd h (by decide)⟩, hR, Below.refl _ _⟩
        | 13, _, ho =>
          clear hsk
          cases ho
          have e181 : ev (.tmp 181) = .pointer (some ⟨bw, ow + kl * 4, none⟩) := hd 12 181 (by kernel_rfl)
          go_simp
          first | exact ⟨rfl, hR, Below.refl _ _⟩ | exact ⟨⟨rfl, rfl⟩, hR, Below.refl _ _⟩ | exact ⟨⟨rfl, fun h => absurd h (by decide)⟩, hR, Below.refl _ _⟩ | exact ⟨⟨rfl, rfl, fun h => absurd h (by decide)⟩, hR, Below.refl _ _⟩
        | 14, _, ho =>
          clear hsk
          cases ho
          have e182 : ev (.tmp 182) = .pointer (some ⟨bw, ow + kl * 4 + 1, none⟩) := hd 13 182 (by kernel_rfl)
          have m6 := (SlW.cellG (T18.grow hR).1.1.wings (show kl < ws.length by have := HKL.out; omega)).2.1
          go_simp
          first | exact ⟨rfl, hR, Below.refl _ _⟩ | exact ⟨⟨rfl, rfl⟩, hR, Below.refl _ _⟩ | exact ⟨⟨rfl, fun h => absurd h (by decide)⟩, hR, Below.refl _ _⟩ | exact ⟨⟨rfl, rfl, fun h => absurd h (by decide)⟩, hR, Below.refl _ _⟩
        | 15, _, ho =>
          clear hsk
          cases ho
          have e177 : ev (.tmp 177) = I r := hd 8 177 (by kernel_rfl)
          have e183 : ev (.tmp 183) = I (gW ws kl).len := hd 14 183 (by kernel_rfl)
          have ew : IntKind.i64.wrap (r + (gW ws kl).len) = r + (gW ws kl).len := IntWalk.i64_in _ (by omega)
          go_simp
          first | exact ⟨rfl, hR, Below.refl _ _⟩ | exact ⟨⟨rfl, rfl⟩, hR, Below.refl _ _⟩ | exact ⟨⟨rfl, fun h => absurd h (by decide)⟩, hR, Below.refl _ _⟩ | exact ⟨⟨rfl, rfl, fun h => absurd h (by decide)⟩, hR, Below.refl _ _⟩
        | 16, _, ho =>
          clear hsk
          cases ho
          have e169 : ev (.tmp 169) = .agg #[I r, .slice (some ⟨bw, ow, none⟩) ws.length c] := hd 0 169 (by kernel_rfl)
          have e170 : ev (.tmp 170) = .slice (some ⟨b, o, none⟩) sts.length cb := hd 1 170 (by kernel_rfl)
          have e174 : ev (.tmp 174) = .slice (some ⟨g, 0, none⟩) ws.length cg := hd 5 174 (by kernel_rfl)
          have e175 : ev (.tmp 175) = I (kl : Int) := hd 6 175 (by kernel_rfl)
          have e184 : ev (.tmp 184) = I (r + (gW ws kl).len) := hd 15 184 (by kernel_rfl)
          go_simp
          have hpc := passed_c r (some ⟨bw, ow, none⟩) (some ⟨b, o, none⟩) (some ⟨g, 0, none⟩) c cb cg ws sts ps kl (r + (gW ws kl).len) _ _ _ w' (T18.grow hR).1.1.wings (T18.grow hR).1.2.1 (hrow18.below hR).sl (HSM.out.less (by omega)) (by omega) (by omega) (by omega) (by unfold maxLen; have := V.len; omega) (by have := HPL.out; omega)
          rw [HPL.out] at hpc
          refine hpc.mono ?_
          rintro e wz ⟨rfl, hwz⟩
          first | exact ⟨rfl, hR.trans (hwz.mono hR.size), hwz⟩ | exact ⟨⟨rfl, rfl⟩, hR.trans (hwz.mono hR.size), hwz⟩ | exact ⟨⟨rfl, fun h => absurd h (by decide)⟩, hR.trans (hwz.mono hR.size), hwz⟩ | exact ⟨⟨rfl, rfl, fun h => absurd h (by decide)⟩, hR.trans (hwz.mono hR.size), hwz⟩
        | 17, _, ho =>
          clear hsk
          cases ho
          have e5 : ev (.tmp 5) = .slice (some ⟨b, o, none⟩) sts.length cb := hs 5 (by kernel_rfl)
          go_simp
          first | exact ⟨rfl, hR, Below.refl _ _⟩ | exact ⟨⟨rfl, rfl⟩, hR, Below.refl _ _⟩ | exact ⟨⟨rfl, fun h => absurd h (by decide)⟩, hR, Below.refl _ _⟩ | exact ⟨⟨rfl, rfl, fun h => absurd h (by decide)⟩, hR, Below.refl _ _⟩
        | 18, _, ho =>
          clear hsk
          cases ho
          have e186 : ev (.tmp 186) = .slice (some ⟨b, o, none⟩) sts.length cb := hd 17 186 (by kernel_rfl)
          have hp0 : 0 < sts.length := by omega
          have hp0' : (0 : Int) < (sts.length : Int) := by omega
          go_simp
          first | exact ⟨rfl, hR, Below.refl _ _⟩ | exact ⟨⟨rfl, rfl⟩, hR, Below.refl _ _⟩ | exact ⟨⟨rfl, fun h => absurd h (by decide)⟩, hR, Below.refl _ _⟩ | exact ⟨⟨rfl, rfl, fun h => absurd h (by decide)⟩, hR, Below.refl _ _⟩
        | 19, _, ho =>
          clear hsk
          cases ho
          have e187 : ev (.tmp 187) = .pointer (some ⟨b, o, none⟩) := hd 18 187 (by kernel_rfl)
          have m6 := SlI.cellG (T18.grow hR).1.2.1 (show 0 < sts.length by omega)
          simp only [Nat.add_zero] at m6
          go_simp
          first | exact ⟨rfl, hR, Below.refl _ _⟩ | exact ⟨⟨rfl, rfl⟩, hR, Below.refl _ _⟩ | exact ⟨⟨rfl, fun h => absurd h (by decide)⟩, hR, Below.refl _ _⟩ | exact ⟨⟨rfl, rfl, fun h => absurd h (by decide)⟩, hR, Below.refl _ _⟩
        | 20, _, ho =>
          clear hsk
          cases ho
          have e185 : ev (.tmp 185) = I (passed ws sts ps kl (r + (gW ws kl).len)) := hd 16 185 (by kernel_rfl)
          have e188 : ev (.tmp 188) = I (gI sts 0) := hd 19 188 (by kernel_rfl)
          have ew : IntKind.i64.wrap (passed ws sts ps kl (r + (gW ws kl).len) - gI sts 0) = passed ws sts ps kl (r + (gW ws kl).len) - gI sts 0 := by have := HPB.out; exact IntWalk.i64_in _ (by omega)
          go_simp
          first | exact ⟨rfl, hR, Below.refl _ _⟩ | exact ⟨⟨rfl, rfl⟩, hR, Below.refl _ _⟩ | exact ⟨⟨rfl, fun h => absurd h (by decide)⟩, hR, Below.refl _ _⟩ | exact ⟨⟨rfl, rfl, fun h => absurd h (by decide)⟩, hR, Below.refl _ _⟩
        | 21, _, ho =>
          clear hsk
          cases ho
          have e189 : ev (.tmp 189) = I (passed ws sts ps kl (r + (gW ws kl).len) - gI sts 0) := hd 20 189 (by kernel_rfl)
          go_simp
          first | exact ⟨rfl, hR, Below.refl _ _⟩ | exact ⟨⟨rfl, rfl⟩, hR, Below.refl _ _⟩ | exact ⟨⟨rfl, fun h => absurd h (by decide)⟩, hR, Below.refl _ _⟩ | exact ⟨⟨rfl, rfl, fun h => absurd h (by decide)⟩, hR, Below.refl _ _⟩
        | n + 22, hi, _ => exact absurd hi (by simp)
      intro ρ w20 hR hρ hne K hK
      have p24 : ρ 21 = I (passed ws sts ps kl (r + (gW ws kl).len) - gI sts 0) := hρ 21 (by simp)
      show K (putAll _ _ ρ 22) _
      simp only [putAll, dOf, List.getElem?_toArray, List.getElem?_cons_zero, List.getElem?_cons_succ, Option.bind_some, Act.put, List.setIfInBounds_toArray, List.set_cons_zero, List.set_cons_succ]
      rw [p24]
      refine hK _ _ ?_
      change wpList _ _ _ [] _ _
      have T20 := T18.grow hR
      have ht3 := cell_grow ht1' hR
      have ht4 := fun j hj => cell_grow (ht2' j hj) hR
      clear hK K p24 hρ hne hR T18 hrow18 hrc18 ht1' ht2'
      obtain ⟨hm1, hm2, hm3, hm4, hm5, hm6⟩ := HM.out
      have hxa := HXA.out
      have hxb := HXB.out
      have hya := HYA.out
      have hyb := HYB.out
      have hza := HZA.out
      have hzb := HZB.out
      have hgab := HGAB.out
      clear HM HPB HSM HPL hkm
      have hz1 : za ≤ passed ws sts ps kl (r + (gW ws kl).len) - gI sts 0 ∧ passed ws sts ps kl (r + (gW ws kl).len) - gI sts 0 ≤ zb := by omega
      have hz4 : i = 0 → passed ws sts ps kl (r + (gW ws kl).len) - gI sts 0 = zb := fun e => by have := (hm4 e).2.2; omega
      have hz5 : i = 1 → passed ws sts ps kl (r + (gW ws kl).len) - gI sts 0 = za := fun e => by have := (hm5 e).2.2; omega
      clear hza hzb hm3
      rw [hxa, hxb] at hm1
      rw [hya, hyb] at hm2
      have hq4 : i = 0 → rv ws sts ps (L : Int) k = xa ∧ passed ws sts ps k pl = yb := fun e => ⟨(hm4 e).1.trans hxa, (hm4 e).2.1.trans hyb⟩
      have hq5 : i = 1 → rv ws sts ps (L : Int) k = xb ∧ passed ws sts ps k pl = ya := fun e => ⟨(hm5 e).1.trans hxb, (hm5 e).2.1.trans hya⟩
      clear hm4 hm5 hxa hxb hya hyb
      have hg0 : k ≠ 0 → (ga ≤ rv ws sts ps (L : Int) (k - 1) - (gW ws (k - 1)).len - rv ws sts ps (L : Int) k ∧ rv ws sts ps (L : Int) (k - 1) - (gW ws (k - 1)).len - rv ws sts ps (L : Int) k ≤ gb) ∧ (i = 3 → rv ws sts ps (L : Int) (k - 1) - (gW ws (k - 1)).len - rv ws sts ps (L : Int) k = gb) ∧ (i = 4 → rv ws sts ps (L : Int) (k - 1) - (gW ws (k - 1)).len - rv ws sts ps (L : Int) k = ga) := fun h => by
        obtain ⟨e1, e2⟩ := hgab h
        rw [e1, e2]
        exact hm6 h
      clear hm6 hgab
      have hfa := HFA.out
      clear HFA
      generalize rv ws sts ps (L : Int) k = at_ at *
      generalize passed ws sts ps k pl = pa at *
      generalize passed ws sts ps kl (r + (gW ws kl).len) - gI sts 0 = lo_ at *
      have HG := Lib.hid hg0
      have HQ4 := Lib.hid hq4
      have HQ5 := Lib.hid hq5
      have HZ4 := Lib.hid hz4
      have HZ5 := Lib.hid hz5
      clear hg0 hq4 hq5 hz4 hz5
      have h01 : ∀ j, j ≤ k → gI sts j ≤ (L : Int) := fun j hj => Int.le_trans (HSO.out j k hj hi) hy1
      have HSL := Lib.hid h01
      clear h01
      have hij : i = 0 ∨ i = 1 ∨ 2 ≤ i := by omega
      go_upto_region 21 with (fail)
      go_cut [249] from 135 to 293 (fun v249 wx => v249 = .bool false ∧ TrL d w2.heap.size r (some ⟨bw, ow, none⟩) c ws (some ⟨b, o, none⟩) sts (q16 + 1) q9 q11 q14 q16 #[I xa, I xb] #[I ya, I yb] #[I za, I zb] #[I ga, I gb] b18 g0 d0 g1 d1 g2 d2 g3 d3 g4 d4 (los ws) (his ws) pp ((his ws).set k (gW ws k).lo) ((los ws).set k (gW ws k).hi) w wx ∧ wx.cell? ⟨gt, L, none⟩ = some (.slice (some ⟨bt, ot, none⟩) ws.length ct') ∧ ∀ j, j < ws.length → wx.cell? ⟨bt, ot + j, none⟩ = some (I (rv ws sts ps (L : Int) j)))
      case first =>
       as_aux_lemma =>
        rcases hij with hij | hij | hij
        · have hz0 : (i == 0) = true := by simp [hij]
          have hz0' : ((i : Int) == 0) = true := by simp [hij]
          have hz1' : ((i : Int) == 1) = false := by simp [hij]
          have hz1'' : (i == 1) = false := by simp [hij]
          obtain ⟨rfl, rfl⟩ := HQ4.out hij
          obtain rfl := HZ4.out hij
          clear hij
          have hc9 := T20.1.2.2.1.cell
          go_wp2_with fail
          refine (in_c _ _ _ _ (by omega) (by omega)).mono ?_
          rintro e w21 ⟨rfl, hb2⟩
          have T21 := T20.grow hb2
          have ht3 := cell_grow ht3 hb2
          have ht4 := fun j hj => cell_grow (ht4 j hj) hb2
          clear hc9 hb2 T20
          have hc9 := T21.1.2.2.2.1.cell
          go_wp2_with fail
          refine (in_c _ _ _ _ (by omega) (by omega)).mono ?_
          rintro e w22 ⟨rfl, hb2⟩
          have T22 := T21.grow hb2
          have ht3 := cell_grow ht3 hb2
          have ht4 := fun j hj => cell_grow (ht4 j hj) hb2
          clear hc9 hb2 T21
          have hc9 := T22.1.2.2.2.2.1.cell
          go_wp2_with fail
          refine (in_c _ _ _ _ (by omega) (by omega)).mono ?_
          rintro e w23 ⟨rfl, hb2⟩
          have T23 := T22.grow hb2
          have ht3 := cell_grow ht3 hb2
          have ht4 := fun j hj => cell_grow (ht4 j hj) hb2
          clear hc9 hb2 T22
          have hc9 := T23.1.2.2.1.cell
          have hc11 := T23.1.2.2.2.1.cell
          have hc14 := T23.1.2.2.2.2.1.cell
          go_wp2_with fail
          go_meet
          case rel => exact ⟨rfl, T23, ht3, ht4⟩
        · have hz0 : (i == 0) = false := by simp [hij]
          have hz0' : ((i : Int) == 0) = false := by simp [hij]
          have hz1' : ((i : Int) == 1) = true := by simp [hij]
          have hz1'' : (i == 1) = true := by simp [hij]
          obtain ⟨rfl, rfl⟩ := HQ5.out hij
          obtain rfl := HZ5.out hij
          clear hij
          have hc9 := T20.1.2.2.1.cell
          go_wp2_with fail
          refine (in_c _ _ _ _ (by omega) (by omega)).mono ?_
          rintro e w21 ⟨rfl, hb2⟩
          have T21 := T20.grow hb2
          have ht3 := cell_grow ht3 hb2
          have ht4 := fun j hj => cell_grow (ht4 j hj) hb2
          clear hc9 hb2 T20
          have hc9 := T21.1.2.2.2.1.cell
          go_wp2_with fail
          refine (in_c _ _ _ _ (by omega) (by omega)).mono ?_
          rintro e w22 ⟨rfl, hb2⟩
          have T22 := T21.grow hb2
          have ht3 := cell_grow ht3 hb2
          have ht4 := fun j hj => cell_grow (ht4 j hj) hb2
          clear hc9 hb2 T21
          have hc9 := T22.1.2.2.2.2.1.cell
          go_wp2_with fail
          refine (in_c _ _ _ _ (by omega) (by omega)).mono ?_
          rintro e w23 ⟨rfl, hb2⟩
          have T23 := T22.grow hb2
          have ht3 := cell_grow ht3 hb2
          have ht4 := fun j hj => cell_grow (ht4 j hj) hb2
          clear hc9 hb2 T22
          have hc9 := T23.1.2.2.1.cell
          have hc11 := T23.1.2.2.2.1.cell
          have hc14 := T23.1.2.2.2.2.1.cell
          go_wp2_with fail
          go_meet
          case rel => exact ⟨rfl, T23, ht3, ht4⟩
        · have hij' : ¬ (i : Int) = 0 := by omega
          have hij2 : ¬ (i : Int) = 1 := by omega
          have hc9 := T20.1.2.2.1.cell
          go_wp2_with fail
          refine (in_c _ _ _ _ (by omega) (by omega)).mono ?_
          rintro e w21 ⟨rfl, hb2⟩
          have T21 := T20.grow hb2
          have ht3 := cell_grow ht3 hb2
          have ht4 := fun j hj => cell_grow (ht4 j hj) hb2
          clear hc9 hb2 T20
          have hc9 := T21.1.2.2.2.1.cell
          go_wp2_with fail
          refine (in_c _ _ _ _ (by omega) (by omega)).mono ?_
          rintro e w22 ⟨rfl, hb2⟩
          have T22 := T21.grow hb2
          have ht3 := cell_grow ht3 hb2
          have ht4 := fun j hj => cell_grow (ht4 j hj) hb2
          clear hc9 hb2 T21
          have hc9 := T22.1.2.2.2.2.1.cell
          go_wp2_with fail
          refine (in_c _ _ _ _ (by omega) (by omega)).mono ?_
          rintro e w23 ⟨rfl, hb2⟩
          have T23 := T22.grow hb2
          have ht3 := cell_grow ht3 hb2
          have ht4 := fun j hj => cell_grow (ht4 j hj) hb2
          clear hc9 hb2 T22
          have hc9 := T23.1.2.2.1.cell
          have hc11 := T23.1.2.2.2.1.cell
          have hc14 := T23.1.2.2.2.2.1.cell
          go_wp2_with fail
          go_meet
          case rel => exact ⟨rfl, T23, ht3, ht4⟩
      case rest =>
       as_aux_lemma =>
        obtain ⟨rfl, T23, ht3, ht4⟩ := hcut
        by_cases hk0 : k = 0
        · have hkz : (k == 0) = true := by simp [hk0]
          have hkz' : ((k : Int) == 0) = true := by simp [hk0]
          have HK0 := Lib.hid hk0
          clear hk0
          have T25 := T23
          go_wp2_with fail
          go_roundw
          case rel => exact ⟨i + 1, by go_num, by omega, T25⟩
          case measure => simp [intOf]; omega
        · have hk0' : ¬ (k : Int) = 0 := by omega
          go_wp2_with fail
          obtain ⟨km, hkm⟩ : ∃ km, km + 1 = k := ⟨k - 1, by omega⟩
          obtain ⟨⟨hg1, hg2⟩, hg3, hg4⟩ := HG.out hk0
          have ekm : k - 1 = km := by omega
          rw [ekm] at hg1 hg2 hg3 hg4
          have hfm := ht4 km (by omega)
          have hfb := HFM.out km (by omega) (HSL.out km (by omega))
          generalize rv ws sts ps (L : Int) km = fm at *
          have ht5 := ht3
          clear ekm ht3 ht4
          have hkm1 : (km : Int) + 1 = (k : Int) := by omega
          clear hkm
          refine wp_region_list_s (by kernel_rfl) (R := RB wc.heap.size wc) (F := FB) [] [] []
              [As.is _ _ (.slice (some ⟨gt, 0, none⟩) (L + 1) ct),
              As.is _ _ (I (L : Int)),
              As.is _ _ (.pointer (some ⟨gt, L, none⟩)),
              As.is _ _ (.slice (some ⟨bt, ot, none⟩) ws.length ct'),
              As.is _ _ (I (k : Int)),
              As.is _ _ (I (km : Int)),
              As.is _ _ (.pointer (some ⟨bt, ot + km, none⟩)),
              As.is _ _ (I fm),
              As.is _ _ (.pointer (some ⟨w2.heap.size, 1, none⟩)),
              As.is _ _ (.slice (some ⟨bw, ow, none⟩) ws.length c),
              As.is _ _ (I (k : Int)),
              As.is _ _ (I (km : Int)),
              As.is _ _ (.pointer (some ⟨bw, ow + km * 4, none⟩)),
              As.is _ _ (.pointer (some ⟨bw, ow + km * 4 + 1, none⟩)),
              As.is _ _ (I (gW ws km).len),
              As.is _ _ (I (fm - (gW ws km).len)),
              As.is _ _ (I at_),
              As.is _ _ (I (fm - (gW ws km).len - at_)),
              As.is _ _ (I (fm - (gW ws km).len - at_))] 295 (by kernel_rfl) rfl ((Below.refl _ _).drew) (by simp) (by simp) ?_ (fun _ => Below.refl _ _) ?_ ?_ ?_
          · intro i' hi' o' ho k' b' hg u w' hR hu
            match i', hi', ho with
            | 0, _, ho => cases ho; cases hg
            | 1, _, ho => cases ho; cases hg
            | 2, _, ho => cases ho; cases hg
            | 3, _, ho => cases ho; cases hg
            | 4, _, ho => cases ho; cases hg
            | 5, _, ho => cases ho; cases hg
            | 6, _, ho => cases ho; cases hg
            | 7, _, ho => cases ho; cases hg
            | 8, _, ho => cases ho; cases hg
            | 9, _, ho => cases ho; cases hg
            | 10, _, ho => cases ho; cases hg
            | 11, _, ho => cases ho; cases hg
            | 12, _, ho => cases ho; cases hg
            | 13, _, ho => cases ho; cases hg
            | 14, _, ho => cases ho; cases hg
            | 15, _, ho => cases ho; cases hg
            | 16, _, ho => cases ho; cases hg
            | 17, _, ho => cases ho; cases hg
            | 18, _, ho => cases ho; cases hg
            | n + 19, hi, _ => exact absurd hi (by simp)
          · intro i' hi' hsk; cases hsk
          · intro i' hi' hsk o' ho ev w' hR hc hf hg hs hd
            match i', hi', ho with
            | 0, _, ho =>
              clear hsk
              cases ho
              have e20 : ev (.tmp 20) = .slice (some ⟨gt, 0, none⟩) (L + 1) ct := hs 20 (by kernel_rfl)
              go_simp
              first | exact ⟨rfl, hR, Below.refl _ _⟩ | exact ⟨⟨rfl, rfl⟩, hR, Below.refl _ _⟩ | exact ⟨⟨rfl, fun h => absurd h (by decide)⟩, hR, Below.refl _ _⟩ | exact ⟨⟨rfl, rfl, fun h => absurd h (by decide)⟩, hR, Below.refl _ _⟩
            | 1, _, ho =>
              clear hsk
              cases ho
              have e7 : ev (.tmp 7) = I (L : Int) := hs 7 (by kernel_rfl)
              go_simp
              first | exact ⟨rfl, hR, Below.refl _ _⟩ | exact ⟨⟨rfl, rfl⟩, hR, Below.refl _ _⟩ | exact ⟨⟨rfl, fun h => absurd h (by decide)⟩, hR, Below.refl _ _⟩ | exact ⟨⟨rfl, rfl, fun h => absurd h (by decide)⟩, hR, Below.refl _ _⟩
            | 2, _, ho =>
              clear hsk
              cases ho
              have e252 : ev (.tmp 252) = .slice (some ⟨gt, 0, none⟩) (L + 1) ct := hd 0 252 (by kernel_rfl)
              have e253 : ev (.tmp 253) = I (L : Int) := hd 1 253 (by kernel_rfl)
              have hnl : (L : Int) < ((L + 1 : Nat) : Int) := by omega
              have hnl' : (L : Int) < (L : Int) + 1 := by omega
              go_simp
              first | exact ⟨rfl, hR, Below.refl _ _⟩ | exact ⟨⟨rfl, rfl⟩, hR, Below.refl _ _⟩ | exact ⟨⟨rfl, fun h => absurd h (by decide)⟩, hR, Below.refl _ _⟩ | exact ⟨⟨rfl, rfl, fun h => absurd h (by decide)⟩, hR, Below.refl _ _⟩
            | 3, _, ho =>
              clear hsk
              cases ho
              have e254 : ev (.tmp 254) = .pointer (some ⟨gt, L, none⟩) := hd 2 254 (by kernel_rfl)
              have m1 := cell_grow ht5 hR
              go_simp
              first | exact ⟨rfl, hR, Below.refl _ _⟩ | exact ⟨⟨rfl, rfl⟩, hR, Below.refl _ _⟩ | exact ⟨⟨rfl, fun h => absurd h (by decide)⟩, hR, Below.refl _ _⟩ | exact ⟨⟨rfl, rfl, fun h => absurd h (by decide)⟩, hR, Below.refl _ _⟩
            | 4, _, ho =>
              clear hsk
              cases ho
              have e6 : ev (.tmp 6) = I (k : Int) := hs 6 (by kernel_rfl)
              go_simp
              first | exact ⟨rfl, hR, Below.refl _ _⟩ | exact ⟨⟨rfl, rfl⟩, hR, Below.refl _ _⟩ | exact ⟨⟨rfl, fun h => absurd h (by decide)⟩, hR, Below.refl _ _⟩ | exact ⟨⟨rfl, rfl, fun h => absurd h (by decide)⟩, hR, Below.refl _ _⟩
            | 5, _, ho =>
              clear hsk
              cases ho
              have e256 : ev (.tmp 256) = I (k : Int) := hd 4 256 (by kernel_rfl)
              have ew : IntKind.i64.wrap ((k : Int) - 1) = (km : Int) := by rw [IntWalk.i64_in _ (by omega)]; omega
              go_simp
              first | exact ⟨rfl, hR, Below.refl _ _⟩ | exact ⟨⟨rfl, rfl⟩, hR, Below.refl _ _⟩ | exact ⟨⟨rfl, fun h => absurd h (by decide)⟩, hR, Below.refl _ _⟩ | exact ⟨⟨rfl, rfl, fun h => absurd h (by decide)⟩, hR, Below.refl _ _⟩
            | 6, _, ho =>
              clear hsk
              cases ho
              have e255 : ev (.tmp 255) = .slice (some ⟨bt, ot, none⟩) ws.length ct' := hd 3 255 (by kernel_rfl)
              have e257 : ev (.tmp 257) = I (km : Int) := hd 5 257 (by kernel_rfl)
              have hkl : (km : Int) < (ws.length : Int) := by omega
              go_simp
              first | exact ⟨rfl, hR, Below.refl _ _⟩ | exact ⟨⟨rfl, rfl⟩, hR, Below.refl _ _⟩ | exact ⟨⟨rfl, fun h => absurd h (by decide)⟩, hR, Below.refl _ _⟩ | exact ⟨⟨rfl, rfl, fun h => absurd h (by decide)⟩, hR, Below.refl _ _⟩
            | 7, _, ho =>
              clear hsk
              cases ho
              have e258 : ev (.tmp 258) = .pointer (some ⟨bt, ot + km, none⟩) := hd 6 258 (by kernel_rfl)
              have m1 := cell_grow hfm hR
              go_simp
              first | exact ⟨rfl, hR, Below.refl _ _⟩ | exact ⟨⟨rfl, rfl⟩, hR, Below.refl _ _⟩ | exact ⟨⟨rfl, fun h => absurd h (by decide)⟩, hR, Below.refl _ _⟩ | exact ⟨⟨rfl, rfl, fun h => absurd h (by decide)⟩, hR, Below.refl _ _⟩
            | 8, _, ho =>
              clear hsk
              cases ho
              have e4 : ev (.tmp 4) = .pointer (some ⟨w2.heap.size, 0, none⟩) := hs 4 (by kernel_rfl)
              go_simp
              first | exact ⟨rfl, hR, Below.refl _ _⟩ | exact ⟨⟨rfl, rfl⟩, hR, Below.refl _ _⟩ | exact ⟨⟨rfl, fun h => absurd h (by decide)⟩, hR, Below.refl _ _⟩ | exact ⟨⟨rfl, rfl, fun h => absurd h (by decide)⟩, hR, Below.refl _ _⟩
            | 9, _, ho =>
              clear hsk
              cases ho
              have e260 : ev (.tmp 260) = .pointer (some ⟨w2.heap.size, 1, none⟩) := hd 8 260 (by kernel_rfl)
              have m4 := (T23.grow hR).1.1.box.cell
              go_simp
              first | exact ⟨rfl, hR, Below.refl _ _⟩ | exact ⟨⟨rfl, rfl⟩, hR, Below.refl _ _⟩ | exact ⟨⟨rfl, fun h => absurd h (by decide)⟩, hR, Below.refl _ _⟩ | exact ⟨⟨rfl, rfl, fun h => absurd h (by decide)⟩, hR, Below.refl _ _⟩
            | 10, _, ho =>
              clear hsk
              cases ho
              have e6 : ev (.tmp 6) = I (k : Int) := hs 6 (by kernel_rfl)
              go_simp
              first | exact ⟨rfl, hR, Below.refl _ _⟩ | exact ⟨⟨rfl, rfl⟩, hR, Below.refl _ _⟩ | exact ⟨⟨rfl, fun h => absurd h (by decide)⟩, hR, Below.refl _ _⟩ | exact ⟨⟨rfl, rfl, fun h => absurd h (by decide)⟩, hR, Below.refl _ _⟩
            | 11, _, ho =>
              clear hsk
              cases ho
              have e262 : ev (.tmp 262) = I (k : Int) := hd 10 262 (by kernel_rfl)
              have ew : IntKind.i64.wrap ((k : Int) - 1) = (km : Int) := by rw [IntWalk.i64_in _ (by omega)]; omega
              go_simp
              first | exact ⟨rfl, hR, Below.refl _ _⟩ | exact ⟨⟨rfl, rfl⟩, hR, Below.refl _ _⟩ | exact ⟨⟨rfl, fun h => absurd h (by decide)⟩, hR, Below.refl _ _⟩ | exact ⟨⟨rfl, rfl, fun h => absurd h (by decide)⟩, hR, Below.refl _ _⟩
            | 12, _, ho =>
              clear hsk
              cases ho
              have e261 : ev (.tmp 261) = .slice (some ⟨bw, ow, none⟩) ws.length c := hd 9 261 (by kernel_rfl)
              have e263 : ev (.tmp 263) = I (km : Int) := hd 11 263 (by kernel_rfl)
              have hkl : (km : Int) < (ws.length : Int) := by omega
              go_simp
              first | exact ⟨rfl, hR, Below.refl _ _⟩ | exact ⟨⟨rfl, rfl⟩, hR, Below.refl _ _⟩ | exact ⟨⟨rfl, fun h => absurd h (by decide)⟩, hR, Below.refl _ _⟩ | exact ⟨⟨rfl, rfl, fun h => absurd h (by decide)⟩, hR, Below.refl _ _⟩
            | 13, _, ho =>
              clear hsk
              cases ho
              have e264 : ev (.tmp 264) = .pointer (some ⟨bw, ow + km * 4, none⟩) := hd 12 264 (by kernel_rfl)
              go_simp
              first | exact ⟨rfl, hR, Below.refl _ _⟩ | exact ⟨⟨rfl, rfl⟩, hR, Below.refl _ _⟩ | exact ⟨⟨rfl, fun h => absurd h (by decide)⟩, hR, Below.refl _ _⟩ | exact ⟨⟨rfl, rfl, fun h => absurd h (by decide)⟩, hR, Below.refl _ _⟩
            | 14, _, ho =>
              clear hsk
              cases ho
              have e265 : ev (.tmp 265) = .pointer (some ⟨bw, ow + km * 4 + 1, none⟩) := hd 13 265 (by kernel_rfl)
              have m6 := (SlW.cellG (T23.grow hR).1.1.wings (show km < ws.length by omega)).2.1
              go_simp
              first | exact ⟨rfl, hR, Below.refl _ _⟩ | exact ⟨⟨rfl, rfl⟩, hR, Below.refl _ _⟩ | exact ⟨⟨rfl, fun h => absurd h (by decide)⟩, hR, Below.refl _ _⟩ | exact ⟨⟨rfl, rfl, fun h => absurd h (by decide)⟩, hR, Below.refl _ _⟩
            | 15, _, ho =>
              clear hsk
              cases ho
              have e259 : ev (.tmp 259) = I fm := hd 7 259 (by kernel_rfl)
              have e266 : ev (.tmp 266) = I (gW ws km).len := hd 14 266 (by kernel_rfl)
              have ew : IntKind.i64.wrap (fm - (gW ws km).len) = fm - (gW ws km).len := IntWalk.i64_in _ (by omega)
              go_simp
              first | exact ⟨rfl, hR, Below.refl _ _⟩ | exact ⟨⟨rfl, rfl⟩, hR, Below.refl _ _⟩ | exact ⟨⟨rfl, fun h => absurd h (by decide)⟩, hR, Below.refl _ _⟩ | exact ⟨⟨rfl, rfl, fun h => absurd h (by decide)⟩, hR, Below.refl _ _⟩
            | 16, _, ho =>
              clear hsk
              cases ho
              have e21 : ev (.tmp 21) = I at_ := hs 21 (by kernel_rfl)
              go_simp
              first | exact ⟨rfl, hR, Below.refl _ _⟩ | exact ⟨⟨rfl, rfl⟩, hR, Below.refl _ _⟩ | exact ⟨⟨rfl, fun h => absurd h (by decide)⟩, hR, Below.refl _ _⟩ | exact ⟨⟨rfl, rfl, fun h => absurd h (by decide)⟩, hR, Below.refl _ _⟩
            | 17, _, ho =>
              clear hsk
              cases ho
              have e267 : ev (.tmp 267) = I (fm - (gW ws km).len) := hd 15 267 (by kernel_rfl)
              have e268 : ev (.tmp 268) = I at_ := hd 16 268 (by kernel_rfl)
              have ew : IntKind.i64.wrap (fm - (gW ws km).len - at_) = fm - (gW ws km).len - at_ := IntWalk.i64_in _ (by omega)
              go_simp
              first | exact ⟨rfl, hR, Below.refl _ _⟩ | exact ⟨⟨rfl, rfl⟩, hR, Below.refl _ _⟩ | exact ⟨⟨rfl, fun h => absurd h (by decide)⟩, hR, Below.refl _ _⟩ | exact ⟨⟨rfl, rfl, fun h => absurd h (by decide)⟩, hR, Below.refl _ _⟩
            | 18, _, ho =>
              clear hsk
              cases ho
              have e269 : ev (.tmp 269) = I (fm - (gW ws km).len - at_) := hd 17 269 (by kernel_rfl)
              go_simp
              first | exact ⟨rfl, hR, Below.refl _ _⟩ | exact ⟨⟨rfl, rfl⟩, hR, Below.refl _ _⟩ | exact ⟨⟨rfl, fun h => absurd h (by decide)⟩, hR, Below.refl _ _⟩ | exact ⟨⟨rfl, rfl, fun h => absurd h (by decide)⟩, hR, Below.refl _ _⟩
            | n + 19, hi, _ => exact absurd hi (by simp)
          intro ρ w24 hR hρ hne K hK
          have p25 : ρ 18 = I (fm - (gW ws km).len - at_) := hρ 18 (by simp)
          show K (putAll _ _ ρ 19) _
          simp only [putAll, dOf, List.getElem?_toArray, List.getElem?_cons_zero, List.getElem?_cons_succ, Option.bind_some, Act.put, List.setIfInBounds_toArray, List.set_cons_zero, List.set_cons_succ]
          rw [p25]
          refine hK _ _ ?_
          change wpList _ _ _ [] _ _
          have T24 := T23.grow hR
          clear hK K p25 hρ hne hR T23
          have hc16 := T24.1.2.2.2.2.2.1.cell
          go_wp2_with fail
          refine (in_c _ _ _ _ (by omega) (by omega)).mono ?_
          rintro e w25 ⟨rfl, hb25⟩
          have T25 := T24.grow hb25
          clear hc16
          have hc16 := T25.1.2.2.2.2.2.1.cell
          by_cases h3 : i = 3
          · have h3' : (i : Int) = 3 := by omega
            have hg5 : fm - (gW ws km).len - at_ = gb := hg3 h3
            go_wp2_with fail
            go_roundw
            case rel => exact ⟨i + 1, by go_num, by omega, T25⟩
            case measure => simp [intOf]; omega
          · by_cases h4 : i = 4
            · have h4' : (i : Int) = 4 := by omega
              have hg5 : fm - (gW ws km).len - at_ = ga := hg4 h4
              go_wp2_with fail
              go_roundw
              case rel => exact ⟨i + 1, by go_num, by omega, T25⟩
              case measure => simp [intOf]; omega
            · have h3' : ¬ (i : Int) = 3 := by omega
              have h4' : ¬ (i : Int) = 4 := by omega
              go_wp2_with fail
              go_roundw
              case rel => exact ⟨i + 1, by go_num, by omega, T25⟩
              case measure => simp [intOf]; omega
    · have hi5' : ¬ ((i : Int) < 5) := by omega
      go_wp2_with fail
      refine (awake_c _).mono ?_
      rintro e w40 ⟨rfl, hb40⟩
      have hB := hT.1.1.below.trans (hb40.mono hT.1.1.below.size)
      go_wp2
      go_ret
      exact ⟨rfl, hB⟩

namespace paradeTrue
open Go.ChangeShapes Go.WideShapes Go.ChangeAt Go.RowKit

set_option maxRecDepth 100000 in
theorem lifted (os : Os) (started : os.Started) (H : Type) (enc : TypeId × Value → H) :
    ReturnsInHanded {} Try.checked os 8 .any (Rows.paradeTrueSpec.pre6 enc Try.prog Try.f8 Rows.paradeTrueRow.domain false) (Rows.paradeTrueSpec.post enc Try.prog Try.f8 false true false false) := by
  refine returnsInHanded_of_change (C := Try.checked) prog_own started (by kernel_rfl) Try.func8
    (ChangeSpec.witness6 (enc := enc) (C := Try.checked) false ⟨#[], #[.slice none 0 0], []⟩ 8 (by kernel_rfl) (by kernel_rfl) (by kernel_rfl) (by kernel_rfl)) ?_
  intro W base args ds gs before hval0 hW hcnd _
  have hval : ∀ (j : Nat) t v, Try.f8.params[j]? = some t → args[j]? = some v → Value.okWide Try.prog W .any base t v := hval0
  have hW' := hW
  obtain ⟨p, q, hA0, hV, rfl, hfz, hnd⟩ := hW
  have hA : DataW.TrodAll enc Try.prog W 0 (fun _ => true) true Try.f8.params.toList args.toList ds p := hA0
  rw [Try.params8] at hA hval
  obtain ⟨v0, vs0, d0, ds0, p0, q0, hargs, rfl, rfl, h0, r0⟩ := trodAll_cons hA
  obtain ⟨rfl, rfl, rfl⟩ := trodAll_nil r0
  obtain rfl : args = #[v0] := by cases args; simp_all
  obtain ⟨rfl, rfl⟩ := trodVars_none hV
  obtain ⟨a0, len0, cap0, rfl⟩ := okWide_slice Try.underlying25 (hval 0 25 v0 rfl rfl)
  have k0 := h0
  have lt0 : ∀ x ∈ p0, x.block < W.heap.size := by obtain ⟨m, hm⟩ := k0; exact DataW.trod_lt m _ _ _ hm
  obtain ⟨T, zs, rfl, hs, hm⟩ := ints_sl h0
  clear hA0 hval0
  refine (true_c a0 cap0 T zs W hs hm).mono fun e W' ⟨he, bel⟩ => ?_
  subst he
  exact ⟨_, rfl, _, _, _, [], _, [], hW', trodAll_mk1 (shut_bool Try.underlying4 _), (trodAll_cons_mk (Below.trod prog_laid (by kernel_rfl) (of_decide_eq_true (by kernel_rfl)) k0 bel lt0) trodAll_mk0), rfl, bel.frame _, fun h => by cases h⟩

theorem proved : Rows.ParadeTrueSaid :=
  OpenClaim.holds_of_wide 8 Try.f8 rfl rfl rfl rfl rfl rfl rfl ⟨rfl, rfl, rfl, rfl, rfl⟩ rfl rfl rfl rfl rfl (by kernel_rfl) Try.func8 (by kernel_rfl)
    (of_decide_eq_true (by kernel_rfl)) (by unfold Func.isWrapper; first | (rw [if_pos (by decide +kernel)]; kernel_rfl) | (rw [if_neg (by decide +kernel)]; exact ⟨rfl, rfl⟩))
    (fun os started H enc _ => lifted os started H enc)
end paradeTrue
end Go.Proofs.Ytnihkgdkdinliaa
