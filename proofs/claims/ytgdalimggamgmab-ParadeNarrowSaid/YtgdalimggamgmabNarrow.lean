/- ParadeNarrow. Own work. -/
import Derived.Test.YtgdalimggamgmabLawKit
import Derived.Test.YtgdalimggamgmabNarrowA
namespace Go.Proofs.Ytgdalimggamgmab
open Go.RowKit Go.ChangeShapes Go.WideShapes Go.ChangeAt
set_option linter.unusedVariables false
set_option linter.unusedSimpArgs false

/-- What holds in the law: the school, its starts, rules, and a copy with narrower paces. -/
structure NS (d q q6 q7 qb : Nat) (r : Int) (A : Option Addr) (c : Nat) (ws : List Wg) (B : Option Addr) (sts : List Int) (sr : Array Value) (c' : Nat) (us : List Wg) (w0 w : World) : Prop where
  k : LK d q r A c ws w0 w
  s : SlI w 3 B sts
  r6 : Bx w q6 30 sr
  b7 : Bx w q7 27 #[I r, .slice (some ⟨qb, 0, none⟩) ws.length c']
  u : WB w qb us
  nb : w0.heap.size ≤ qb
  ab : ∀ b1 o1, A = some ⟨b1, o1, none⟩ → b1 ≠ qb
section
variable {d q q6 q7 qb : Nat} {r : Int} {A : Option Addr} {c : Nat} {ws : List Wg} {B : Option Addr} {sts : List Int} {sr : Array Value} {c' : Nat} {us : List Wg} {w0 w w' : World}
theorem WB.ne {b k : Nat} {T : TypeId} {cs : Array Value} (h : WB w b us) (hb : Bx w k T cs) (hT : T ≠ 52) : k ≠ b := by
  rintro rfl
  obtain ⟨cs', fz, h1, _⟩ := h
  unfold Bx at hb
  rw [hb] at h1
  injection h1 with h1
  injection h1 with _ ht
  exact hT ht
theorem WB.neD {b d : Nat} (h : WB w b us) (hd : Dr w d) : d ≠ b := by
  obtain ⟨x, hx, _⟩ := hd
  exact h.ne (show Bx w d _ _ from hx) (by decide)
theorem NS.kp (h : NS d q q6 q7 qb r A c ws B sts sr c' us w0 w) (hk : w.grownBy w' (some d)) (hd : Dr w' d) : NS d q q6 q7 qb r A c ws B sts sr c' us w0 w' :=
  ⟨h.k.kp hk hd, Sl.kp h.s h.k.dr hk (by decide), h.r6.kp hk (bx_ne h.r6 h.k.dr (by decide)), h.b7.kp hk (bx_ne h.b7 h.k.dr (by decide)), h.u.kp hk (Ne.symm (h.u.neD h.k.dr)), h.nb, h.ab⟩
theorem NS.grow (h : NS d q q6 q7 qb r A c ws B sts sr c' us w0 w) (hb : Below w.heap.size w w') : NS d q q6 q7 qb r A c ws B sts sr c' us w0 w' :=
  h.kp (kp_of_below hb (Nat.le_refl _)) (h.k.dr.below hb h.k.dr.lt)
theorem sl_row {w w' : World} {T : TypeId} {A : Option Addr} {xs : List Value} {b : Nat} (h : Sl w T A xs) (hk : w.grownBy w' (some b)) (hne : ∀ b1 o1, A = some ⟨b1, o1, none⟩ → b1 ≠ b) : Sl w' T A xs := by
  rcases h with h | ⟨b1, o1, cs, fz, hA, hh, hc⟩
  · exact .inl h
  · exact .inr ⟨b1, o1, cs, fz, hA, (hk.block b1 (lt_of_heap hh) (fun e => hne b1 o1 hA (by injection e))).trans hh, hc⟩
theorem NS.put (h : NS d q q6 q7 qb r A c ws B sts sr c' us w0 w) {i : Nat} (hi : i < us.length) (x y : Int) :
    NS d q q6 q7 qb r A c ws B sts sr c' (us.set i ⟨(gW us i).name, (gW us i).len, x, y⟩) w0 ((w.setCell ⟨qb, i * 4 + 2, none⟩ (I x)).setCell ⟨qb, i * 4 + 3, none⟩ (I y)) := by
  have hg : w.grownBy ((w.setCell ⟨qb, i * 4 + 2, none⟩ (I x)).setCell ⟨qb, i * 4 + 3, none⟩ (I y)) (some qb) := kp_trans (kp_setCell _ _ _ _) (kp_setCell _ _ _ _)
  have hsB : ∀ b1 o1, B = some ⟨b1, o1, none⟩ → sts ≠ [] → b1 ≠ qb := by
    rintro b1 o1 rfl hne rfl
    rcases h.s with h0 | ⟨b2, o2, cs, fz, hA, hh, _⟩
    · exact hne (by simpa using h0)
    · injection hA with hA; injection hA with e1 _; subst e1
      obtain ⟨cs', fz', h1, _⟩ := h.u
      rw [hh] at h1; injection h1 with h1; injection h1 with _ ht; exact absurd ht (by decide)
  refine ⟨⟨h.k.dr.grown hg (fun e => h.u.neD h.k.dr (by injection e)), h.k.box.grown hg (fun e => h.u.ne h.k.box (by decide) (by injection e)), sl_row h.k.wings hg h.ab, below_of_kp h.k.below hg h.nb h.k.below.size, h.k.dn, h.k.qn⟩, ?_, h.r6.grown hg (fun e => h.u.ne h.r6 (by decide) (by injection e)), h.b7.grown hg (fun e => h.u.ne h.b7 (by decide) (by injection e)), h.u.put hi x y, h.nb, h.ab⟩
  by_cases hne : sts = []
  · subst hne; exact .inl rfl
  · exact sl_row h.s hg fun b1 o1 e => hsB b1 o1 e hne
end

/-- Boxes of spans. -/
def SPs (l : List (Nat × Int × Int)) (w : World) : Prop := ∀ p ∈ l, Bx w p.1 40 #[I p.2.1, I p.2.2]
theorem SPs.grow {l : List (Nat × Int × Int)} {w w' : World} (h : SPs l w) (hb : Below w.heap.size w w') : SPs l w' := fun p hp => (h p hp).below hb (h p hp).lt
theorem SPs.new {l : List (Nat × Int × Int)} {w : World} (h : SPs l w) (a b : Int) : SPs ((w.heap.size, a, b) :: l) (w.alloc (.cells #[I a, I b] 40)) := fun p hp => by
  rcases List.mem_cons.1 hp with rfl | hp
  · exact Bx.new _ _ _
  · exact (h p hp).alloc _

section
variable {r : Int} {c : Nat} {ws : List Wg} {sts : List Int} {cb : Nat} {k : Nat} {t : Int} {A B : Option Addr} {w : World}
theorem LV.gapAny (V : LV r c ws sts cb) (h1 : SlW w 52 A ws) (h2 : SlI w 3 B sts) (hk : k < ws.length) (a1 : gI sts k ≤ t) (a2 : t ≤ 100000) :
    Calls Try.prog 21 #[.agg #[I r, .slice A ws.length c], .slice B sts.length cb, I (k : Int), I t] w fun e w' => e = .returned (.tuple #[Sp (if k = 0 then 0 else gapF ws sts (los ws) (gW ws k).hi t k) (if k = 0 then 0 else gapF ws sts (his ws) (gW ws k).lo t k), I (if k = 0 then 7 else 0)]) ∧ Below w.heap.size w w' := by
  by_cases h0 : k = 0
  · have h := gapP_c r A B c cb ws sts 52 3 w h1 h2 V.fit V.max.1 V.cap V.max.2 V.capb (k : Int) t
    have e : Go.Proofs.Ytgdalimggamgmab.gaE r ws sts (k : Int) t = 7 := gaE_z (V.mom hk a1 a2) (by omega)
    rw [e] at h
    unfold Go.Proofs.Ytgdalimggamgmab.gaLo Go.Proofs.Ytgdalimggamgmab.gaHi at h
    rw [e, if_neg (by decide), if_neg (by decide)] at h
    rw [if_pos h0, if_pos h0, if_pos h0]
    exact h
  · rw [if_neg h0, if_neg h0, if_neg h0]
    exact V.gap_ h1 h2 hk h0 a1 a2
theorem LV.lasts_ (V : LV r c ws sts cb) (h1 : SlW w 52 A ws) (h2 : SlI w 3 B sts) {a b g : Int} (hr : rulE a b g = 0) :
    Calls Try.prog 12 #[.agg #[I r, .slice A ws.length c], .slice B sts.length cb, .agg #[I a, I b, I g]] w fun e w' => e = .returned (.tuple #[I (verd a b (lasF r ws sts (his ws)) (lasF r ws sts (los ws))), Sp (lasF r ws sts (his ws)) (lasF r ws sts (los ws)), I 0]) ∧ Below w.heap.size w w' := by
  have h := lastsP_c r A B c cb ws sts 52 3 w h1 h2 V.fit V.max.1 V.cap V.max.2 V.capb a b g
  have e : Go.Proofs.Ytgdalimggamgmab.laE r ws sts a b g = 0 := (laE_ok V.ok).trans hr
  unfold laV laLo laHi at h
  rw [if_pos e, if_pos e, if_pos e, e] at h
  exact h
end

theorem las_le {r : Int} {c : Nat} {ws : List Wg} {sts : List Int} {cb : Nat} (V : LV r c ws sts cb) : lasF r ws sts (his ws) ≤ lasF r ws sts (los ws) := by
  have hn := V.n1
  have := passed_more (ws := ws) (sts := sts) (ps := los ws) (ps' := his ws) (i := ws.length - 1) (place := r + (gW ws (ws.length - 1)).len) fun j hj => by have := V.val.los1 (show j < ws.length by omega); omega
  unfold lasF
  omega
theorem gap_two {r : Int} {c : Nat} {ws us : List Wg} {sts : List Int} {cb : Nat} (h : Nrw ws us) (V : LV r c ws sts cb) {k : Nat} (hk : k < ws.length) {t : Int} (ht : gI sts k ≤ t) :
    (if k = 0 then 0 else gapF ws sts (los ws) (gW ws k).hi t k) ≤ (if k = 0 then 0 else gapF us sts (los us) (gW us k).hi t k) ∧ (if k = 0 then 0 else gapF us sts (his us) (gW us k).lo t k) ≤ (if k = 0 then 0 else gapF ws sts (his ws) (gW ws k).lo t k) := by
  by_cases h0 : k = 0
  · simp [h0]
  · simpa [h0] using h.gap V hk h0 ht

set_option maxRecDepth 100000 in
set_option maxHeartbeats 8000000 in
theorem narrow_c (A0 : Option Addr) (c0 : Nat) (T0 : TypeId) (zs : List Int) (w : World) (hs0 : SlI w T0 A0 zs) (hl0 : zs.length ≤ maxLen) :
    Calls Try.prog 4 #[.slice A0 zs.length c0] w (LawPost w) := by
  go_enter Try.func4, Try.ntmps4
  go_wp2_with fail
  refine (drumOf_c A0 c0 T0 zs _ hs0 hl0).mono ?_
  rintro e w1 ⟨d, rfl, hd1, hdn, hb1⟩
  go_wp2_with fail
  refine (schoolOf_c d 5 _ hd1 (by omega) (by omega)).mono ?_
  rintro e w2 ⟨r, A, c, ws, rfl, hws2, hd2, hk2, hr1, hr2, hn1, hn2, hm, hcap⟩
  have hB2 := below_of_kp hb1 hk2 hdn hb1.size
  have L3 : LK d w2.heap.size r A c ws w (w2.alloc (.cells #[I r, .slice A ws.length c] 27)) :=
    ⟨hd2.alloc _, Bx.new _ _ _, hws2.alloc _, hB2.alloc hB2.size _, hdn, hB2.size⟩
  clear hb1 hk2 hd1 hws2 hd2
  have hchk := made_chk hm hr1 hr2 hn1 (by omega)
  have hn6 : ws.length ≤ 5 := by omega
  have hc3 := L3.box.cell
  go_wp2_with fail
  refine (startsOf_c d r A c ws _ L3.dr L3.wings hm hchk).mono ?_
  rintro e w4 ⟨B, cb, sts, rfl, hsl4, hcapb, hd4, hk4, hlen, hcst, hst⟩
  have L4 := L3.kp hk4 hd4
  have V : LV r c ws sts cb := ⟨hm, hr1, hr2, hn1, by omega, hcap, hlen, hcapb, hcst, hst⟩
  clear hk4 hd4 hcst hst hlen hcapb L3
  clear hc3
  go_wp2_with fail
  refine (rulesOf_c d _ L4.dr).mono ?_
  rintro e w5 ⟨ra, rb, rg, rfl, hra1, hra2, hrb1, hrb2, hrg1, hrg2, hd5, hk5⟩
  have hrul : rulE ra rb rg = 0 := rulE_ok (by omega) (by omega) (by omega) (by omega)
  have L5 := (L4.kp hk5 hd5).alloc (.cells #[I ra, I rb, I rg] 30)
  have s5 : SlI (w5.alloc (.cells #[I ra, I rb, I rg] 30)) 3 B sts := (Sl.kp hsl4 L4.dr hk5 (by decide)).alloc _
  have x6 := Bx.new w5 30 #[I ra, I rb, I rg]
  clear hk5 hd5 L4 hsl4 hra1 hra2 hrb1 hrb2 hrg1 hrg2
  have hc5 := L5.box.cell
  go_wp2_with fail
  obtain ⟨b1, o1, rfl, hb1lt⟩ := SlW.some_ L5.wings (show 0 < ws.length by omega)
  refine (ownSchool_c r (some ⟨b1, o1, none⟩) c ws _ L5.wings (by omega) (by omega)).mono ?_
  rintro e w6 ⟨qb, c', rfl, hqb, hu6, hcap', hb6⟩
  generalize w5.heap.size = q6 at *
  have N6 : NS d w2.heap.size q6 w6.heap.size qb r (some ⟨b1, o1, none⟩) c ws B sts #[I ra, I rb, I rg] c' ws w (w6.alloc (.cells #[I r, .slice (some ⟨qb, 0, none⟩) ws.length c'] 27)) :=
    ⟨(L5.grow hb6).alloc _, (Sl.below s5 hb6 (Nat.le_refl _)).alloc _, (x6.below hb6 x6.lt).alloc _, Bx.new _ _ _, hu6.below ((Below.refl _ _).alloc (Nat.le_refl _) _), by have := L5.below.size; omega, fun b2 o2 e => by injection e with e; injection e with e1 _; omega⟩
  clear L5 s5 x6 hu6 hb6 hc5 hqb hb1lt
  go_wp2_with fail
  generalize w6.heap.size = q7 at *
  go_loopw [8] (fun i wr => ∃ (k : Nat) (us : List Wg), i = .int .i64 k ∧ k ≤ ws.length ∧ Nrw ws us ∧ NS d w2.heap.size q6 q7 qb r (some ⟨b1, o1, none⟩) c ws B sts #[I ra, I rb, I rg] c' us w wr) (fun i _ => ws.length - (intOf i).toNat)
  case atStart => exact ⟨0, ws, rfl, Nat.zero_le _, Nrw.self hm, N6⟩
  case round =>
    obtain ⟨k, us, rfl, hk, hnr, hN⟩ := hrel
    clear N6
    have hul := hnr.len
    by_cases hlt : k < ws.length
    · have hku : k < us.length := by omega
      have hc7 := hN.b7.cell
      have hpu := hnr.pace k hlt
      have hpm := V.made.at_ hlt
      obtain ⟨_, hm1, hm2, hm3, hm4, hm5, hm6⟩ := hpm
      clear hul
      go_wp2_with fail
      clear hc7
      refine wp_region_list_s (by kernel_rfl) (R := (NS d w2.heap.size q6 q7 qb r (some ⟨b1, o1, none⟩) c ws B sts #[I ra, I rb, I rg] c' us w)) (F := DF d) [] [] []
          [As.is _ _ (.pointer (some ⟨q7, 1, none⟩)),
          As.is _ _ (.slice (some ⟨qb, 0, none⟩) ws.length c'),
          As.is _ _ (I (k : Int)),
          As.is _ _ (.pointer (some ⟨d, 0, none⟩)),
          As.is _ _ (.pointer (some ⟨q7, 1, none⟩)),
          As.is _ _ (.slice (some ⟨qb, 0, none⟩) ws.length c'),
          As.is _ _ (I (k : Int)),
          As.is _ _ (.pointer (some ⟨qb, k * 4, none⟩)),
          As.is _ _ (.pointer (some ⟨qb, k * 4 + 2, none⟩)),
          As.is _ _ (Sp (gW us k).lo (gW us k).hi),
          As.pure _ _ fun v => ∃ x y : Int, v = Sp x y ∧ (gW us k).lo ≤ x ∧ x ≤ y ∧ y ≤ (gW us k).hi] 208 (by kernel_rfl) rfl (hN.grow (Below.refl _ _).drew) (by simp) (by simp) ?_ (fun _ => World.grownBy.refl _ _) ?_ ?_ ?_
      · intro i' hi' o' ho k' b' hg u w' hR hu
        match i', hi', ho with
        | 0, _, ho => cases ho; cases hg
        | 1, _, ho => cases ho; cases hg
        | 2, _, ho => cases ho; cases hg
        | 3, _, ho => cases ho; cases hg
        | 4, _, ho => cases ho; cases hg
        | 5, _, ho => cases ho; cases hg
        | 6, _, ho => cases ho; cases hg
        | 7, _, ho => cases ho; cases hg
        | 8, _, ho => cases ho; cases hg
        | 9, _, ho => cases ho; cases hg
        | 10, _, ho => cases ho; cases hg
        | n + 11, hi, _ => exact absurd hi (by simp)
      · intro i' hi' hsk; cases hsk
      · intro i' hi' hsk o' ho ev w' hR hc hf hg hs hd
        match i', hi', ho with
        | 0, _, ho =>
          clear hsk
          cases ho
          have e7 : ev (.tmp 7) = .pointer (some ⟨q7, 0, none⟩) := hs 7 (by kernel_rfl)
          go_simp
          first | exact ⟨rfl, hR, World.grownBy.refl _ _⟩ | exact ⟨⟨rfl, rfl⟩, hR, World.grownBy.refl _ _⟩ | exact ⟨⟨rfl, fun h => absurd h (by decide)⟩, hR, World.grownBy.refl _ _⟩ | exact ⟨⟨rfl, rfl, fun h => absurd h (by decide)⟩, hR, World.grownBy.refl _ _⟩
        | 1, _, ho =>
          clear hsk
          cases ho
          have e48 : ev (.tmp 48) = .pointer (some ⟨q7, 1, none⟩) := hd 0 48 (by kernel_rfl)
          have m4 := hR.b7.cell
          go_simp
          first | exact ⟨rfl, hR, World.grownBy.refl _ _⟩ | exact ⟨⟨rfl, rfl⟩, hR, World.grownBy.refl _ _⟩ | exact ⟨⟨rfl, fun h => absurd h (by decide)⟩, hR, World.grownBy.refl _ _⟩ | exact ⟨⟨rfl, rfl, fun h => absurd h (by decide)⟩, hR, World.grownBy.refl _ _⟩
        | 2, _, ho =>
          clear hsk
          cases ho
          have e8 : ev (.tmp 8) = I (k : Int) := hs 8 (by kernel_rfl)
          go_simp
          first | exact ⟨rfl, hR, World.grownBy.refl _ _⟩ | exact ⟨⟨rfl, rfl⟩, hR, World.grownBy.refl _ _⟩ | exact ⟨⟨rfl, fun h => absurd h (by decide)⟩, hR, World.grownBy.refl _ _⟩ | exact ⟨⟨rfl, rfl, fun h => absurd h (by decide)⟩, hR, World.grownBy.refl _ _⟩
        | 3, _, ho =>
          clear hsk
          cases ho
          have e3 : ev (.tmp 3) = .pointer (some ⟨d, 0, none⟩) := hs 3 (by kernel_rfl)
          go_simp
          first | exact ⟨rfl, hR, World.grownBy.refl _ _⟩ | exact ⟨⟨rfl, rfl⟩, hR, World.grownBy.refl _ _⟩ | exact ⟨⟨rfl, fun h => absurd h (by decide)⟩, hR, World.grownBy.refl _ _⟩ | exact ⟨⟨rfl, rfl, fun h => absurd h (by decide)⟩, hR, World.grownBy.refl _ _⟩
        | 4, _, ho =>
          clear hsk
          cases ho
          have e7 : ev (.tmp 7) = .pointer (some ⟨q7, 0, none⟩) := hs 7 (by kernel_rfl)
          go_simp
          first | exact ⟨rfl, hR, World.grownBy.refl _ _⟩ | exact ⟨⟨rfl, rfl⟩, hR, World.grownBy.refl _ _⟩ | exact ⟨⟨rfl, fun h => absurd h (by decide)⟩, hR, World.grownBy.refl _ _⟩ | exact ⟨⟨rfl, rfl, fun h => absurd h (by decide)⟩, hR, World.grownBy.refl _ _⟩
        | 5, _, ho =>
          clear hsk
          cases ho
          have e52 : ev (.tmp 52) = .pointer (some ⟨q7, 1, none⟩) := hd 4 52 (by kernel_rfl)
          have m4 := hR.b7.cell
          go_simp
          first | exact ⟨rfl, hR, World.grownBy.refl _ _⟩ | exact ⟨⟨rfl, rfl⟩, hR, World.grownBy.refl _ _⟩ | exact ⟨⟨rfl, fun h => absurd h (by decide)⟩, hR, World.grownBy.refl _ _⟩ | exact ⟨⟨rfl, rfl, fun h => absurd h (by decide)⟩, hR, World.grownBy.refl _ _⟩
        | 6, _, ho =>
          clear hsk
          cases ho
          have e8 : ev (.tmp 8) = I (k : Int) := hs 8 (by kernel_rfl)
          go_simp
          first | exact ⟨rfl, hR, World.grownBy.refl _ _⟩ | exact ⟨⟨rfl, rfl⟩, hR, World.grownBy.refl _ _⟩ | exact ⟨⟨rfl, fun h => absurd h (by decide)⟩, hR, World.grownBy.refl _ _⟩ | exact ⟨⟨rfl, rfl, fun h => absurd h (by decide)⟩, hR, World.grownBy.refl _ _⟩
        | 7, _, ho =>
          clear hsk
          cases ho
          have e53 : ev (.tmp 53) = .slice (some ⟨qb, 0, none⟩) ws.length c' := hd 5 53 (by kernel_rfl)
          have e54 : ev (.tmp 54) = I (k : Int) := hd 6 54 (by kernel_rfl)
          have hkl : (k : Int) < (ws.length : Int) := by omega
          go_simp
          first | exact ⟨rfl, hR, World.grownBy.refl _ _⟩ | exact ⟨⟨rfl, rfl⟩, hR, World.grownBy.refl _ _⟩ | exact ⟨⟨rfl, fun h => absurd h (by decide)⟩, hR, World.grownBy.refl _ _⟩ | exact ⟨⟨rfl, rfl, fun h => absurd h (by decide)⟩, hR, World.grownBy.refl _ _⟩
        | 8, _, ho =>
          clear hsk
          cases ho
          have e55 : ev (.tmp 55) = .pointer (some ⟨qb, k * 4, none⟩) := hd 7 55 (by kernel_rfl)
          go_simp
          first | exact ⟨rfl, hR, World.grownBy.refl _ _⟩ | exact ⟨⟨rfl, rfl⟩, hR, World.grownBy.refl _ _⟩ | exact ⟨⟨rfl, fun h => absurd h (by decide)⟩, hR, World.grownBy.refl _ _⟩ | exact ⟨⟨rfl, rfl, fun h => absurd h (by decide)⟩, hR, World.grownBy.refl _ _⟩
        | 9, _, ho =>
          clear hsk
          cases ho
          have e56 : ev (.tmp 56) = .pointer (some ⟨qb, k * 4 + 2, none⟩) := hd 8 56 (by kernel_rfl)
          have hcw := SlW.cellG hR.u.sl hku
          simp only [Nat.zero_add] at hcw
          have m1 := hcw.2.2.1
          have m2 := hcw.2.2.2
          go_simp
          first | exact ⟨rfl, hR, World.grownBy.refl _ _⟩ | exact ⟨⟨rfl, rfl⟩, hR, World.grownBy.refl _ _⟩ | exact ⟨⟨rfl, fun h => absurd h (by decide)⟩, hR, World.grownBy.refl _ _⟩ | exact ⟨⟨rfl, rfl, fun h => absurd h (by decide)⟩, hR, World.grownBy.refl _ _⟩
        | 10, _, ho =>
          clear hsk
          cases ho
          have e51 : ev (.tmp 51) = .pointer (some ⟨d, 0, none⟩) := hd 3 51 (by kernel_rfl)
          have e57 : ev (.tmp 57) = Sp (gW us k).lo (gW us k).hi := hd 9 57 (by kernel_rfl)
          go_simp
          refine (less_c d (gW us k).lo (gW us k).hi _ hR.k.dr (by omega) (by omega) (by omega)).mono ?_
          rintro e w1 ⟨x, y, rfl, hx1, hx2, hx3, hd1, hk1⟩
          first | exact ⟨⟨x, y, rfl, hx1, hx2, hx3⟩, hR.kp hk1 hd1, hk1⟩ | exact ⟨⟨rfl, ⟨x, y, rfl, hx1, hx2, hx3⟩⟩, hR.kp hk1 hd1, hk1⟩ | exact ⟨⟨⟨x, y, rfl, hx1, hx2, hx3⟩, fun h => absurd h (by decide)⟩, hR.kp hk1 hd1, hk1⟩ | exact ⟨⟨rfl, ⟨x, y, rfl, hx1, hx2, hx3⟩, fun h => absurd h (by decide)⟩, hR.kp hk1 hd1, hk1⟩
        | n + 11, hi, _ => exact absurd hi (by simp)
      intro ρ wE hR hρ hne K hK
      have p1 : ρ 1 = .slice (some ⟨qb, 0, none⟩) ws.length c' := hρ 1 (by simp)
      have p2 : ρ 2 = I (k : Int) := hρ 2 (by simp)
      obtain ⟨x, y, p10, hx1, hx2, hx3⟩ : ∃ x y : Int, ρ 10 = Sp x y ∧ (gW us k).lo ≤ x ∧ x ≤ y ∧ y ≤ (gW us k).hi := hρ 10 (by simp)
      show K (putAll _ _ ρ 11) _
      simp only [putAll, dOf, List.getElem?_toArray, List.getElem?_cons_zero, List.getElem?_cons_succ, Option.bind_some, Act.put, List.setIfInBounds_toArray, List.set_cons_zero, List.set_cons_succ]
      rw [p1, p2, p10]
      refine hK _ _ ?_
      change wpList _ _ _ [_, _, _] _ _
      clear hK K p1 p2 p10 hρ hne hN
      have hcw := SlW.cellG hR.u.sl hku
      simp only [Nat.zero_add] at hcw
      obtain ⟨_, _, m1, m2⟩ := hcw
      have hfr := hR.u.free
      have hkl : (k : Int) < (ws.length : Int) := by omega
      have hP := hR.put hku x y
      have hnr' := hnr.set hlt hx1 hx2 hx3
      clear hR
      go_wp2
      go_roundw
      case rel => exact ⟨k + 1, _, by go_num, by omega, hnr', hP⟩
      case measure => simp [intOf]; omega
    · have hkn : ¬ ((k : Int) < (ws.length : Int)) := by omega
      have hc7 := hN.b7.cell
      have hc4 := hN.k.box.cell
      clear hul
      go_wp2_with fail
      refine (roll_c d ws.length (ws.length - 1) _ hN.k.dr (by omega) (by omega) (by omega) (by omega)).mono ?_
      rintro e w7 ⟨k1, rfl, hk1, hk2, hd7, hg7⟩
      have N7 := hN.kp hg7 hd7
      clear hc4 hc7 hN hg7 hd7 hkn hlt
      obtain ⟨kw, rfl⟩ := Int.eq_ofNat_of_zero_le hk1
      have hi : kw < ws.length := by omega
      have hks : kw < sts.length := by have := V.len; omega
      have hks' : (kw : Int) < sts.length := by omega
      obtain ⟨b, o, rfl, _⟩ := SlI.some_ N7.s hks
      have hS := V.start hi
      clear hk1 hk2 hk
      go_wp2_with fail
      refine wp_region_list_s (by kernel_rfl) (R := (NS d w2.heap.size q6 q7 qb r (some ⟨b1, o1, none⟩) c ws (some ⟨b, o, none⟩) sts #[I ra, I rb, I rg] c' us w)) (F := DF d) [] [] []
          [As.is _ _ (.slice (some ⟨b, o, none⟩) sts.length cb),
          As.is _ _ (I (kw : Int)),
          As.is _ _ (.pointer (some ⟨b, o + kw, none⟩)),
          As.is _ _ (I (gI sts kw)),
          As.is _ _ (.pointer (some ⟨d, 0, none⟩)),
          asInt _ _ 0 (99),
          asInt _ _ (gI sts kw) (gI sts kw + 99),
          As.is _ _ (.pointer (some ⟨d, 0, none⟩)),
          As.is _ _ (.pointer (some ⟨w2.heap.size, 0, none⟩)),
          As.is _ _ (I r),
          As.is _ _ (I (r + 1)),
          asInt _ _ 0 (r),
          asInt _ _ (gI sts kw) (gI sts kw + 99),
          asInt _ _ 0 (r)] 208 (by kernel_rfl) rfl (N7.grow (Below.refl _ _).drew) (by simp) (by simp) ?_ (fun _ => World.grownBy.refl _ _) ?_ ?_ ?_
      · intro i' hi' o' ho k' b' hg u w' hR hu
        match i', hi', ho with
        | 0, _, ho => cases ho; cases hg
        | 1, _, ho => cases ho; cases hg
        | 2, _, ho => cases ho; cases hg
        | 3, _, ho => cases ho; cases hg
        | 4, _, ho => cases ho; cases hg
        | 5, _, ho => cases ho; cases hg
        | 6, _, ho => cases ho; cases hg
        | 7, _, ho => cases ho; cases hg
        | 8, _, ho => cases ho; cases hg
        | 9, _, ho => cases ho; cases hg
        | 10, _, ho => cases ho; cases hg
        | 11, _, ho => cases ho; cases hg
        | 12, _, ho => cases ho; cases hg
        | 13, _, ho => cases ho; cases hg
        | n + 14, hi, _ => exact absurd hi (by simp)
      · intro i' hi' hsk; cases hsk
      · intro i' hi' hsk o' ho ev w' hR hc hf hg hs hd
        match i', hi', ho with
        | 0, _, ho =>
          clear hsk
          cases ho
          have e5 : ev (.tmp 5) = .slice (some ⟨b, o, none⟩) sts.length cb := hs 5 (by kernel_rfl)
          go_simp
          first | exact ⟨rfl, hR, World.grownBy.refl _ _⟩ | exact ⟨⟨rfl, rfl⟩, hR, World.grownBy.refl _ _⟩ | exact ⟨⟨rfl, fun h => absurd h (by decide)⟩, hR, World.grownBy.refl _ _⟩ | exact ⟨⟨rfl, rfl, fun h => absurd h (by decide)⟩, hR, World.grownBy.refl _ _⟩
        | 1, _, ho =>
          clear hsk
          cases ho
          have e9 : ev (.tmp 9) = I (kw : Int) := hs 9 (by kernel_rfl)
          go_simp
          first | exact ⟨rfl, hR, World.grownBy.refl _ _⟩ | exact ⟨⟨rfl, rfl⟩, hR, World.grownBy.refl _ _⟩ | exact ⟨⟨rfl, fun h => absurd h (by decide)⟩, hR, World.grownBy.refl _ _⟩ | exact ⟨⟨rfl, rfl, fun h => absurd h (by decide)⟩, hR, World.grownBy.refl _ _⟩
        | 2, _, ho =>
          clear hsk
          cases ho
          have e66 : ev (.tmp 66) = .slice (some ⟨b, o, none⟩) sts.length cb := hd 0 66 (by kernel_rfl)
          have e67 : ev (.tmp 67) = I (kw : Int) := hd 1 67 (by kernel_rfl)
          go_simp
          first | exact ⟨rfl, hR, World.grownBy.refl _ _⟩ | exact ⟨⟨rfl, rfl⟩, hR, World.grownBy.refl _ _⟩ | exact ⟨⟨rfl, fun h => absurd h (by decide)⟩, hR, World.grownBy.refl _ _⟩ | exact ⟨⟨rfl, rfl, fun h => absurd h (by decide)⟩, hR, World.grownBy.refl _ _⟩
        | 3, _, ho =>
          clear hsk
          cases ho
          have e68 : ev (.tmp 68) = .pointer (some ⟨b, o + kw, none⟩) := hd 2 68 (by kernel_rfl)
          have hcl : w'.cell? ⟨b, o + kw, none⟩ = some (I (gI sts kw)) := SlI.cellG hR.s hks
          go_simp
          first | exact ⟨rfl, hR, World.grownBy.refl _ _⟩ | exact ⟨⟨rfl, rfl⟩, hR, World.grownBy.refl _ _⟩ | exact ⟨⟨rfl, fun h => absurd h (by decide)⟩, hR, World.grownBy.refl _ _⟩ | exact ⟨⟨rfl, rfl, fun h => absurd h (by decide)⟩, hR, World.grownBy.refl _ _⟩
        | 4, _, ho =>
          clear hsk
          cases ho
          have e3 : ev (.tmp 3) = .pointer (some ⟨d, 0, none⟩) := hs 3 (by kernel_rfl)
          go_simp
          first | exact ⟨rfl, hR, World.grownBy.refl _ _⟩ | exact ⟨⟨rfl, rfl⟩, hR, World.grownBy.refl _ _⟩ | exact ⟨⟨rfl, fun h => absurd h (by decide)⟩, hR, World.grownBy.refl _ _⟩ | exact ⟨⟨rfl, rfl, fun h => absurd h (by decide)⟩, hR, World.grownBy.refl _ _⟩
        | 5, _, ho =>
          clear hsk
          cases ho
          have e70 : ev (.tmp 70) = .pointer (some ⟨d, 0, none⟩) := hd 4 70 (by kernel_rfl)
          go_simp
          refine (roll_c d (100) (99) _ hR.k.dr (by omega) (by omega) (by omega) (by omega)).mono ?_
          rintro e w1 ⟨y, rfl, hr1', hr2', hd1, hk1⟩
          first | exact ⟨⟨y, rfl, hr1', hr2'⟩, hR.kp hk1 hd1, hk1⟩ | exact ⟨⟨rfl, ⟨y, rfl, hr1', hr2'⟩⟩, hR.kp hk1 hd1, hk1⟩ | exact ⟨⟨⟨y, rfl, hr1', hr2'⟩, fun h => absurd h (by decide)⟩, hR.kp hk1 hd1, hk1⟩ | exact ⟨⟨rfl, ⟨y, rfl, hr1', hr2'⟩, fun h => absurd h (by decide)⟩, hR.kp hk1 hd1, hk1⟩
        | 6, _, ho =>
          clear hsk
          cases ho
          have e69 : ev (.tmp 69) = I (gI sts kw) := hd 3 69 (by kernel_rfl)
          obtain ⟨x71, e71, hx711, hx712⟩ : ∃ r' : Int, ev (.tmp 71) = I r' ∧ 0 ≤ r' ∧ r' ≤ 99 := hd 5 71 (by kernel_rfl)
          have ew : IntKind.i64.wrap (gI sts kw + x71) = gI sts kw + x71 := IntWalk.i64_in _ (by omega)
          go_simp
          clear ew
          first | exact ⟨⟨_, rfl, by omega, by omega⟩, hR, World.grownBy.refl _ _⟩ | exact ⟨⟨rfl, ⟨_, rfl, by omega, by omega⟩⟩, hR, World.grownBy.refl _ _⟩ | exact ⟨⟨⟨_, rfl, by omega, by omega⟩, fun h => absurd h (by decide)⟩, hR, World.grownBy.refl _ _⟩ | exact ⟨⟨rfl, ⟨_, rfl, by omega, by omega⟩, fun h => absurd h (by decide)⟩, hR, World.grownBy.refl _ _⟩
        | 7, _, ho =>
          clear hsk
          cases ho
          have e3 : ev (.tmp 3) = .pointer (some ⟨d, 0, none⟩) := hs 3 (by kernel_rfl)
          go_simp
          first | exact ⟨rfl, hR, World.grownBy.refl _ _⟩ | exact ⟨⟨rfl, rfl⟩, hR, World.grownBy.refl _ _⟩ | exact ⟨⟨rfl, fun h => absurd h (by decide)⟩, hR, World.grownBy.refl _ _⟩ | exact ⟨⟨rfl, rfl, fun h => absurd h (by decide)⟩, hR, World.grownBy.refl _ _⟩
        | 8, _, ho =>
          clear hsk
          cases ho
          have e4 : ev (.tmp 4) = .pointer (some ⟨w2.heap.size, 0, none⟩) := hs 4 (by kernel_rfl)
          go_simp
          first | exact ⟨rfl, hR, World.grownBy.refl _ _⟩ | exact ⟨⟨rfl, rfl⟩, hR, World.grownBy.refl _ _⟩ | exact ⟨⟨rfl, fun h => absurd h (by decide)⟩, hR, World.grownBy.refl _ _⟩ | exact ⟨⟨rfl, rfl, fun h => absurd h (by decide)⟩, hR, World.grownBy.refl _ _⟩
        | 9, _, ho =>
          clear hsk
          cases ho
          have e74 : ev (.tmp 74) = .pointer (some ⟨w2.heap.size, 0, none⟩) := hd 8 74 (by kernel_rfl)
          have m4 := hR.k.box.cell
          go_simp
          first | exact ⟨rfl, hR, World.grownBy.refl _ _⟩ | exact ⟨⟨rfl, rfl⟩, hR, World.grownBy.refl _ _⟩ | exact ⟨⟨rfl, fun h => absurd h (by decide)⟩, hR, World.grownBy.refl _ _⟩ | exact ⟨⟨rfl, rfl, fun h => absurd h (by decide)⟩, hR, World.grownBy.refl _ _⟩
        | 10, _, ho =>
          clear hsk
          cases ho
          have e75 : ev (.tmp 75) = I r := hd 9 75 (by kernel_rfl)
          have ew : IntKind.i64.wrap (r + 1) = r + 1 := IntWalk.i64_in _ (by omega)
          go_simp
          first | exact ⟨rfl, hR, World.grownBy.refl _ _⟩ | exact ⟨⟨rfl, rfl⟩, hR, World.grownBy.refl _ _⟩ | exact ⟨⟨rfl, fun h => absurd h (by decide)⟩, hR, World.grownBy.refl _ _⟩ | exact ⟨⟨rfl, rfl, fun h => absurd h (by decide)⟩, hR, World.grownBy.refl _ _⟩
        | 11, _, ho =>
          clear hsk
          cases ho
          have e73 : ev (.tmp 73) = .pointer (some ⟨d, 0, none⟩) := hd 7 73 (by kernel_rfl)
          have e76 : ev (.tmp 76) = I (r + 1) := hd 10 76 (by kernel_rfl)
          go_simp
          refine (roll_c d (r + 1) (r) _ hR.k.dr (by omega) (by omega) (by omega) (by omega)).mono ?_
          rintro e w1 ⟨y, rfl, hr1', hr2', hd1, hk1⟩
          first | exact ⟨⟨y, rfl, hr1', hr2'⟩, hR.kp hk1 hd1, hk1⟩ | exact ⟨⟨rfl, ⟨y, rfl, hr1', hr2'⟩⟩, hR.kp hk1 hd1, hk1⟩ | exact ⟨⟨⟨y, rfl, hr1', hr2'⟩, fun h => absurd h (by decide)⟩, hR.kp hk1 hd1, hk1⟩ | exact ⟨⟨rfl, ⟨y, rfl, hr1', hr2'⟩, fun h => absurd h (by decide)⟩, hR.kp hk1 hd1, hk1⟩
        | 12, _, ho =>
          clear hsk
          cases ho
          obtain ⟨y72, e72, hy721, hy722⟩ : ∃ r' : Int, ev (.tmp 72) = I r' ∧ gI sts kw ≤ r' ∧ r' ≤ gI sts kw + 99 := hd 6 72 (by kernel_rfl)
          go_simp
          first | exact ⟨⟨y72, rfl, hy721, hy722⟩, hR, World.grownBy.refl _ _⟩ | exact ⟨⟨rfl, ⟨y72, rfl, hy721, hy722⟩⟩, hR, World.grownBy.refl _ _⟩ | exact ⟨⟨⟨y72, rfl, hy721, hy722⟩, fun h => absurd h (by decide)⟩, hR, World.grownBy.refl _ _⟩ | exact ⟨⟨rfl, ⟨y72, rfl, hy721, hy722⟩, fun h => absurd h (by decide)⟩, hR, World.grownBy.refl _ _⟩
        | 13, _, ho =>
          clear hsk
          cases ho
          obtain ⟨x77, e77, hx771, hx772⟩ : ∃ r' : Int, ev (.tmp 77) = I r' ∧ 0 ≤ r' ∧ r' ≤ r := hd 11 77 (by kernel_rfl)
          go_simp
          first | exact ⟨⟨x77, rfl, hx771, hx772⟩, hR, World.grownBy.refl _ _⟩ | exact ⟨⟨rfl, ⟨x77, rfl, hx771, hx772⟩⟩, hR, World.grownBy.refl _ _⟩ | exact ⟨⟨⟨x77, rfl, hx771, hx772⟩, fun h => absurd h (by decide)⟩, hR, World.grownBy.refl _ _⟩ | exact ⟨⟨rfl, ⟨x77, rfl, hx771, hx772⟩, fun h => absurd h (by decide)⟩, hR, World.grownBy.refl _ _⟩
        | n + 14, hi, _ => exact absurd hi (by simp)
      intro ρ wE hR hρ hne K hK
      obtain ⟨t, p12, ht1, ht2⟩ : ∃ r' : Int, ρ 12 = I r' ∧ gI sts kw ≤ r' ∧ r' ≤ gI sts kw + 99 := hρ 12 (by simp)
      obtain ⟨p, p13, hp1, hp2⟩ : ∃ r' : Int, ρ 13 = I r' ∧ 0 ≤ r' ∧ r' ≤ r := hρ 13 (by simp)
      show K (putAll _ _ ρ 14) _
      simp only [putAll, dOf, List.getElem?_toArray, List.getElem?_cons_zero, List.getElem?_cons_succ, Option.bind_some, Act.put, List.setIfInBounds_toArray, List.set_cons_zero, List.set_cons_succ]
      rw [p12, p13]
      refine hK _ _ ?_
      change wpList _ _ _ [] _ _
      clear hK K p12 p13 hρ hne
      have Vu : LV r c' us sts cb := hnr.lv V (by have := hnr.len; omega)
      have hul := hnr.len
      have hiu : kw < us.length := by omega
      have F1 := hnr.front V hi ht1
      have F2 := hnr.passed V hi (p := p)
      have F3 := hnr.lasts V
      have F4 := gap_two hnr V hi ht1
      have F5 := verd_less (a := ra) (b := rb) F3.1 (las_le Vu) F3.2
      obtain ⟨ge, hge⟩ : ∃ ge : Int, (if kw = 0 then (7 : Int) else 0) = ge := ⟨_, rfl⟩
      have HG := Lib.hid hge
      clear hge
      have S8 : SPs [] wE := fun p hp => by cases hp
      have N8 := hR
      clear hR N7
      have cc := V.where_ N8.k.wings N8.s hi (t := t) (by omega) (by omega)
      have hcb := N8.k.box.cell
      clear hul
      generalize hlo : front ws sts (los ws) t kw = loa at *
      generalize hhi : front ws sts (his ws) t kw = hia at *
      clear hlo hhi
      go_wp2_with fail
      refine cc.mono ?_
      rintro e wa ⟨rfl, hba⟩
      have Mma := (N8.grow hba).grow ((Below.refl _ _).alloc (Nat.le_refl _) (.cells #[I loa, I hia] 40))
      have Ssa := (S8.grow hba).new loa hia
      clear cc hcb hba N8 S8
      have hul := hnr.len
      have cc := Vu.where_ Mma.u.sl Mma.s hiu (t := t) (by omega) (by omega)
      rw [hul] at cc
      have hcb := Mma.b7.cell
      clear hul
      generalize hlo : front us sts (los us) t kw = lob at *
      generalize hhi : front us sts (his us) t kw = hib at *
      clear hlo hhi
      go_wp2_with fail
      refine cc.mono ?_
      rintro e wb ⟨rfl, hbb⟩
      have Mmb := (Mma.grow hbb).grow ((Below.refl _ _).alloc (Nat.le_refl _) (.cells #[I lob, I hib] 40))
      have Ssb := (Ssa.grow hbb).new lob hib
      clear cc hcb hbb Mma Ssa
      have hul := hnr.len
      have cc := V.passes_ Mmb.k.wings Mmb.s hi (t := p) (by omega) (by omega)
      have hcb := Mmb.k.box.cell
      clear hul
      generalize hlo : passed ws sts (his ws) kw p = loc at *
      generalize hhi : passed ws sts (los ws) kw p = hic at *
      clear hlo hhi
      go_wp2_with fail
      refine cc.mono ?_
      rintro e wc ⟨rfl, hbc⟩
      have Mmc := (Mmb.grow hbc).grow ((Below.refl _ _).alloc (Nat.le_refl _) (.cells #[I loc, I hic] 40))
      have Ssc := (Ssb.grow hbc).new loc hic
      clear cc hcb hbc Mmb Ssb
      have hul := hnr.len
      have cc := Vu.passes_ Mmc.u.sl Mmc.s hiu (t := p) (by omega) (by omega)
      rw [hul] at cc
      have hcb := Mmc.b7.cell
      clear hul
      generalize hlo : passed us sts (his us) kw p = lod at *
      generalize hhi : passed us sts (los us) kw p = hid at *
      clear hlo hhi
      go_wp2_with fail
      refine cc.mono ?_
      rintro e wd ⟨rfl, hbd⟩
      have Mmd := (Mmc.grow hbd).grow ((Below.refl _ _).alloc (Nat.le_refl _) (.cells #[I lod, I hid] 40))
      have Ssd := (Ssc.grow hbd).new lod hid
      clear cc hcb hbd Mmc Ssc
      have hul := hnr.len
      have cc := V.lasts_ Mmd.k.wings Mmd.s hrul
      have hcb := Mmd.k.box.cell
      have hcr := Mmd.r6.cell
      clear hul
      generalize verd ra rb (lasF r ws sts (his ws)) (lasF r ws sts (los ws)) = v1 at *
      generalize hlo : lasF r ws sts (his ws) = loe at *
      generalize hhi : lasF r ws sts (los ws) = hie at *
      clear hlo hhi
      go_wp2_with fail
      refine cc.mono ?_
      rintro e we ⟨rfl, hbe⟩
      have Mme := (Mmd.grow hbe).grow ((Below.refl _ _).alloc (Nat.le_refl _) (.cells #[I loe, I hie] 40))
      have Sse := (Ssd.grow hbe).new loe hie
      clear cc hcb hbe Mmd Ssd hcr
      have hul := hnr.len
      have cc := Vu.lasts_ Mme.u.sl Mme.s hrul
      rw [hul] at cc
      have hcb := Mme.b7.cell
      have hcr := Mme.r6.cell
      clear hul
      generalize verd ra rb (lasF r us sts (his us)) (lasF r us sts (los us)) = v2 at *
      generalize hlo : lasF r us sts (his us) = lof at *
      generalize hhi : lasF r us sts (los us) = hif at *
      clear hlo hhi
      go_wp2_with fail
      refine cc.mono ?_
      rintro e wf ⟨rfl, hbf⟩
      have Mmf := (Mme.grow hbf).grow ((Below.refl _ _).alloc (Nat.le_refl _) (.cells #[I lof, I hif] 40))
      have Ssf := (Sse.grow hbf).new lof hif
      clear cc hcb hbf Mme Sse hcr
      have hul := hnr.len
      have cc := V.gapAny Mmf.k.wings Mmf.s hi (t := t) (by omega) (by omega)
      rw [HG.out] at cc
      have hcb := Mmf.k.box.cell
      clear hul
      generalize hlo : (if kw = 0 then 0 else gapF ws sts (los ws) (gW ws kw).hi t kw) = log at *
      generalize hhi : (if kw = 0 then 0 else gapF ws sts (his ws) (gW ws kw).lo t kw) = hig at *
      clear hlo hhi
      go_wp2_with fail
      refine cc.mono ?_
      rintro e wg ⟨rfl, hbg⟩
      have Mmg := (Mmf.grow hbg).grow ((Below.refl _ _).alloc (Nat.le_refl _) (.cells #[I log, I hig] 40))
      have Ssg := (Ssf.grow hbg).new log hig
      clear cc hcb hbg Mmf Ssf
      have hul := hnr.len
      have cc := Vu.gapAny Mmg.u.sl Mmg.s hiu (t := t) (by omega) (by omega)
      rw [hul] at cc
      rw [HG.out] at cc
      have hcb := Mmg.b7.cell
      clear hul
      generalize hlo : (if kw = 0 then 0 else gapF us sts (los us) (gW us kw).hi t kw) = loh at *
      generalize hhi : (if kw = 0 then 0 else gapF us sts (his us) (gW us kw).lo t kw) = hih at *
      clear hlo hhi
      go_wp2_with fail
      refine cc.mono ?_
      rintro e wh ⟨rfl, hbh⟩
      have NZ := (Mmg.grow hbh).grow ((Below.refl _ _).alloc (Nat.le_refl _) (.cells #[I loh, I hih] 40))
      have Ssh := (Ssg.grow hbh).new loh hih
      clear cc hcb hbh Mmg Ssg
      have hul := hnr.len
      clear hul
      have hIn : ∀ (W : World) (a b c d : Int), Below w.heap.size w W → c ≤ a → b ≤ d → Calls Try.prog 22 #[Sp a b, Sp c d] W fun e w' => e = .returned (.bool true) ∧ Below W.heap.size W w' := fun W a b c d _ h1 h2 => inside_c a b c d W h1 h2
      obtain ⟨f11, f12⟩ := F1
      obtain ⟨f21, f22⟩ := F2
      obtain ⟨f31, f32⟩ := F3
      obtain ⟨f41, f42⟩ := F4
      have hB := NZ.k.below
      clear NZ
      by_cases hk0 : kw = 0
      · have g0 : (if kw = 0 then (7 : Int) else 0) = 7 := if_pos hk0
        have g1 : decide (0 < (kw : Int)) = false := by simp [hk0]
        have g4 : (ge == 0) = false := by rw [← HG.out, g0]; rfl
        clear g0 HG
        by_cases h3 : v1 = 3
        · have g2 : (v1 == 3) = true := by simp [h3]
          clear F5 h3
          have ya := (Ssh (wa.heap.size, loa, hia) (by simp)).cell
          have yb := (Ssh (wb.heap.size, lob, hib) (by simp)).cell
          have yc := (Ssh (wc.heap.size, loc, hic) (by simp)).cell
          have yd := (Ssh (wd.heap.size, lod, hid) (by simp)).cell
          have ye := (Ssh (we.heap.size, loe, hie) (by simp)).cell
          have yf := (Ssh (wf.heap.size, lof, hif) (by simp)).cell
          have yg := (Ssh (wg.heap.size, log, hig) (by simp)).cell
          have yh := (Ssh (wh.heap.size, loh, hih) (by simp)).cell
          simp only [] at ya yb yc yd ye yf yg yh
          go_wp2_with fail
          refine (hIn _ lob hib loa hia hB (by assumption) (by assumption)).mono ?_
          rintro e wi0 ⟨rfl, hbi0⟩
          have S0 := Ssh.grow hbi0
          have hB0 := hB.trans (hbi0.mono hB.size)
          clear ya yb yc yd ye yf yg yh Ssh hbi0
          have ya := (S0 (wa.heap.size, loa, hia) (by simp)).cell
          have yb := (S0 (wb.heap.size, lob, hib) (by simp)).cell
          have yc := (S0 (wc.heap.size, loc, hic) (by simp)).cell
          have yd := (S0 (wd.heap.size, lod, hid) (by simp)).cell
          have ye := (S0 (we.heap.size, loe, hie) (by simp)).cell
          have yf := (S0 (wf.heap.size, lof, hif) (by simp)).cell
          have yg := (S0 (wg.heap.size, log, hig) (by simp)).cell
          have yh := (S0 (wh.heap.size, loh, hih) (by simp)).cell
          simp only [] at ya yb yc yd ye yf yg yh
          go_wp2_with fail
          refine (hIn _ lod hid loc hic hB0 (by assumption) (by assumption)).mono ?_
          rintro e wi1 ⟨rfl, hbi1⟩
          have S1 := S0.grow hbi1
          have hB1 := hB0.trans (hbi1.mono hB0.size)
          clear ya yb yc yd ye yf yg yh S0 hbi1
          have ya := (S1 (wa.heap.size, loa, hia) (by simp)).cell
          have yb := (S1 (wb.heap.size, lob, hib) (by simp)).cell
          have yc := (S1 (wc.heap.size, loc, hic) (by simp)).cell
          have yd := (S1 (wd.heap.size, lod, hid) (by simp)).cell
          have ye := (S1 (we.heap.size, loe, hie) (by simp)).cell
          have yf := (S1 (wf.heap.size, lof, hif) (by simp)).cell
          have yg := (S1 (wg.heap.size, log, hig) (by simp)).cell
          have yh := (S1 (wh.heap.size, loh, hih) (by simp)).cell
          simp only [] at ya yb yc yd ye yf yg yh
          go_wp2_with fail
          refine (hIn _ lof hif loe hie hB1 (by assumption) (by assumption)).mono ?_
          rintro e wi2 ⟨rfl, hbi2⟩
          have S2 := S1.grow hbi2
          have hB2 := hB1.trans (hbi2.mono hB1.size)
          clear ya yb yc yd ye yf yg yh S1 hbi2
          have ya := (S2 (wa.heap.size, loa, hia) (by simp)).cell
          have yb := (S2 (wb.heap.size, lob, hib) (by simp)).cell
          have yc := (S2 (wc.heap.size, loc, hic) (by simp)).cell
          have yd := (S2 (wd.heap.size, lod, hid) (by simp)).cell
          have ye := (S2 (we.heap.size, loe, hie) (by simp)).cell
          have yf := (S2 (wf.heap.size, lof, hif) (by simp)).cell
          have yg := (S2 (wg.heap.size, log, hig) (by simp)).cell
          have yh := (S2 (wh.heap.size, loh, hih) (by simp)).cell
          simp only [] at ya yb yc yd ye yf yg yh
          go_wp2_with fail
          refine (hIn _ loh hih log hig hB2 (by assumption) (by assumption)).mono ?_
          rintro e wi3 ⟨rfl, hbi3⟩
          have S3 := S2.grow hbi3
          have hB3 := hB2.trans (hbi3.mono hB2.size)
          clear ya yb yc yd ye yf yg yh S2 hbi3
          go_wp2_with fail
          refine (awake_c _).mono ?_
          rintro e w20 ⟨rfl, hb20⟩
          have hBz := hB3.trans (hb20.mono hB3.size)
          clear hb20 S3
          go_wp2
          go_ret
          exact ⟨rfl, hBz⟩
        · have g2 : (v1 == 3) = false := by simp [h3]
          have g3 : (v1 == v2) = true := by simpa using F5.resolve_left h3
          clear F5 h3
          have ya := (Ssh (wa.heap.size, loa, hia) (by simp)).cell
          have yb := (Ssh (wb.heap.size, lob, hib) (by simp)).cell
          have yc := (Ssh (wc.heap.size, loc, hic) (by simp)).cell
          have yd := (Ssh (wd.heap.size, lod, hid) (by simp)).cell
          have ye := (Ssh (we.heap.size, loe, hie) (by simp)).cell
          have yf := (Ssh (wf.heap.size, lof, hif) (by simp)).cell
          have yg := (Ssh (wg.heap.size, log, hig) (by simp)).cell
          have yh := (Ssh (wh.heap.size, loh, hih) (by simp)).cell
          simp only [] at ya yb yc yd ye yf yg yh
          go_wp2_with fail
          refine (hIn _ lob hib loa hia hB (by assumption) (by assumption)).mono ?_
          rintro e wi0 ⟨rfl, hbi0⟩
          have S0 := Ssh.grow hbi0
          have hB0 := hB.trans (hbi0.mono hB.size)
          clear ya yb yc yd ye yf yg yh Ssh hbi0
          have ya := (S0 (wa.heap.size, loa, hia) (by simp)).cell
          have yb := (S0 (wb.heap.size, lob, hib) (by simp)).cell
          have yc := (S0 (wc.heap.size, loc, hic) (by simp)).cell
          have yd := (S0 (wd.heap.size, lod, hid) (by simp)).cell
          have ye := (S0 (we.heap.size, loe, hie) (by simp)).cell
          have yf := (S0 (wf.heap.size, lof, hif) (by simp)).cell
          have yg := (S0 (wg.heap.size, log, hig) (by simp)).cell
          have yh := (S0 (wh.heap.size, loh, hih) (by simp)).cell
          simp only [] at ya yb yc yd ye yf yg yh
          go_wp2_with fail
          refine (hIn _ lod hid loc hic hB0 (by assumption) (by assumption)).mono ?_
          rintro e wi1 ⟨rfl, hbi1⟩
          have S1 := S0.grow hbi1
          have hB1 := hB0.trans (hbi1.mono hB0.size)
          clear ya yb yc yd ye yf yg yh S0 hbi1
          have ya := (S1 (wa.heap.size, loa, hia) (by simp)).cell
          have yb := (S1 (wb.heap.size, lob, hib) (by simp)).cell
          have yc := (S1 (wc.heap.size, loc, hic) (by simp)).cell
          have yd := (S1 (wd.heap.size, lod, hid) (by simp)).cell
          have ye := (S1 (we.heap.size, loe, hie) (by simp)).cell
          have yf := (S1 (wf.heap.size, lof, hif) (by simp)).cell
          have yg := (S1 (wg.heap.size, log, hig) (by simp)).cell
          have yh := (S1 (wh.heap.size, loh, hih) (by simp)).cell
          simp only [] at ya yb yc yd ye yf yg yh
          go_wp2_with fail
          refine (hIn _ lof hif loe hie hB1 (by assumption) (by assumption)).mono ?_
          rintro e wi2 ⟨rfl, hbi2⟩
          have S2 := S1.grow hbi2
          have hB2 := hB1.trans (hbi2.mono hB1.size)
          clear ya yb yc yd ye yf yg yh S1 hbi2
          have ya := (S2 (wa.heap.size, loa, hia) (by simp)).cell
          have yb := (S2 (wb.heap.size, lob, hib) (by simp)).cell
          have yc := (S2 (wc.heap.size, loc, hic) (by simp)).cell
          have yd := (S2 (wd.heap.size, lod, hid) (by simp)).cell
          have ye := (S2 (we.heap.size, loe, hie) (by simp)).cell
          have yf := (S2 (wf.heap.size, lof, hif) (by simp)).cell
          have yg := (S2 (wg.heap.size, log, hig) (by simp)).cell
          have yh := (S2 (wh.heap.size, loh, hih) (by simp)).cell
          simp only [] at ya yb yc yd ye yf yg yh
          go_wp2_with fail
          refine (hIn _ loh hih log hig hB2 (by assumption) (by assumption)).mono ?_
          rintro e wi3 ⟨rfl, hbi3⟩
          have S3 := S2.grow hbi3
          have hB3 := hB2.trans (hbi3.mono hB2.size)
          clear ya yb yc yd ye yf yg yh S2 hbi3
          go_wp2_with fail
          refine (awake_c _).mono ?_
          rintro e w20 ⟨rfl, hb20⟩
          have hBz := hB3.trans (hb20.mono hB3.size)
          clear hb20 S3
          go_wp2
          go_ret
          exact ⟨rfl, hBz⟩
      · have g0 : (if kw = 0 then (7 : Int) else 0) = 0 := if_neg hk0
        have g1 : decide (0 < (kw : Int)) = true := by simp; omega
        have g4 : (ge == 0) = true := by rw [← HG.out, g0]; rfl
        clear g0 HG
        by_cases h3 : v1 = 3
        · have g2 : (v1 == 3) = true := by simp [h3]
          clear F5 h3
          have ya := (Ssh (wa.heap.size, loa, hia) (by simp)).cell
          have yb := (Ssh (wb.heap.size, lob, hib) (by simp)).cell
          have yc := (Ssh (wc.heap.size, loc, hic) (by simp)).cell
          have yd := (Ssh (wd.heap.size, lod, hid) (by simp)).cell
          have ye := (Ssh (we.heap.size, loe, hie) (by simp)).cell
          have yf := (Ssh (wf.heap.size, lof, hif) (by simp)).cell
          have yg := (Ssh (wg.heap.size, log, hig) (by simp)).cell
          have yh := (Ssh (wh.heap.size, loh, hih) (by simp)).cell
          simp only [] at ya yb yc yd ye yf yg yh
          go_wp2_with fail
          refine (hIn _ lob hib loa hia hB (by assumption) (by assumption)).mono ?_
          rintro e wi0 ⟨rfl, hbi0⟩
          have S0 := Ssh.grow hbi0
          have hB0 := hB.trans (hbi0.mono hB.size)
          clear ya yb yc yd ye yf yg yh Ssh hbi0
          have ya := (S0 (wa.heap.size, loa, hia) (by simp)).cell
          have yb := (S0 (wb.heap.size, lob, hib) (by simp)).cell
          have yc := (S0 (wc.heap.size, loc, hic) (by simp)).cell
          have yd := (S0 (wd.heap.size, lod, hid) (by simp)).cell
          have ye := (S0 (we.heap.size, loe, hie) (by simp)).cell
          have yf := (S0 (wf.heap.size, lof, hif) (by simp)).cell
          have yg := (S0 (wg.heap.size, log, hig) (by simp)).cell
          have yh := (S0 (wh.heap.size, loh, hih) (by simp)).cell
          simp only [] at ya yb yc yd ye yf yg yh
          go_wp2_with fail
          refine (hIn _ lod hid loc hic hB0 (by assumption) (by assumption)).mono ?_
          rintro e wi1 ⟨rfl, hbi1⟩
          have S1 := S0.grow hbi1
          have hB1 := hB0.trans (hbi1.mono hB0.size)
          clear ya yb yc yd ye yf yg yh S0 hbi1
          have ya := (S1 (wa.heap.size, loa, hia) (by simp)).cell
          have yb := (S1 (wb.heap.size, lob, hib) (by simp)).cell
          have yc := (S1 (wc.heap.size, loc, hic) (by simp)).cell
          have yd := (S1 (wd.heap.size, lod, hid) (by simp)).cell
          have ye := (S1 (we.heap.size, loe, hie) (by simp)).cell
          have yf := (S1 (wf.heap.size, lof, hif) (by simp)).cell
          have yg := (S1 (wg.heap.size, log, hig) (by simp)).cell
          have yh := (S1 (wh.heap.size, loh, hih) (by simp)).cell
          simp only [] at ya yb yc yd ye yf yg yh
          go_wp2_with fail
          refine (hIn _ lof hif loe hie hB1 (by assumption) (by assumption)).mono ?_
          rintro e wi2 ⟨rfl, hbi2⟩
          have S2 := S1.grow hbi2
          have hB2 := hB1.trans (hbi2.mono hB1.size)
          clear ya yb yc yd ye yf yg yh S1 hbi2
          have ya := (S2 (wa.heap.size, loa, hia) (by simp)).cell
          have yb := (S2 (wb.heap.size, lob, hib) (by simp)).cell
          have yc := (S2 (wc.heap.size, loc, hic) (by simp)).cell
          have yd := (S2 (wd.heap.size, lod, hid) (by simp)).cell
          have ye := (S2 (we.heap.size, loe, hie) (by simp)).cell
          have yf := (S2 (wf.heap.size, lof, hif) (by simp)).cell
          have yg := (S2 (wg.heap.size, log, hig) (by simp)).cell
          have yh := (S2 (wh.heap.size, loh, hih) (by simp)).cell
          simp only [] at ya yb yc yd ye yf yg yh
          go_wp2_with fail
          refine (hIn _ loh hih log hig hB2 (by assumption) (by assumption)).mono ?_
          rintro e wi3 ⟨rfl, hbi3⟩
          have S3 := S2.grow hbi3
          have hB3 := hB2.trans (hbi3.mono hB2.size)
          clear ya yb yc yd ye yf yg yh S2 hbi3
          go_wp2_with fail
          refine (awake_c _).mono ?_
          rintro e w20 ⟨rfl, hb20⟩
          have hBz := hB3.trans (hb20.mono hB3.size)
          clear hb20 S3
          go_wp2
          go_ret
          exact ⟨rfl, hBz⟩
        · have g2 : (v1 == 3) = false := by simp [h3]
          have g3 : (v1 == v2) = true := by simpa using F5.resolve_left h3
          clear F5 h3
          have ya := (Ssh (wa.heap.size, loa, hia) (by simp)).cell
          have yb := (Ssh (wb.heap.size, lob, hib) (by simp)).cell
          have yc := (Ssh (wc.heap.size, loc, hic) (by simp)).cell
          have yd := (Ssh (wd.heap.size, lod, hid) (by simp)).cell
          have ye := (Ssh (we.heap.size, loe, hie) (by simp)).cell
          have yf := (Ssh (wf.heap.size, lof, hif) (by simp)).cell
          have yg := (Ssh (wg.heap.size, log, hig) (by simp)).cell
          have yh := (Ssh (wh.heap.size, loh, hih) (by simp)).cell
          simp only [] at ya yb yc yd ye yf yg yh
          go_wp2_with fail
          refine (hIn _ lob hib loa hia hB (by assumption) (by assumption)).mono ?_
          rintro e wi0 ⟨rfl, hbi0⟩
          have S0 := Ssh.grow hbi0
          have hB0 := hB.trans (hbi0.mono hB.size)
          clear ya yb yc yd ye yf yg yh Ssh hbi0
          have ya := (S0 (wa.heap.size, loa, hia) (by simp)).cell
          have yb := (S0 (wb.heap.size, lob, hib) (by simp)).cell
          have yc := (S0 (wc.heap.size, loc, hic) (by simp)).cell
          have yd := (S0 (wd.heap.size, lod, hid) (by simp)).cell
          have ye := (S0 (we.heap.size, loe, hie) (by simp)).cell
          have yf := (S0 (wf.heap.size, lof, hif) (by simp)).cell
          have yg := (S0 (wg.heap.size, log, hig) (by simp)).cell
          have yh := (S0 (wh.heap.size, loh, hih) (by simp)).cell
          simp only [] at ya yb yc yd ye yf yg yh
          go_wp2_with fail
          refine (hIn _ lod hid loc hic hB0 (by assumption) (by assumption)).mono ?_
          rintro e wi1 ⟨rfl, hbi1⟩
          have S1 := S0.grow hbi1
          have hB1 := hB0.trans (hbi1.mono hB0.size)
          clear ya yb yc yd ye yf yg yh S0 hbi1
          have ya := (S1 (wa.heap.size, loa, hia) (by simp)).cell
          have yb := (S1 (wb.heap.size, lob, hib) (by simp)).cell
          have yc := (S1 (wc.heap.size, loc, hic) (by simp)).cell
          have yd := (S1 (wd.heap.size, lod, hid) (by simp)).cell
          have ye := (S1 (we.heap.size, loe, hie) (by simp)).cell
          have yf := (S1 (wf.heap.size, lof, hif) (by simp)).cell
          have yg := (S1 (wg.heap.size, log, hig) (by simp)).cell
          have yh := (S1 (wh.heap.size, loh, hih) (by simp)).cell
          simp only [] at ya yb yc yd ye yf yg yh
          go_wp2_with fail
          refine (hIn _ lof hif loe hie hB1 (by assumption) (by assumption)).mono ?_
          rintro e wi2 ⟨rfl, hbi2⟩
          have S2 := S1.grow hbi2
          have hB2 := hB1.trans (hbi2.mono hB1.size)
          clear ya yb yc yd ye yf yg yh S1 hbi2
          have ya := (S2 (wa.heap.size, loa, hia) (by simp)).cell
          have yb := (S2 (wb.heap.size, lob, hib) (by simp)).cell
          have yc := (S2 (wc.heap.size, loc, hic) (by simp)).cell
          have yd := (S2 (wd.heap.size, lod, hid) (by simp)).cell
          have ye := (S2 (we.heap.size, loe, hie) (by simp)).cell
          have yf := (S2 (wf.heap.size, lof, hif) (by simp)).cell
          have yg := (S2 (wg.heap.size, log, hig) (by simp)).cell
          have yh := (S2 (wh.heap.size, loh, hih) (by simp)).cell
          simp only [] at ya yb yc yd ye yf yg yh
          go_wp2_with fail
          refine (hIn _ loh hih log hig hB2 (by assumption) (by assumption)).mono ?_
          rintro e wi3 ⟨rfl, hbi3⟩
          have S3 := S2.grow hbi3
          have hB3 := hB2.trans (hbi3.mono hB2.size)
          clear ya yb yc yd ye yf yg yh S2 hbi3
          go_wp2_with fail
          refine (awake_c _).mono ?_
          rintro e w20 ⟨rfl, hb20⟩
          have hBz := hB3.trans (hb20.mono hB3.size)
          clear hb20 S3
          go_wp2
          go_ret
          exact ⟨rfl, hBz⟩

namespace paradeNarrow
open Go.ChangeShapes Go.WideShapes Go.ChangeAt Go.RowKit

set_option maxRecDepth 100000 in
theorem lifted (os : Os) (started : os.Started) (H : Type) (enc : TypeId × Value → H) :
    ReturnsInHanded {} Try.checked os 4 .any (Rows.paradeNarrowSpec.pre6 enc Try.prog Try.f4 Rows.paradeNarrowRow.domain false) (Rows.paradeNarrowSpec.post enc Try.prog Try.f4 false true false false) := by
  refine returnsInHanded_of_change (C := Try.checked) prog_own started (by kernel_rfl) Try.func4
    (ChangeSpec.witness6 (enc := enc) (C := Try.checked) false ⟨#[], #[.slice none 0 0], []⟩ 8 (by kernel_rfl) (by kernel_rfl) (by kernel_rfl) (by kernel_rfl)) ?_
  intro W base args ds gs before hval0 hW hcnd _
  have hval : ∀ (j : Nat) t v, Try.f4.params[j]? = some t → args[j]? = some v → Value.okWide Try.prog W .any base t v := hval0
  have hW' := hW
  obtain ⟨p, q, hA0, hV, rfl, hfz, hnd⟩ := hW
  have hA : DataW.TrodAll enc Try.prog W 0 (fun _ => true) true Try.f4.params.toList args.toList ds p := hA0
  rw [Try.params4] at hA hval
  obtain ⟨v0, vs0, d0, ds0, p0, q0, hargs, rfl, rfl, h0, r0⟩ := trodAll_cons hA
  obtain ⟨rfl, rfl, rfl⟩ := trodAll_nil r0
  obtain rfl : args = #[v0] := by cases args; simp_all
  obtain ⟨rfl, rfl⟩ := trodVars_none hV
  obtain ⟨a0, len0, cap0, rfl⟩ := okWide_slice Try.underlying22 (hval 0 22 v0 rfl rfl)
  have k0 := h0
  have lt0 : ∀ x ∈ p0, x.block < W.heap.size := by obtain ⟨m, hm⟩ := k0; exact DataW.trod_lt m _ _ _ hm
  obtain ⟨T, zs, rfl, hs, hm⟩ := ints_sl h0
  clear hA0 hval0
  refine (narrow_c a0 cap0 T zs W hs hm).mono fun e W' ⟨he, bel⟩ => ?_
  subst he
  exact ⟨_, rfl, _, _, _, [], _, [], hW', trodAll_mk1 (shut_bool Try.underlying4 _), (trodAll_cons_mk (Below.trod prog_laid (by kernel_rfl) (of_decide_eq_true (by kernel_rfl)) k0 bel lt0) trodAll_mk0), rfl, bel.frame _, fun h => by cases h⟩

theorem proved : Rows.ParadeNarrowSaid :=
  OpenClaim.holds_of_wide 4 Try.f4 rfl rfl rfl rfl rfl rfl rfl ⟨rfl, rfl, rfl, rfl, rfl⟩ rfl rfl rfl rfl rfl (by kernel_rfl) Try.func4 (by kernel_rfl)
    (of_decide_eq_true (by kernel_rfl)) (by unfold Func.isWrapper; first | (rw [if_pos (by decide +kernel)]; kernel_rfl) | (rw [if_neg (by decide +kernel)]; exact ⟨rfl, rfl⟩))
    (fun os started H enc _ => lifted os started H enc)
end paradeNarrow
end Go.Proofs.Ytgdalimggamgmab
