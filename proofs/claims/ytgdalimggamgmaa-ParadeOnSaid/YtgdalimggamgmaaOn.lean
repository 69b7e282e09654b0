/- ParadeOn. Own work. -/
import Derived.Test.YtgdalimggamgmaaLawKit
import Derived.Test.YtgdalimggamgmaaLawKitB
import Derived.Test.YtgdalimggamgmaaLawKitC
namespace Go.Proofs.Ytgdalimggamgmaa
open Go.RowKit Go.ChangeShapes Go.WideShapes Go.ChangeAt
set_option linter.unusedVariables false
set_option linter.unusedSimpArgs false

/-- What is so at either end of the seconds in which a place is passed. -/
theorem on_math {r : Int} {c : Nat} {ws : List Wg} {sts : List Int} {cb k : Nat} {near : Int} (V : LV r c ws sts cb) (hk : k < ws.length) (h1 : 0 ≤ near) (h2 : near ≤ 3000) (ps : List Int) (hp : ps = los ws ∨ ps = his ws) :
    gI sts k ≤ passed ws sts ps k near ∧ passed ws sts ps k near ≤ 9300 ∧ near ≤ front ws sts ps (passed ws sts ps k near) k ∧ (passed ws sts ps k near ≠ gI sts k → front ws sts ps (passed ws sts ps k near - 1) k < near) := by
  have hv := V.val
  have hb := V.pbd hk h1 h2
  have h1' : ∀ j, j ≤ k → 1 ≤ gI ps j := fun j hj => by
    have := hv.los1 (show j < ws.length by omega)
    rcases hp with rfl | rfl <;> omega
  have hs := passed_self (ws := ws) (sts := sts) (place := near) h1'
  have h0 := hs.1 k (Nat.le_refl _)
  refine ⟨h0, ?_, hs.2, fun hne => hv.before hk h1' (by omega) (by omega)⟩
  rcases hp with rfl | rfl <;> omega

theorem on_two {ws : List Wg} {sts : List Int} {r : Int} {c cb k : Nat} (V : LV r c ws sts cb) (hk : k < ws.length) {t : Int} (ht : gI sts k ≤ t) :
    front ws sts (los ws) t k ≤ front ws sts (los ws) (t + 1) k ∧ front ws sts (his ws) t k ≤ front ws sts (his ws) (t + 1) k :=
  ⟨front_on (by omega) k fun j hj => by have := V.val.los1 (show j < ws.length by omega); omega, front_on (by omega) k fun j hj => by have := V.val.los1 (show j < ws.length by omega); omega⟩

theorem on_far {ws : List Wg} {sts : List Int} {r : Int} {c cb k : Nat} (V : LV r c ws sts cb) (hk : k < ws.length) {a b : Int} (hab : a ≤ b) :
    passed ws sts (los ws) k a ≤ passed ws sts (los ws) k b ∧ passed ws sts (his ws) k a ≤ passed ws sts (his ws) k b :=
  ⟨passed_far (fun j hj => by have := V.val.los1 (show j < ws.length by omega); omega) hab, passed_far (fun j hj => by have := V.val.los1 (show j < ws.length by omega); omega) hab⟩

/-- What holds in the last region in which the drum is struck. -/
def OnR (d q : Nat) (r : Int) (A : Option Addr) (c : Nat) (ws : List Wg) (B : Option Addr) (sts : List Int) (q8 q10 q14 : Nat) (s8 s10 s14 : Array Value) (w0 W w : World) : Prop :=
  LK d q r A c ws w0 w ∧ SlI w 3 B sts ∧ Bx w q8 27 s8 ∧ Bx w q10 27 s10 ∧ Bx w q14 27 s14 ∧ W.heap.size ≤ w.heap.size
/-- The seconds in which a farther place is passed. -/
def OnP (ws : List Wg) (sts : List Int) (k : Nat) (near r x y : Int) : Prop := ∃ f, near ≤ f ∧ f ≤ r ∧ x = passed ws sts (his ws) k f ∧ y = passed ws sts (los ws) k f
section
variable {d q : Nat} {r : Int} {A : Option Addr} {c : Nat} {ws : List Wg} {B : Option Addr} {sts : List Int} {q8 q10 q14 : Nat} {s8 s10 s14 : Array Value} {w0 W w w' : World}
theorem OnR.kp (h : OnR d q r A c ws B sts q8 q10 q14 s8 s10 s14 w0 W w) (hk : w.grownBy w' (some d)) (hd : Dr w' d) : OnR d q r A c ws B sts q8 q10 q14 s8 s10 s14 w0 W w' := by
  obtain ⟨h1, h2, h3, h4, h5, h6⟩ := h
  exact ⟨h1.kp hk hd, Sl.kp h2 h1.dr hk (by decide), h3.kp hk (bx_ne h3 h1.dr (by decide)), h4.kp hk (bx_ne h4 h1.dr (by decide)), h5.kp hk (bx_ne h5 h1.dr (by decide)), Nat.le_trans h6 hk.size⟩
theorem OnR.grow (h : OnR d q r A c ws B sts q8 q10 q14 s8 s10 s14 w0 W w) (hb : Below w.heap.size w w') : OnR d q r A c ws B sts q8 q10 q14 s8 s10 s14 w0 W w' :=
  h.kp (kp_of_below hb (Nat.le_refl _)) (h.1.dr.below hb h.1.dr.lt)
theorem OnR.put {b : Nat} {cs : Array Value} (h : OnR d q r A c ws B sts q8 q10 q14 s8 s10 s14 w0 W w) (hb : Bx w b 27 cs) (hn : W.heap.size ≤ b) (hd : b ≠ d) (hq : q < W.heap.size ∧ w0.heap.size ≤ W.heap.size ∧ q8 < W.heap.size ∧ q10 < W.heap.size ∧ q14 < W.heap.size) {u v : Value} :
    OnR d q r A c ws B sts q8 q10 q14 s8 s10 s14 w0 W ((w.setCell ⟨b, 0, none⟩ u).setCell ⟨b, 1, none⟩ v) := by
  obtain ⟨h1, h2, h3, h4, h5, h6⟩ := h
  refine ⟨(h1.set (p := ⟨b, 0, none⟩) hb (by decide) (by simp only []; omega) (by simp only []; omega) (by simp only []; omega) u).set (p := ⟨b, 1, none⟩) (hb.set_ 0 u) (by decide) (by simp only []; omega) (by simp only []; omega) (by simp only []; omega) v,
    (h2.setCell (p := ⟨b, 0, none⟩) hb (by decide) u).setCell (p := ⟨b, 1, none⟩) (hb.set_ 0 u) (by decide) v, (h3.far (p := ⟨b, 0, none⟩) (by simp only []; omega) u).far (p := ⟨b, 1, none⟩) (by simp only []; omega) v,
    (h4.far (p := ⟨b, 0, none⟩) (by simp only []; omega) u).far (p := ⟨b, 1, none⟩) (by simp only []; omega) v, (h5.far (p := ⟨b, 0, none⟩) (by simp only []; omega) u).far (p := ⟨b, 1, none⟩) (by simp only []; omega) v, by simpa [World.setCell] using h6⟩
end

/-- What holds in a round. -/
def OnT (d q : Nat) (r : Int) (A : Option Addr) (c : Nat) (ws : List Wg) (B : Option Addr) (sts : List Int) (qe : Nat) (se : Array Value) (w0 : World) (n : Nat) (w : World) : Prop :=
  LK d q r A c ws w0 w ∧ SlI w 3 B sts ∧ Bx w qe 3 se ∧ n ≤ w.heap.size
def FQ (q : Nat) (s : Array Value) (w w' : World) : Prop :=
  w.heap.size ≤ w'.heap.size ∧ (∀ b, b < w.heap.size → b ≠ q → w'.heap[b]? = w.heap[b]?) ∧ (Bx w q 27 s → Bx w' q 27 s)
theorem FQ.refl (q : Nat) (s : Array Value) (w : World) : FQ q s w w := ⟨Nat.le_refl _, fun _ _ _ => rfl, id⟩
theorem FQ.below {q : Nat} {s : Array Value} {w w' : World} (h : Below w.heap.size w w') : FQ q s w w' := ⟨h.size, fun b hb _ => h.block b hb, fun hb => hb.below h hb.lt⟩
theorem FQ.put {q : Nat} {w : World} {x y x0 y0 : Value} (h : Bx w q 27 #[x0, y0]) : FQ q #[x, y] w ((w.setCell ⟨q, 0, none⟩ x).setCell ⟨q, 1, none⟩ y) ∧ Bx ((w.setCell ⟨q, 0, none⟩ x).setCell ⟨q, 1, none⟩ y) q 27 #[x, y] := by
  have hb : Bx ((w.setCell ⟨q, 0, none⟩ x).setCell ⟨q, 1, none⟩ y) q 27 #[x, y] := (h.set_ 0 x).set_ 1 y
  exact ⟨⟨by simp [World.setCell], fun b _ hne => (Below.heap_setCell _ _ _ _ hne).trans (Below.heap_setCell _ _ _ _ hne), fun _ => hb⟩, hb⟩
def asQ (R : World → Prop) (q : Nat) (s : Array Value) : As R (FQ q s) := ⟨fun _ w => Bx w q 27 s, fun _ _ _ _ _ hf h => hf.2.2 h⟩
section
variable {d q : Nat} {r : Int} {A : Option Addr} {c : Nat} {ws : List Wg} {B : Option Addr} {sts : List Int} {qe n : Nat} {se : Array Value} {w0 w w' : World}
theorem OnT.grow (h : OnT d q r A c ws B sts qe se w0 n w) (hb : Below w.heap.size w w') : OnT d q r A c ws B sts qe se w0 n w' := by
  obtain ⟨h1, h2, h3, h4⟩ := h
  exact ⟨h1.grow hb, Sl.below h2 hb (Nat.le_refl _), h3.below hb h3.lt, Nat.le_trans h4 hb.size⟩
theorem OnT.up {n' : Nat} (h : OnT d q r A c ws B sts qe se w0 n w) (h' : n' ≤ n) : OnT d q r A c ws B sts qe se w0 n' w := ⟨h.1, h.2.1, h.2.2.1, Nat.le_trans h' h.2.2.2⟩
theorem OnT.put {b : Nat} {cs : Array Value} (h : OnT d q r A c ws B sts qe se w0 n w) (hb : Bx w b 27 cs) (hn : w0.heap.size ≤ b) (hd : d ≠ b) (hq : q ≠ b) {u v : Value} :
    OnT d q r A c ws B sts qe se w0 n ((w.setCell ⟨b, 0, none⟩ u).setCell ⟨b, 1, none⟩ v) := by
  obtain ⟨h1, h2, h3, h4⟩ := h
  have hqe : qe ≠ b := fun e => by
    subst e
    unfold Bx at h3 hb
    rw [h3] at hb
    injection hb with hb
    injection hb with _ ht
    exact absurd ht (by decide)
  exact ⟨(h1.set (p := ⟨b, 0, none⟩) hb (by decide) hn hd hq u).set (p := ⟨b, 1, none⟩) (hb.set_ 0 u) (by decide) hn hd hq v,
    (h2.setCell (p := ⟨b, 0, none⟩) hb (by decide) u).setCell (p := ⟨b, 1, none⟩) (hb.set_ 0 u) (by decide) v, (h3.far (p := ⟨b, 0, none⟩) hqe u).far (p := ⟨b, 1, none⟩) hqe v, by simpa [World.setCell] using h4⟩
end

set_option maxRecDepth 100000 in
set_option maxHeartbeats 4000000 in
theorem on_c (A0 : Option Addr) (c0 : Nat) (T0 : TypeId) (zs : List Int) (w : World) (hs0 : SlI w T0 A0 zs) (hl0 : zs.length ≤ maxLen) :
    Calls Try.prog 10 #[.slice A0 zs.length c0] w (LawPost w) := by
  go_enter Try.func10, Try.ntmps10
  go_wp2_with fail
  refine (drumOf_c A0 c0 T0 zs _ hs0 hl0).mono ?_
  rintro e w1 ⟨d, rfl, hd1, hdn, hb1⟩
  go_wp2_with fail
  refine (schoolOf_c d 6 _ hd1 (by omega) (by omega)).mono ?_
  rintro e w2 ⟨r, A, c, ws, rfl, hws2, hd2, hk2, hr1, hr2, hn1, hn2, hm, hcap⟩
  have hB2 := below_of_kp hb1 hk2 hdn hb1.size
  have L3 : LK d w2.heap.size r A c ws w (w2.alloc (.cells #[I r, .slice A ws.length c] 24)) :=
    ⟨hd2.alloc _, Bx.new _ _ _, hws2.alloc _, hB2.alloc hB2.size _, hdn, hB2.size⟩
  clear hb1 hk2 hd1 hws2 hd2
  have hchk := made_chk hm hr1 hr2 hn1 (by omega)
  have hn6 : ws.length ≤ 6 := by omega
  have hc3 := L3.box.cell
  go_wp2_with fail
  refine (startsOf_c d r A c ws _ L3.dr L3.wings hm hchk).mono ?_
  rintro e w4 ⟨B, cb, sts, rfl, hsl4, hcapb, hd4, hk4, hlen, hcst, hst⟩
  have L4 := L3.kp hk4 hd4
  have V : LV r c ws sts cb := ⟨hm, hr1, hr2, hn1, by omega, hcap, hlen, hcapb, hcst, hst⟩
  clear hk4 hd4 hcst hst hlen hcapb L3
  clear hc3
  have hc4 := L4.box.cell
  go_wp2_with fail
  refine (roll_c d ws.length (ws.length - 1) _ L4.dr (by omega) (by omega) (by omega) (by omega)).mono ?_
  rintro e w5 ⟨k1, rfl, hk1, hk2, hd5, hg5⟩
  have L5 := L4.kp hg5 hd5
  have hsl5 : SlI w5 3 B sts := hsl4.kp L4.dr hg5 (by decide)
  clear hc4 hsl4 L4 hg5 hd5
  obtain ⟨k, rfl⟩ := Int.eq_ofNat_of_zero_le hk1
  have hi : k < ws.length := by omega
  obtain ⟨b, o, rfl, _⟩ := SlI.some_ hsl5 (show k < sts.length by have := V.len; omega)
  have hS := V.start hi
  clear hk1 hk2
  go_wp2_with fail
  refine wp_region_list_of (by kernel_rfl) (R := fun w' => LK d w2.heap.size r A c ws w w' ∧ SlI w' 3 (some ⟨b, o, none⟩) sts) (F := DF d) [As.is _ _ (.slice (some ⟨b, o, none⟩) sts.length cb),
      As.is _ _ (I ((k : Int))),
      As.is _ _ (.pointer (some ⟨b, o + (k), none⟩)),
      As.is _ _ (I (gI sts (k))),
      As.is _ _ (.pointer (some ⟨d, 0, none⟩)),
      asInt _ _ 0 199,
      asInt _ _ (gI sts (k)) (gI sts (k) + 199)] 199 (by kernel_rfl) rfl ?_ ?_ ?_
  · exact ⟨L5.drew, hsl5.drew⟩
  · intro i' hi' o' ho ev w' hR hc hf hg hs hd
    match i', hi', ho with
    | 0, _, ho =>
      cases ho
      have e5 : ev (.tmp 5) = .slice (some ⟨b, o, none⟩) sts.length cb := hs 5 (by kernel_rfl)
      go_simp
      exact ⟨rfl, hR, World.grownBy.refl _ _⟩
    | 1, _, ho =>
      cases ho
      have e6 : ev (.tmp 6) = I ((k : Int)) := hs 6 (by kernel_rfl)
      go_simp
      exact ⟨rfl, hR, World.grownBy.refl _ _⟩
    | 2, _, ho =>
      cases ho
      have e34 : ev (.tmp 34) = .slice (some ⟨b, o, none⟩) sts.length cb := hd 0 34 (by kernel_rfl)
      have e35 : ev (.tmp 35) = I ((k : Int)) := hd 1 35 (by kernel_rfl)
      have en : ((k : Int)).toNat = k := by omega
      have hlt : (k : Int) < (sts.length : Int) := by have := V.len; omega
      have h0 : 0 ≤ (k : Int) := by omega
      go_simp
      exact ⟨rfl, hR, World.grownBy.refl _ _⟩
    | 3, _, ho =>
      cases ho
      have e36 : ev (.tmp 36) = .pointer (some ⟨b, o + (k), none⟩) := hd 2 36 (by kernel_rfl)
      have hcl : w'.cell? ⟨b, o + (k), none⟩ = some (I (gI sts (k))) := SlI.cellG hR.2 (by have := V.len; omega)
      go_simp
      exact ⟨rfl, hR, World.grownBy.refl _ _⟩
    | 4, _, ho =>
      cases ho
      have e3 : ev (.tmp 3) = .pointer (some ⟨d, 0, none⟩) := hs 3 (by kernel_rfl)
      go_simp
      exact ⟨rfl, hR, World.grownBy.refl _ _⟩
    | 5, _, ho =>
      cases ho
      have e38 : ev (.tmp 38) = .pointer (some ⟨d, 0, none⟩) := hd 4 38 (by kernel_rfl)
      go_simp
      refine (roll_c d 200 199 _ hR.1.dr (by omega) (by omega) (by omega) (by omega)).mono ?_
      rintro e w1 ⟨r, rfl, hr1, hr2, hd1, hk1⟩
      exact ⟨⟨r, rfl, hr1, hr2⟩, ⟨hR.1.kp hk1 hd1, hR.2.kp hR.1.dr hk1 (by decide)⟩, hk1⟩
    | 6, _, ho =>
      cases ho
      have e37 : ev (.tmp 37) = I (gI sts (k)) := hd 3 37 (by kernel_rfl)
      obtain ⟨x39, e39, hx391, hx392⟩ : ∃ r : Int, ev (.tmp 39) = I r ∧ 0 ≤ r ∧ r ≤ 199 := hd 5 39 (by kernel_rfl)
      have ew : IntKind.i64.wrap (gI sts (k) + x39) = gI sts (k) + x39 := IntWalk.i64_in _ (by omega)
      go_simp
      clear ew
      exact ⟨⟨_, rfl, by omega, by omega⟩, hR, World.grownBy.refl _ _⟩
    | n + 7, hi, _ => exact absurd hi (by simp)
  intro ρ w6 hR hρ K hK
  obtain ⟨t, p6, ht1, ht2⟩ : ∃ r : Int, ρ 6 = I r ∧ gI sts (k) ≤ r ∧ r ≤ gI sts (k) + 199 := hρ 6 (by simp)
  show K (putAll _ _ ρ 7) _
  simp only [putAll, dOf, List.getElem?_toArray, List.getElem?_cons_zero, List.getElem?_cons_succ, Option.bind_some, Act.put, List.setIfInBounds_toArray, List.set_cons_zero, List.set_cons_succ]
  rw [p6]
  refine hK _ _ ?_
  change wpList _ _ _ [_] _ _
  obtain ⟨L6, hsl6⟩ := hR
  clear hK K p6 hρ L5 hsl5
  have O2 := on_two V hi ht1
  have c1 := V.where_ L6.wings hsl6 hi (t := t) (by omega) (by omega)
  have hc6 := L6.box.cell
  go_wp2_with fail
  refine c1.mono ?_
  rintro e w7 ⟨rfl, hb7⟩
  generalize front ws sts (los ws) t k = xl at *
  generalize front ws sts (his ws) t k = xh at *
  have L8 := (L6.grow hb7).alloc (.cells #[I (xl), I (xh)] 27)
  have hsl8 := (hsl6.below hb7 (Nat.le_refl _)).alloc (.cells #[I (xl), I (xh)] 27)
  have x8 := Bx.new w7 27 #[I (xl), I (xh)]
  clear hb7 L6 hsl6 hc6 c1 
  have c2 := V.where_ L8.wings hsl8 hi (t := t + 1) (by omega) (by omega)
  have hc8 := L8.box.cell
  go_wp2_with fail
  refine c2.mono ?_
  rintro e w9 ⟨rfl, hb9⟩
  generalize front ws sts (los ws) (t + 1) k = yl at *
  generalize front ws sts (his ws) (t + 1) k = yh at *
  have L10 := (L8.grow hb9).alloc (.cells #[I (yl), I (yh)] 27)
  have hsl10 := (hsl8.below hb9 (Nat.le_refl _)).alloc (.cells #[I (yl), I (yh)] 27)
  have x10 := Bx.new w9 27 #[I (yl), I (yh)]
  have x8b := (x8.below hb9 x8.lt).alloc (.cells #[I (yl), I (yh)] 27)
  clear hb9 L8 hsl8 hc8 c2 x8
  have hc10 := L10.box.cell
  go_wp2_with fail
  refine (roll_c d (r + 1) r _ L10.dr (by omega) (by omega) (by omega) (by omega)).mono ?_
  rintro e w11 ⟨near, rfl, hn1', hn2', hd11, hg11⟩
  have L11 := L10.kp hg11 hd11
  have hsl11 : SlI w11 3 (some ⟨b, o, none⟩) sts := Sl.kp hsl10 L10.dr hg11 (by decide)
  have x8c := x8b.kp hg11 (bx_ne x8b L10.dr (by decide))
  have x10c := x10.kp hg11 (bx_ne x10 L10.dr (by decide))
  clear hc10 L10 hsl10 x8b x10 hg11 hd11
  have c3 := V.passes_ L11.wings hsl11 hi (t := near) (by omega) (by omega)
  have hc11 := L11.box.cell
  go_wp2_with fail
  refine c3.mono ?_
  rintro e w13 ⟨rfl, hb13⟩
  have L14 := (L11.grow hb13).alloc (.cells #[I (passed ws sts (his ws) k near), I (passed ws sts (los ws) k near)] 27)
  have hsl14 := (hsl11.below hb13 (Nat.le_refl _)).alloc (.cells #[I (passed ws sts (his ws) k near), I (passed ws sts (los ws) k near)] 27)
  have x14 := Bx.new w13 27 #[I (passed ws sts (his ws) k near), I (passed ws sts (los ws) k near)]
  have x8d := (x8c.below hb13 x8c.lt).alloc (.cells #[I (passed ws sts (his ws) k near), I (passed ws sts (los ws) k near)] 27)
  have x10d := (x10c.below hb13 x10c.lt).alloc (.cells #[I (passed ws sts (his ws) k near), I (passed ws sts (los ws) k near)] 27)
  clear hb13 L11 hsl11 hc11 c3 x8c x10c
  go_wp2_with fail
  have lt8 := x8d.lt
  have lt10 := x10d.lt
  have lt14 := x14.lt
  generalize w7.heap.size = q8 at *
  generalize w9.heap.size = q10 at *
  generalize w13.heap.size = q14 at *
  generalize w13.alloc (.cells #[I (passed ws sts (his ws) k near), I (passed ws sts (los ws) k near)] 27) = w14 at *
  have hW14 : w2.heap.size < w14.heap.size ∧ w.heap.size ≤ w14.heap.size ∧ q8 < w14.heap.size ∧ q10 < w14.heap.size ∧ q14 < w14.heap.size := ⟨L14.box.lt, L14.below.size, lt8, lt10, lt14⟩
  refine wp_region_list_s (by kernel_rfl) (R := OnR d w2.heap.size r A c ws (some ⟨b, o, none⟩) sts q8 q10 q14 #[I xl, I xh] #[I yl, I yh] #[I (passed ws sts (his ws) k near), I (passed ws sts (los ws) k near)] w w14) (F := FS (some d) w14.heap.size (OnP ws sts k near r)) [] [] [(13, 12)]
      [As.is _ _ (.agg #[I r, .slice A ws.length c]),
      As.is _ _ (.slice (some ⟨b, o, none⟩) sts.length cb),
      As.is _ _ (I (k : Int)),
      As.is _ _ (.pointer (some ⟨d, 0, none⟩)),
      As.is _ _ (I near),
      As.is _ _ (.pointer (some ⟨w2.heap.size, 0, none⟩)),
      As.is _ _ (I r),
      asInt _ _ near r,
      As.pure _ _ fun v => ∃ x y : Int, v = .tuple #[Sp x y, I 0] ∧ OnP ws sts k near r x y,
      As.pure _ _ fun v => ∃ x y : Int, v = .tuple #[Sp x y, I 0] ∧ OnP ws sts k near r x y,
      As.pure _ _ fun v => ∃ x y : Int, v = Sp x y ∧ OnP ws sts k near r x y,
      As.is _ _ (I 0),
      asSp0 _ (some d) w14.heap.size (OnP ws sts k near r),
      asSp1 _ (some d) w14.heap.size (OnP ws sts k near r)] 199 (by kernel_rfl) rfl (⟨L14.drew, hsl14, x8d, x10d, x14, Nat.le_refl _⟩) (by simp) (by simp) ?_ (fun _ => FS.refl _ _ _ _) ?_ ?_ ?_
  · intro i' hi' o' ho k' b' hg u w' hR hu
    match i', hi', ho with
    | 0, _, ho => cases ho; cases hg
    | 1, _, ho => cases ho; cases hg
    | 2, _, ho => cases ho; cases hg
    | 3, _, ho => cases ho; cases hg
    | 4, _, ho => cases ho; cases hg
    | 5, _, ho => cases ho; cases hg
    | 6, _, ho => cases ho; cases hg
    | 7, _, ho => cases ho; cases hg
    | 8, _, ho => cases ho; cases hg
    | 9, _, ho => cases ho; cases hg
    | 10, _, ho => cases ho; cases hg
    | 11, _, ho => cases ho; cases hg
    | 12, _, ho => cases ho; cases hg
    | 13, _, ho => cases ho; cases hg
    | n + 14, hi, _ => exact absurd hi (by simp)
  · intro i' hi' hsk; cases hsk
  · intro i' hi' hsk o' ho ev w' hR hc hf hg hs hd
    match i', hi', ho with
    | 0, _, ho =>
      clear hsk
      cases ho
      have e4 : ev (.tmp 4) = .pointer (some ⟨w2.heap.size, 0, none⟩) := hs 4 (by kernel_rfl)
      have m4 := hR.1.box.cell
      go_simp
      first | exact ⟨rfl, hR, FS.refl _ _ _ _⟩ | exact ⟨⟨rfl, rfl⟩, hR, FS.refl _ _ _ _⟩ | exact ⟨⟨rfl, fun h => absurd h (by decide)⟩, hR, FS.refl _ _ _ _⟩ | exact ⟨⟨rfl, rfl, fun h => absurd h (by decide)⟩, hR, FS.refl _ _ _ _⟩
    | 1, _, ho =>
      clear hsk
      cases ho
      have e5 : ev (.tmp 5) = .slice (some ⟨b, o, none⟩) sts.length cb := hs 5 (by kernel_rfl)
      go_simp
      first | exact ⟨rfl, hR, FS.refl _ _ _ _⟩ | exact ⟨⟨rfl, rfl⟩, hR, FS.refl _ _ _ _⟩ | exact ⟨⟨rfl, fun h => absurd h (by decide)⟩, hR, FS.refl _ _ _ _⟩ | exact ⟨⟨rfl, rfl, fun h => absurd h (by decide)⟩, hR, FS.refl _ _ _ _⟩
    | 2, _, ho =>
      clear hsk
      cases ho
      have e6 : ev (.tmp 6) = I (k : Int) := hs 6 (by kernel_rfl)
      go_simp
      first | exact ⟨rfl, hR, FS.refl _ _ _ _⟩ | exact ⟨⟨rfl, rfl⟩, hR, FS.refl _ _ _ _⟩ | exact ⟨⟨rfl, fun h => absurd h (by decide)⟩, hR, FS.refl _ _ _ _⟩ | exact ⟨⟨rfl, rfl, fun h => absurd h (by decide)⟩, hR, FS.refl _ _ _ _⟩
    | 3, _, ho =>
      clear hsk
      cases ho
      have e3 : ev (.tmp 3) = .pointer (some ⟨d, 0, none⟩) := hs 3 (by kernel_rfl)
      go_simp
      first | exact ⟨rfl, hR, FS.refl _ _ _ _⟩ | exact ⟨⟨rfl, rfl⟩, hR, FS.refl _ _ _ _⟩ | exact ⟨⟨rfl, fun h => absurd h (by decide)⟩, hR, FS.refl _ _ _ _⟩ | exact ⟨⟨rfl, rfl, fun h => absurd h (by decide)⟩, hR, FS.refl _ _ _ _⟩
    | 4, _, ho =>
      clear hsk
      cases ho
      have e12 : ev (.tmp 12) = I near := hs 12 (by kernel_rfl)
      go_simp
      first | exact ⟨rfl, hR, FS.refl _ _ _ _⟩ | exact ⟨⟨rfl, rfl⟩, hR, FS.refl _ _ _ _⟩ | exact ⟨⟨rfl, fun h => absurd h (by decide)⟩, hR, FS.refl _ _ _ _⟩ | exact ⟨⟨rfl, rfl, fun h => absurd h (by decide)⟩, hR, FS.refl _ _ _ _⟩
    | 5, _, ho =>
      clear hsk
      cases ho
      have e4 : ev (.tmp 4) = .pointer (some ⟨w2.heap.size, 0, none⟩) := hs 4 (by kernel_rfl)
      go_simp
      first | exact ⟨rfl, hR, FS.refl _ _ _ _⟩ | exact ⟨⟨rfl, rfl⟩, hR, FS.refl _ _ _ _⟩ | exact ⟨⟨rfl, fun h => absurd h (by decide)⟩, hR, FS.refl _ _ _ _⟩ | exact ⟨⟨rfl, rfl, fun h => absurd h (by decide)⟩, hR, FS.refl _ _ _ _⟩
    | 6, _, ho =>
      clear hsk
      cases ho
      have e77 : ev (.tmp 77) = .pointer (some ⟨w2.heap.size, 0, none⟩) := hd 5 77 (by kernel_rfl)
      have m4 := hR.1.box.cell
      go_simp
      first | exact ⟨rfl, hR, FS.refl _ _ _ _⟩ | exact ⟨⟨rfl, rfl⟩, hR, FS.refl _ _ _ _⟩ | exact ⟨⟨rfl, fun h => absurd h (by decide)⟩, hR, FS.refl _ _ _ _⟩ | exact ⟨⟨rfl, rfl, fun h => absurd h (by decide)⟩, hR, FS.refl _ _ _ _⟩
    | 7, _, ho =>
      clear hsk
      cases ho
      have e75 : ev (.tmp 75) = .pointer (some ⟨d, 0, none⟩) := hd 3 75 (by kernel_rfl)
      have e76 : ev (.tmp 76) = I near := hd 4 76 (by kernel_rfl)
      have e78 : ev (.tmp 78) = I r := hd 6 78 (by kernel_rfl)
      go_simp
      refine (mid_c d near r r _ hR.1.dr (by omega) (by omega) (by omega) (by omega) (by omega) (by omega) (by omega)).mono ?_
      rintro e w1 ⟨f, rfl, hr1, hr2, hd1, hk1⟩
      first | exact ⟨⟨f, rfl, hr1, hr2⟩, hR.kp hk1 hd1, FS.kp hk1⟩ | exact ⟨⟨rfl, ⟨f, rfl, hr1, hr2⟩⟩, hR.kp hk1 hd1, FS.kp hk1⟩ | exact ⟨⟨⟨f, rfl, hr1, hr2⟩, fun h => absurd h (by decide)⟩, hR.kp hk1 hd1, FS.kp hk1⟩ | exact ⟨⟨rfl, ⟨f, rfl, hr1, hr2⟩, fun h => absurd h (by decide)⟩, hR.kp hk1 hd1, FS.kp hk1⟩
    | 8, _, ho =>
      clear hsk
      cases ho
      have e72 : ev (.tmp 72) = .agg #[I r, .slice A ws.length c] := hd 0 72 (by kernel_rfl)
      have e73 : ev (.tmp 73) = .slice (some ⟨b, o, none⟩) sts.length cb := hd 1 73 (by kernel_rfl)
      have e74 : ev (.tmp 74) = I (k : Int) := hd 2 74 (by kernel_rfl)
      obtain ⟨f, e79, hf1, hf2⟩ : ∃ r' : Int, ev (.tmp 79) = I r' ∧ near ≤ r' ∧ r' ≤ r := hd 7 79 (by kernel_rfl)
      go_simp
      refine (V.passes_ hR.1.wings hR.2.1 hi (t := f) (by omega) (by omega)).mono ?_
      rintro e wz ⟨rfl, hwz⟩
      first | exact ⟨⟨_, _, rfl, ⟨f, hf1, hf2, rfl, rfl⟩⟩, hR.grow hwz, FS.below hwz⟩ | exact ⟨⟨rfl, ⟨_, _, rfl, ⟨f, hf1, hf2, rfl, rfl⟩⟩⟩, hR.grow hwz, FS.below hwz⟩ | exact ⟨⟨⟨_, _, rfl, ⟨f, hf1, hf2, rfl, rfl⟩⟩, fun h => absurd h (by decide)⟩, hR.grow hwz, FS.below hwz⟩ | exact ⟨⟨rfl, ⟨_, _, rfl, ⟨f, hf1, hf2, rfl, rfl⟩⟩, fun h => absurd h (by decide)⟩, hR.grow hwz, FS.below hwz⟩
    | 9, _, ho =>
      clear hsk
      cases ho
      obtain ⟨x1, y1, e80, hp1⟩ : ∃ x y : Int, ev (.tmp 80) = .tuple #[Sp x y, I 0] ∧ OnP ws sts k near r x y := hd 8 80 (by kernel_rfl)
      go_simp
      first | exact ⟨⟨x1, y1, rfl, hp1⟩, hR, FS.refl _ _ _ _⟩ | exact ⟨⟨rfl, ⟨x1, y1, rfl, hp1⟩⟩, hR, FS.refl _ _ _ _⟩ | exact ⟨⟨⟨x1, y1, rfl, hp1⟩, fun h => absurd h (by decide)⟩, hR, FS.refl _ _ _ _⟩ | exact ⟨⟨rfl, ⟨x1, y1, rfl, hp1⟩, fun h => absurd h (by decide)⟩, hR, FS.refl _ _ _ _⟩
    | 10, _, ho =>
      clear hsk
      cases ho
      obtain ⟨x1, y1, e71, hp1⟩ : ∃ x y : Int, ev (.tmp 71) = .tuple #[Sp x y, I 0] ∧ OnP ws sts k near r x y := hd 9 71 (by kernel_rfl)
      go_simp
      first | exact ⟨⟨x1, y1, rfl, hp1⟩, hR, FS.refl _ _ _ _⟩ | exact ⟨⟨rfl, ⟨x1, y1, rfl, hp1⟩⟩, hR, FS.refl _ _ _ _⟩ | exact ⟨⟨⟨x1, y1, rfl, hp1⟩, fun h => absurd h (by decide)⟩, hR, FS.refl _ _ _ _⟩ | exact ⟨⟨rfl, ⟨x1, y1, rfl, hp1⟩, fun h => absurd h (by decide)⟩, hR, FS.refl _ _ _ _⟩
    | 11, _, ho =>
      clear hsk
      cases ho
      obtain ⟨x1, y1, e71, hp1⟩ : ∃ x y : Int, ev (.tmp 71) = .tuple #[Sp x y, I 0] ∧ OnP ws sts k near r x y := hd 9 71 (by kernel_rfl)
      go_simp
      first | exact ⟨rfl, hR, FS.refl _ _ _ _⟩ | exact ⟨⟨rfl, rfl⟩, hR, FS.refl _ _ _ _⟩ | exact ⟨⟨rfl, fun h => absurd h (by decide)⟩, hR, FS.refl _ _ _ _⟩ | exact ⟨⟨rfl, rfl, fun h => absurd h (by decide)⟩, hR, FS.refl _ _ _ _⟩
    | 12, _, ho =>
      clear hsk
      cases ho
      go_simp
      first | exact ⟨⟨_, rfl, hR.2.2.2.2.2, (by have := hR.1.dr.lt; intro e; injection e with e; omega), SpB.new _ _⟩, hR.grow ((Below.refl _ _).alloc (Nat.le_refl _) _), FS.below ((Below.refl _ _).alloc (Nat.le_refl _) _)⟩ | exact ⟨⟨rfl, ⟨_, rfl, hR.2.2.2.2.2, (by have := hR.1.dr.lt; intro e; injection e with e; omega), SpB.new _ _⟩⟩, hR.grow ((Below.refl _ _).alloc (Nat.le_refl _) _), FS.below ((Below.refl _ _).alloc (Nat.le_refl _) _)⟩ | exact ⟨⟨⟨_, rfl, hR.2.2.2.2.2, (by have := hR.1.dr.lt; intro e; injection e with e; omega), SpB.new _ _⟩, fun h => absurd h (by decide)⟩, hR.grow ((Below.refl _ _).alloc (Nat.le_refl _) _), FS.below ((Below.refl _ _).alloc (Nat.le_refl _) _)⟩ | exact ⟨⟨rfl, ⟨_, rfl, hR.2.2.2.2.2, (by have := hR.1.dr.lt; intro e; injection e with e; omega), SpB.new _ _⟩, fun h => absurd h (by decide)⟩, hR.grow ((Below.refl _ _).alloc (Nat.le_refl _) _), FS.below ((Below.refl _ _).alloc (Nat.le_refl _) _)⟩
    | 13, _, ho =>
      clear hsk
      cases ho
      obtain ⟨bx, e15, hb1, hb2, hb3⟩ : ∃ b, ev (.tmp 15) = .pointer (some ⟨b, 0, none⟩) ∧ w14.heap.size ≤ b ∧ some b ≠ (some d) ∧ SpB (P0 (OnP ws sts k near r)) w' b := hd 12 15 (by kernel_rfl)
      obtain ⟨x1, y1, e81, hp1⟩ : ∃ x y : Int, ev (.tmp 81) = Sp x y ∧ OnP ws sts k near r x y := hd 10 81 (by kernel_rfl)
      obtain ⟨x0, y0, _, hbx⟩ := hb3
      have hcx := hbx.cell
      have hfx := hbx.free
      go_simp
      have hP : (OnP ws sts k near r) x1 y1 := hp1
      have hin : SpB (P0 (OnP ws sts k near r)) w' bx := ⟨x0, y0, ‹_›, hbx⟩
      first | exact ⟨⟨rfl, fun t ht => (by cases ht; exact ⟨bx, e15, hb1, hb2, hin.put hP⟩)⟩, hR.put hbx (by omega) (fun e => hb2 (by rw [e])) hW14, FS.put hb1 hin hP⟩ | exact ⟨fun t ht => (by cases ht; exact ⟨bx, e15, hb1, hb2, hin.put hP⟩), hR.put hbx (by omega) (fun e => hb2 (by rw [e])) hW14, FS.put hb1 hin hP⟩
    | n + 14, hi, _ => exact absurd hi (by simp)
  intro ρ wE hR hρ hne K hK
  have p11 : ρ 11 = I 0 := hρ 11 (by simp)
  obtain ⟨q15, p12, hq15, hqd, x1, y1, ⟨f, hf1, hf2, rfl, rfl⟩, x15⟩ : ∃ b, ρ 12 = .pointer (some ⟨b, 0, none⟩) ∧ w14.heap.size ≤ b ∧ some b ≠ some d ∧ SpB (OnP ws sts k near r) wE b := hρ 13 (by simp)
  show K (putAll _ _ ρ 14) _
  simp only [putAll, dOf, List.getElem?_toArray, List.getElem?_cons_zero, List.getElem?_cons_succ, Option.bind_some, Act.put, List.setIfInBounds_toArray, List.set_cons_zero, List.set_cons_succ]
  rw [p11, p12]
  refine hK _ _ ?_
  change wpList _ _ _ [_] _ _
  obtain ⟨L15, hsl15, y8, y10, y14, _⟩ := hR
  clear hK K p11 p12 hρ hne L14 hsl14 x8d x10d x14 hq15 hqd lt8 lt10 lt14 hW14
  have O4 := on_far V hi hf1
  have M1 := on_math V hi hn1' (by omega) (his ws) (.inr rfl)
  have M2 := on_math V hi hn1' (by omega) (los ws) (.inl rfl)
  generalize passed ws sts (his ws) k f = fl at *
  generalize passed ws sts (los ws) k f = fh at *
  generalize passed ws sts (his ws) k near = pl at *
  generalize passed ws sts (los ws) k near = ph at *
  have e8 := y8.cell
  have e10 := y10.cell
  have e14 := y14.cell
  have e15 := x15.cell
  obtain ⟨o1, o2⟩ := O2
  obtain ⟨o3, o4⟩ := O4
  go_wp2_with fail
  have T0' : OnT d w2.heap.size r A c ws (some ⟨b, o, none⟩) sts wE.heap.size #[I pl, I ph] w 0 (wE.alloc (.cells #[I pl, I ph] 3)) := ⟨L15.alloc _, hsl15.alloc _, Bx.new _ _ _, Nat.zero_le _⟩
  clear e8 e10 e14 e15 y8 y10 y14 x15 L15 hsl15 o1 o2 o3 o4
  generalize wE.heap.size = qe at *
  go_loopw [18] (fun i wr => ∃ n : Int, i = .int .i64 n ∧ (n = 0 ∨ n = 1 ∨ n = 2) ∧ OnT d w2.heap.size r A c ws (some ⟨b, o, none⟩) sts qe #[I pl, I ph] w 0 wr) (fun i _ => 2 - (intOf i).toNat)
  case atStart => exact ⟨0, rfl, .inl rfl, T0'⟩
  case round =>
    obtain ⟨n, rfl, hn, hT⟩ := hrel
    clear T0'
    rcases hn with rfl | rfl | rfl
    · obtain ⟨m1, m2, m3, m4⟩ := M1
      have hbase : w.heap.size ≤ wr.heap.size ∧ d < wr.heap.size ∧ w2.heap.size < wr.heap.size := ⟨hT.1.below.size, hT.1.dr.lt, hT.1.box.lt⟩
      go_wp2_with fail
      refine wp_region_list_s (by kernel_rfl) (R := OnT d w2.heap.size r A c ws (some ⟨b, o, none⟩) sts qe #[I pl, I ph] w wr.heap.size) (F := FS Option.none wr.heap.size (fun x y : Int => x = front ws sts (los ws) pl k ∧ y = front ws sts (his ws) pl k)) [] [] [(12, 11)]
          [As.is _ _ (.agg #[I r, .slice A ws.length c]),
          As.is _ _ (.slice (some ⟨b, o, none⟩) sts.length cb),
          As.is _ _ (I (k : Int)),
          As.is _ _ (.slice (some ⟨qe, 0, none⟩) 2 2),
          As.is _ _ (I 0),
          As.is _ _ (.pointer (some ⟨qe, 0, none⟩)),
          As.is _ _ (I pl),
          As.is _ _ (.tuple #[Sp (front ws sts (los ws) pl k) (front ws sts (his ws) pl k), I 0]),
          As.is _ _ (.tuple #[Sp (front ws sts (los ws) pl k) (front ws sts (his ws) pl k), I 0]),
          As.is _ _ (Sp (front ws sts (los ws) pl k) (front ws sts (his ws) pl k)),
          As.is _ _ (I 0),
          asSp0 _ Option.none wr.heap.size (fun x y : Int => x = front ws sts (los ws) pl k ∧ y = front ws sts (his ws) pl k),
          asSp1 _ Option.none wr.heap.size (fun x y : Int => x = front ws sts (los ws) pl k ∧ y = front ws sts (his ws) pl k)] 199 (by kernel_rfl) rfl (⟨hT.1.drew, hT.2.1, hT.2.2.1, Nat.le_refl _⟩) (by simp) (by simp) ?_ (fun _ => FS.refl _ _ _ _) ?_ ?_ ?_
      · intro i' hi' o' ho k' b' hg u w' hR hu
        match i', hi', ho with
        | 0, _, ho => cases ho; cases hg
        | 1, _, ho => cases ho; cases hg
        | 2, _, ho => cases ho; cases hg
        | 3, _, ho => cases ho; cases hg
        | 4, _, ho => cases ho; cases hg
        | 5, _, ho => cases ho; cases hg
        | 6, _, ho => cases ho; cases hg
        | 7, _, ho => cases ho; cases hg
        | 8, _, ho => cases ho; cases hg
        | 9, _, ho => cases ho; cases hg
        | 10, _, ho => cases ho; cases hg
        | 11, _, ho => cases ho; cases hg
        | 12, _, ho => cases ho; cases hg
        | n + 13, hi, _ => exact absurd hi (by simp)
      · intro i' hi' hsk; cases hsk
      · intro i' hi' hsk o' ho ev w' hR hc hf hg hs hd
        match i', hi', ho with
        | 0, _, ho =>
          clear hsk
          cases ho
          have e4 : ev (.tmp 4) = .pointer (some ⟨w2.heap.size, 0, none⟩) := hs 4 (by kernel_rfl)
          have m4 := hR.1.box.cell
          go_simp
          first | exact ⟨rfl, hR, FS.refl _ _ _ _⟩ | exact ⟨⟨rfl, rfl⟩, hR, FS.refl _ _ _ _⟩ | exact ⟨⟨rfl, fun h => absurd h (by decide)⟩, hR, FS.refl _ _ _ _⟩ | exact ⟨⟨rfl, rfl, fun h => absurd h (by decide)⟩, hR, FS.refl _ _ _ _⟩
        | 1, _, ho =>
          clear hsk
          cases ho
          have e5 : ev (.tmp 5) = .slice (some ⟨b, o, none⟩) sts.length cb := hs 5 (by kernel_rfl)
          go_simp
          first | exact ⟨rfl, hR, FS.refl _ _ _ _⟩ | exact ⟨⟨rfl, rfl⟩, hR, FS.refl _ _ _ _⟩ | exact ⟨⟨rfl, fun h => absurd h (by decide)⟩, hR, FS.refl _ _ _ _⟩ | exact ⟨⟨rfl, rfl, fun h => absurd h (by decide)⟩, hR, FS.refl _ _ _ _⟩
        | 2, _, ho =>
          clear hsk
          cases ho
          have e6 : ev (.tmp 6) = I (k : Int) := hs 6 (by kernel_rfl)
          go_simp
          first | exact ⟨rfl, hR, FS.refl _ _ _ _⟩ | exact ⟨⟨rfl, rfl⟩, hR, FS.refl _ _ _ _⟩ | exact ⟨⟨rfl, fun h => absurd h (by decide)⟩, hR, FS.refl _ _ _ _⟩ | exact ⟨⟨rfl, rfl, fun h => absurd h (by decide)⟩, hR, FS.refl _ _ _ _⟩
        | 3, _, ho =>
          clear hsk
          cases ho
          have e17 : ev (.tmp 17) = .slice (some ⟨qe, 0, none⟩) 2 2 := hs 17 (by kernel_rfl)
          go_simp
          first | exact ⟨rfl, hR, FS.refl _ _ _ _⟩ | exact ⟨⟨rfl, rfl⟩, hR, FS.refl _ _ _ _⟩ | exact ⟨⟨rfl, fun h => absurd h (by decide)⟩, hR, FS.refl _ _ _ _⟩ | exact ⟨⟨rfl, rfl, fun h => absurd h (by decide)⟩, hR, FS.refl _ _ _ _⟩
        | 4, _, ho =>
          clear hsk
          cases ho
          have e18 : ev (.tmp 18) = I 0 := hs 18 (by kernel_rfl)
          go_simp
          first | exact ⟨rfl, hR, FS.refl _ _ _ _⟩ | exact ⟨⟨rfl, rfl⟩, hR, FS.refl _ _ _ _⟩ | exact ⟨⟨rfl, fun h => absurd h (by decide)⟩, hR, FS.refl _ _ _ _⟩ | exact ⟨⟨rfl, rfl, fun h => absurd h (by decide)⟩, hR, FS.refl _ _ _ _⟩
        | 5, _, ho =>
          clear hsk
          cases ho
          have e140 : ev (.tmp 140) = .slice (some ⟨qe, 0, none⟩) 2 2 := hd 3 140 (by kernel_rfl)
          have e141 : ev (.tmp 141) = I 0 := hd 4 141 (by kernel_rfl)
          go_simp
          first | exact ⟨rfl, hR, FS.refl _ _ _ _⟩ | exact ⟨⟨rfl, rfl⟩, hR, FS.refl _ _ _ _⟩ | exact ⟨⟨rfl, fun h => absurd h (by decide)⟩, hR, FS.refl _ _ _ _⟩ | exact ⟨⟨rfl, rfl, fun h => absurd h (by decide)⟩, hR, FS.refl _ _ _ _⟩
        | 6, _, ho =>
          clear hsk
          cases ho
          have e142 : ev (.tmp 142) = .pointer (some ⟨qe, 0, none⟩) := hd 5 142 (by kernel_rfl)
          have m4 := hR.2.2.1.cell
          go_simp
          first | exact ⟨rfl, hR, FS.refl _ _ _ _⟩ | exact ⟨⟨rfl, rfl⟩, hR, FS.refl _ _ _ _⟩ | exact ⟨⟨rfl, fun h => absurd h (by decide)⟩, hR, FS.refl _ _ _ _⟩ | exact ⟨⟨rfl, rfl, fun h => absurd h (by decide)⟩, hR, FS.refl _ _ _ _⟩
        | 7, _, ho =>
          clear hsk
          cases ho
          have e137 : ev (.tmp 137) = .agg #[I r, .slice A ws.length c] := hd 0 137 (by kernel_rfl)
          have e138 : ev (.tmp 138) = .slice (some ⟨b, o, none⟩) sts.length cb := hd 1 138 (by kernel_rfl)
          have e139 : ev (.tmp 139) = I (k : Int) := hd 2 139 (by kernel_rfl)
          have e143 : ev (.tmp 143) = I pl := hd 6 143 (by kernel_rfl)
          go_simp
          refine (V.where_ hR.1.wings hR.2.1 hi (t := pl) (by omega) (by omega)).mono ?_
          rintro e wz ⟨rfl, hwz⟩
          first | exact ⟨rfl, hR.grow hwz, FS.below hwz⟩ | exact ⟨⟨rfl, rfl⟩, hR.grow hwz, FS.below hwz⟩ | exact ⟨⟨rfl, fun h => absurd h (by decide)⟩, hR.grow hwz, FS.below hwz⟩ | exact ⟨⟨rfl, rfl, fun h => absurd h (by decide)⟩, hR.grow hwz, FS.below hwz⟩
        | 8, _, ho =>
          clear hsk
          cases ho
          have e144 : ev (.tmp 144) = .tuple #[Sp (front ws sts (los ws) pl k) (front ws sts (his ws) pl k), I 0] := hd 7 144 (by kernel_rfl)
          go_simp
          first | exact ⟨rfl, hR, FS.refl _ _ _ _⟩ | exact ⟨⟨rfl, rfl⟩, hR, FS.refl _ _ _ _⟩ | exact ⟨⟨rfl, fun h => absurd h (by decide)⟩, hR, FS.refl _ _ _ _⟩ | exact ⟨⟨rfl, rfl, fun h => absurd h (by decide)⟩, hR, FS.refl _ _ _ _⟩
        | 9, _, ho =>
          clear hsk
          cases ho
          have e136 : ev (.tmp 136) = .tuple #[Sp (front ws sts (los ws) pl k) (front ws sts (his ws) pl k), I 0] := hd 8 136 (by kernel_rfl)
          go_simp
          first | exact ⟨rfl, hR, FS.refl _ _ _ _⟩ | exact ⟨⟨rfl, rfl⟩, hR, FS.refl _ _ _ _⟩ | exact ⟨⟨rfl, fun h => absurd h (by decide)⟩, hR, FS.refl _ _ _ _⟩ | exact ⟨⟨rfl, rfl, fun h => absurd h (by decide)⟩, hR, FS.refl _ _ _ _⟩
        | 10, _, ho =>
          clear hsk
          cases ho
          have e136 : ev (.tmp 136) = .tuple #[Sp (front ws sts (los ws) pl k) (front ws sts (his ws) pl k), I 0] := hd 8 136 (by kernel_rfl)
          go_simp
          first | exact ⟨rfl, hR, FS.refl _ _ _ _⟩ | exact ⟨⟨rfl, rfl⟩, hR, FS.refl _ _ _ _⟩ | exact ⟨⟨rfl, fun h => absurd h (by decide)⟩, hR, FS.refl _ _ _ _⟩ | exact ⟨⟨rfl, rfl, fun h => absurd h (by decide)⟩, hR, FS.refl _ _ _ _⟩
        | 11, _, ho =>
          clear hsk
          cases ho
          go_simp
          first | exact ⟨⟨_, rfl, hR.2.2.2, (by simp), SpB.new _ _⟩, hR.grow ((Below.refl _ _).alloc (Nat.le_refl _) _), FS.below ((Below.refl _ _).alloc (Nat.le_refl _) _)⟩ | exact ⟨⟨rfl, ⟨_, rfl, hR.2.2.2, (by simp), SpB.new _ _⟩⟩, hR.grow ((Below.refl _ _).alloc (Nat.le_refl _) _), FS.below ((Below.refl _ _).alloc (Nat.le_refl _) _)⟩ | exact ⟨⟨⟨_, rfl, hR.2.2.2, (by simp), SpB.new _ _⟩, fun h => absurd h (by decide)⟩, hR.grow ((Below.refl _ _).alloc (Nat.le_refl _) _), FS.below ((Below.refl _ _).alloc (Nat.le_refl _) _)⟩ | exact ⟨⟨rfl, ⟨_, rfl, hR.2.2.2, (by simp), SpB.new _ _⟩, fun h => absurd h (by decide)⟩, hR.grow ((Below.refl _ _).alloc (Nat.le_refl _) _), FS.below ((Below.refl _ _).alloc (Nat.le_refl _) _)⟩
        | 12, _, ho =>
          clear hsk
          cases ho
          obtain ⟨bx, e19, hb1, hb2, hb3⟩ : ∃ b, ev (.tmp 19) = .pointer (some ⟨b, 0, none⟩) ∧ wr.heap.size ≤ b ∧ some b ≠ Option.none ∧ SpB (P0 (fun x y : Int => x = front ws sts (los ws) pl k ∧ y = front ws sts (his ws) pl k)) w' b := hd 11 19 (by kernel_rfl)
          have e145 : ev (.tmp 145) = Sp (front ws sts (los ws) pl k) (front ws sts (his ws) pl k) := hd 9 145 (by kernel_rfl)
          obtain ⟨x0, y0, _, hbx⟩ := hb3
          have hcx := hbx.cell
          have hfx := hbx.free
          go_simp
          have hP : (fun x y : Int => x = front ws sts (los ws) pl k ∧ y = front ws sts (his ws) pl k) _ _ := ⟨rfl, rfl⟩
          have hin : SpB (P0 (fun x y : Int => x = front ws sts (los ws) pl k ∧ y = front ws sts (his ws) pl k)) w' bx := ⟨x0, y0, ‹_›, hbx⟩
          first | exact ⟨⟨rfl, fun t ht => (by cases ht; exact ⟨bx, e19, hb1, hb2, hin.put hP⟩)⟩, hR.put hbx (by omega) (by omega) (by omega), FS.put hb1 hin hP⟩ | exact ⟨fun t ht => (by cases ht; exact ⟨bx, e19, hb1, hb2, hin.put hP⟩), hR.put hbx (by omega) (by omega) (by omega), FS.put hb1 hin hP⟩
        | n + 13, hi, _ => exact absurd hi (by simp)
      intro ρ wE hR hρ hne K hK
      have p10 : ρ 10 = I 0 := hρ 10 (by simp)
      obtain ⟨q19, p11, hq19, _, x1, y1, ⟨rfl, rfl⟩, x19⟩ : ∃ b, ρ 11 = .pointer (some ⟨b, 0, none⟩) ∧ wr.heap.size ≤ b ∧ some b ≠ Option.none ∧ SpB (fun x y : Int => x = front ws sts (los ws) pl k ∧ y = front ws sts (his ws) pl k) wE b := hρ 12 (by simp)
      show K (putAll _ _ ρ 13) _
      simp only [putAll, dOf, List.getElem?_toArray, List.getElem?_cons_zero, List.getElem?_cons_succ, Option.bind_some, Act.put, List.setIfInBounds_toArray, List.set_cons_zero, List.set_cons_succ]
      rw [p10, p11]
      refine hK _ _ ?_
      change wpList _ _ _ [_] _ _
      clear hK K p10 p11 hρ hne
      have hq : w.heap.size ≤ q19 ∧ d ≠ q19 ∧ w2.heap.size ≠ q19 := ⟨by have := hT.1.below.size; omega, by have := hT.1.dr.lt; omega, by have := hT.1.box.lt; omega⟩
      have e19 := x19.cell
      generalize hyl : front ws sts (los ws) pl k = yl' at *
      generalize hyh : front ws sts (his ws) pl k = yh' at *
      clear hyl hyh
      go_wp2_with fail
      have T18 := (hR.up (Nat.zero_le _)).grow ((Below.refl _ _).alloc (Nat.le_refl _) (.cells #[I yh', I yl'] 3))
      have x19' := x19.alloc (.cells #[I yh', I yl'] 3)
      clear hR x19 e19 hT hq19
      generalize wE.alloc (.cells #[I yh', I yl'] 3) = w18 at *
      have hce := T18.2.2.1.cell
      have hcs := SlI.cellG T18.2.1 (show k < sts.length by have := V.len; omega)
      have hkl : (k : Int) < sts.length := by have := V.len; omega
      by_cases hE : pl = gI sts k
      · have hd1 : (pl == gI sts k) = true := by simp [hE]
        have HE := Lib.hid hE
        clear hE
        go_quiet (fail)
        go_wp2
        exact ⟨⟨1, rfl, by simp, T18.grow (below_drewN (Below.refl _ _) _)⟩, by simp [intOf]⟩
      · have hd1 : (pl == gI sts k) = false := by simp [hE]
        have m5 := m4 hE
        go_quiet (fail)
        have T19 := T18.grow (below_drewN (Below.refl _ _) nq)
        clear T18 hce hcs
        go_wp2_with fail
        refine wp_region_list_s (by kernel_rfl) (R := (fun w' => OnT d w2.heap.size r A c ws (some ⟨b, o, none⟩) sts qe #[I pl, I ph] w 0 w' ∧ SpB (fun _ _ => True) w' q19)) (F := FQ q19 #[I (front ws sts (los ws) (pl - 1) k), I (front ws sts (his ws) (pl - 1) k)]) [] [] [(12, 10)]
            [As.is _ _ (.agg #[I r, .slice A ws.length c]),
            As.is _ _ (.slice (some ⟨b, o, none⟩) sts.length cb),
            As.is _ _ (I (k : Int)),
            As.is _ _ (.slice (some ⟨qe, 0, none⟩) 2 2),
            As.is _ _ (I 0),
            As.is _ _ (.pointer (some ⟨qe, 0, none⟩)),
            As.is _ _ (I pl),
            As.is _ _ (I (pl - 1)),
            As.is _ _ (.tuple #[Sp (front ws sts (los ws) (pl - 1) k) (front ws sts (his ws) (pl - 1) k), I 0]),
            As.is _ _ (.tuple #[Sp (front ws sts (los ws) (pl - 1) k) (front ws sts (his ws) (pl - 1) k), I 0]),
            As.is _ _ (Sp (front ws sts (los ws) (pl - 1) k) (front ws sts (his ws) (pl - 1) k)),
            As.is _ _ (I 0),
            asQ _ q19 #[I (front ws sts (los ws) (pl - 1) k), I (front ws sts (his ws) (pl - 1) k)]] 199 (by kernel_rfl) rfl (⟨T19.grow (Below.refl _ _).drew, _, _, trivial, x19'⟩) (by simp) (by simp) ?_ (fun _ => FQ.refl _ _ _) ?_ ?_ ?_
        · intro i' hi' o' ho k' b' hg u w' hR hu
          match i', hi', ho with
          | 0, _, ho => cases ho; cases hg
          | 1, _, ho => cases ho; cases hg
          | 2, _, ho => cases ho; cases hg
          | 3, _, ho => cases ho; cases hg
          | 4, _, ho => cases ho; cases hg
          | 5, _, ho => cases ho; cases hg
          | 6, _, ho => cases ho; cases hg
          | 7, _, ho => cases ho; cases hg
          | 8, _, ho => cases ho; cases hg
          | 9, _, ho => cases ho; cases hg
          | 10, _, ho => cases ho; cases hg
          | 11, _, ho => cases ho; cases hg
          | 12, _, ho => cases ho; cases hg
          | n + 13, hi, _ => exact absurd hi (by simp)
        · intro i' hi' hsk; cases hsk
        · intro i' hi' hsk o' ho ev w' hR hc hf hg hs hd
          match i', hi', ho with
          | 0, _, ho =>
            clear hsk
            cases ho
            have e4 : ev (.tmp 4) = .pointer (some ⟨w2.heap.size, 0, none⟩) := hs 4 (by kernel_rfl)
            have m4 := hR.1.1.box.cell
            go_simp
            first | exact ⟨rfl, hR, FQ.refl _ _ _⟩ | exact ⟨⟨rfl, rfl⟩, hR, FQ.refl _ _ _⟩ | exact ⟨⟨rfl, fun h => absurd h (by decide)⟩, hR, FQ.refl _ _ _⟩ | exact ⟨⟨rfl, rfl, fun h => absurd h (by decide)⟩, hR, FQ.refl _ _ _⟩
          | 1, _, ho =>
            clear hsk
            cases ho
            have e5 : ev (.tmp 5) = .slice (some ⟨b, o, none⟩) sts.length cb := hs 5 (by kernel_rfl)
            go_simp
            first | exact ⟨rfl, hR, FQ.refl _ _ _⟩ | exact ⟨⟨rfl, rfl⟩, hR, FQ.refl _ _ _⟩ | exact ⟨⟨rfl, fun h => absurd h (by decide)⟩, hR, FQ.refl _ _ _⟩ | exact ⟨⟨rfl, rfl, fun h => absurd h (by decide)⟩, hR, FQ.refl _ _ _⟩
          | 2, _, ho =>
            clear hsk
            cases ho
            have e6 : ev (.tmp 6) = I (k : Int) := hs 6 (by kernel_rfl)
            go_simp
            first | exact ⟨rfl, hR, FQ.refl _ _ _⟩ | exact ⟨⟨rfl, rfl⟩, hR, FQ.refl _ _ _⟩ | exact ⟨⟨rfl, fun h => absurd h (by decide)⟩, hR, FQ.refl _ _ _⟩ | exact ⟨⟨rfl, rfl, fun h => absurd h (by decide)⟩, hR, FQ.refl _ _ _⟩
          | 3, _, ho =>
            clear hsk
            cases ho
            have e17 : ev (.tmp 17) = .slice (some ⟨qe, 0, none⟩) 2 2 := hs 17 (by kernel_rfl)
            go_simp
            first | exact ⟨rfl, hR, FQ.refl _ _ _⟩ | exact ⟨⟨rfl, rfl⟩, hR, FQ.refl _ _ _⟩ | exact ⟨⟨rfl, fun h => absurd h (by decide)⟩, hR, FQ.refl _ _ _⟩ | exact ⟨⟨rfl, rfl, fun h => absurd h (by decide)⟩, hR, FQ.refl _ _ _⟩
          | 4, _, ho =>
            clear hsk
            cases ho
            have e18 : ev (.tmp 18) = I 0 := hs 18 (by kernel_rfl)
            go_simp
            first | exact ⟨rfl, hR, FQ.refl _ _ _⟩ | exact ⟨⟨rfl, rfl⟩, hR, FQ.refl _ _ _⟩ | exact ⟨⟨rfl, fun h => absurd h (by decide)⟩, hR, FQ.refl _ _ _⟩ | exact ⟨⟨rfl, rfl, fun h => absurd h (by decide)⟩, hR, FQ.refl _ _ _⟩
          | 5, _, ho =>
            clear hsk
            cases ho
            have e175 : ev (.tmp 175) = .slice (some ⟨qe, 0, none⟩) 2 2 := hd 3 175 (by kernel_rfl)
            have e176 : ev (.tmp 176) = I 0 := hd 4 176 (by kernel_rfl)
            go_simp
            first | exact ⟨rfl, hR, FQ.refl _ _ _⟩ | exact ⟨⟨rfl, rfl⟩, hR, FQ.refl _ _ _⟩ | exact ⟨⟨rfl, fun h => absurd h (by decide)⟩, hR, FQ.refl _ _ _⟩ | exact ⟨⟨rfl, rfl, fun h => absurd h (by decide)⟩, hR, FQ.refl _ _ _⟩
          | 6, _, ho =>
            clear hsk
            cases ho
            have e177 : ev (.tmp 177) = .pointer (some ⟨qe, 0, none⟩) := hd 5 177 (by kernel_rfl)
            have m4 := hR.1.2.2.1.cell
            go_simp
            first | exact ⟨rfl, hR, FQ.refl _ _ _⟩ | exact ⟨⟨rfl, rfl⟩, hR, FQ.refl _ _ _⟩ | exact ⟨⟨rfl, fun h => absurd h (by decide)⟩, hR, FQ.refl _ _ _⟩ | exact ⟨⟨rfl, rfl, fun h => absurd h (by decide)⟩, hR, FQ.refl _ _ _⟩
          | 7, _, ho =>
            clear hsk
            cases ho
            have e178 : ev (.tmp 178) = I pl := hd 6 178 (by kernel_rfl)
            have ew : IntKind.i64.wrap (pl - 1) = pl - 1 := IntWalk.i64_in _ (by omega)
            go_simp
            first | exact ⟨rfl, hR, FQ.refl _ _ _⟩ | exact ⟨⟨rfl, rfl⟩, hR, FQ.refl _ _ _⟩ | exact ⟨⟨rfl, fun h => absurd h (by decide)⟩, hR, FQ.refl _ _ _⟩ | exact ⟨⟨rfl, rfl, fun h => absurd h (by decide)⟩, hR, FQ.refl _ _ _⟩
          | 8, _, ho =>
            clear hsk
            cases ho
            have e172 : ev (.tmp 172) = .agg #[I r, .slice A ws.length c] := hd 0 172 (by kernel_rfl)
            have e173 : ev (.tmp 173) = .slice (some ⟨b, o, none⟩) sts.length cb := hd 1 173 (by kernel_rfl)
            have e174 : ev (.tmp 174) = I (k : Int) := hd 2 174 (by kernel_rfl)
            have e179 : ev (.tmp 179) = I (pl - 1) := hd 7 179 (by kernel_rfl)
            go_simp
            refine (V.where_ hR.1.1.wings hR.1.2.1 hi (t := pl - 1) (by omega) (by omega)).mono ?_
            rintro e wz ⟨rfl, hwz⟩
            first | exact ⟨rfl, ⟨hR.1.grow hwz, by obtain ⟨x0, y0, h1, h2⟩ := hR.2; exact ⟨x0, y0, h1, h2.below hwz h2.lt⟩⟩, FQ.below hwz⟩ | exact ⟨⟨rfl, rfl⟩, ⟨hR.1.grow hwz, by obtain ⟨x0, y0, h1, h2⟩ := hR.2; exact ⟨x0, y0, h1, h2.below hwz h2.lt⟩⟩, FQ.below hwz⟩ | exact ⟨⟨rfl, fun h => absurd h (by decide)⟩, ⟨hR.1.grow hwz, by obtain ⟨x0, y0, h1, h2⟩ := hR.2; exact ⟨x0, y0, h1, h2.below hwz h2.lt⟩⟩, FQ.below hwz⟩ | exact ⟨⟨rfl, rfl, fun h => absurd h (by decide)⟩, ⟨hR.1.grow hwz, by obtain ⟨x0, y0, h1, h2⟩ := hR.2; exact ⟨x0, y0, h1, h2.below hwz h2.lt⟩⟩, FQ.below hwz⟩
          | 9, _, ho =>
            clear hsk
            cases ho
            have e180 : ev (.tmp 180) = .tuple #[Sp (front ws sts (los ws) (pl - 1) k) (front ws sts (his ws) (pl - 1) k), I 0] := hd 8 180 (by kernel_rfl)
            go_simp
            first | exact ⟨rfl, hR, FQ.refl _ _ _⟩ | exact ⟨⟨rfl, rfl⟩, hR, FQ.refl _ _ _⟩ | exact ⟨⟨rfl, fun h => absurd h (by decide)⟩, hR, FQ.refl _ _ _⟩ | exact ⟨⟨rfl, rfl, fun h => absurd h (by decide)⟩, hR, FQ.refl _ _ _⟩
          | 10, _, ho =>
            clear hsk
            cases ho
            have e171 : ev (.tmp 171) = .tuple #[Sp (front ws sts (los ws) (pl - 1) k) (front ws sts (his ws) (pl - 1) k), I 0] := hd 9 171 (by kernel_rfl)
            go_simp
            first | exact ⟨rfl, hR, FQ.refl _ _ _⟩ | exact ⟨⟨rfl, rfl⟩, hR, FQ.refl _ _ _⟩ | exact ⟨⟨rfl, fun h => absurd h (by decide)⟩, hR, FQ.refl _ _ _⟩ | exact ⟨⟨rfl, rfl, fun h => absurd h (by decide)⟩, hR, FQ.refl _ _ _⟩
          | 11, _, ho =>
            clear hsk
            cases ho
            have e171 : ev (.tmp 171) = .tuple #[Sp (front ws sts (los ws) (pl - 1) k) (front ws sts (his ws) (pl - 1) k), I 0] := hd 9 171 (by kernel_rfl)
            go_simp
            first | exact ⟨rfl, hR, FQ.refl _ _ _⟩ | exact ⟨⟨rfl, rfl⟩, hR, FQ.refl _ _ _⟩ | exact ⟨⟨rfl, fun h => absurd h (by decide)⟩, hR, FQ.refl _ _ _⟩ | exact ⟨⟨rfl, rfl, fun h => absurd h (by decide)⟩, hR, FQ.refl _ _ _⟩
          | 12, _, ho =>
            clear hsk
            cases ho
            have e19 : ev (.tmp 19) = .pointer (some ⟨q19, 0, none⟩) := hs 19 (by kernel_rfl)
            have e181 : ev (.tmp 181) = Sp (front ws sts (los ws) (pl - 1) k) (front ws sts (his ws) (pl - 1) k) := hd 10 181 (by kernel_rfl)
            obtain ⟨x0, y0, _, hbx⟩ := hR.2
            have hcx := hbx.cell
            have hfx := hbx.free
            go_simp
            have hput := FQ.put (x := I (front ws sts (los ws) (pl - 1) k)) (y := I (front ws sts (his ws) (pl - 1) k)) hbx
            first | exact ⟨⟨rfl, fun t ht => hput.2⟩, ⟨hR.1.put hbx hq.1 hq.2.1 hq.2.2, _, _, trivial, hput.2⟩, hput.1⟩ | exact ⟨fun t ht => hput.2, ⟨hR.1.put hbx hq.1 hq.2.1 hq.2.2, _, _, trivial, hput.2⟩, hput.1⟩
          | n + 13, hi, _ => exact absurd hi (by simp)
        intro ρ wE2 hR hρ hne K hK
        have p11 : ρ 11 = I 0 := hρ 11 (by simp)
        have x22 : Bx wE2 q19 27 #[I (front ws sts (los ws) (pl - 1) k), I (front ws sts (his ws) (pl - 1) k)] := hρ 12 (by simp)
        show K (putAll _ _ ρ 13) _
        simp only [putAll, dOf, List.getElem?_toArray, List.getElem?_cons_zero, List.getElem?_cons_succ, Option.bind_some, Act.put, List.setIfInBounds_toArray, List.set_cons_zero, List.set_cons_succ]
        rw [p11]
        refine hK _ _ ?_
        change wpList _ _ _ [_] _ _
        clear hK K p11 hρ hne
        obtain ⟨hR, _⟩ := hR
        generalize front ws sts (los ws) (pl - 1) k = zl at *
        generalize front ws sts (his ws) (pl - 1) k = zh at *
        have hc22 := x22.cell
        go_wp2
        exact ⟨⟨1, rfl, by simp, hR.grow ((Below.refl _ _).alloc (Nat.le_refl _) _)⟩, by simp [intOf]⟩

    · obtain ⟨m1, m2, m3, m4⟩ := M2
      have hbase : w.heap.size ≤ wr.heap.size ∧ d < wr.heap.size ∧ w2.heap.size < wr.heap.size := ⟨hT.1.below.size, hT.1.dr.lt, hT.1.box.lt⟩
      go_wp2_with fail
      refine wp_region_list_s (by kernel_rfl) (R := OnT d w2.heap.size r A c ws (some ⟨b, o, none⟩) sts qe #[I pl, I ph] w wr.heap.size) (F := FS Option.none wr.heap.size (fun x y : Int => x = front ws sts (los ws) ph k ∧ y = front ws sts (his ws) ph k)) [] [] [(12, 11)]
          [As.is _ _ (.agg #[I r, .slice A ws.length c]),
          As.is _ _ (.slice (some ⟨b, o, none⟩) sts.length cb),
          As.is _ _ (I (k : Int)),
          As.is _ _ (.slice (some ⟨qe, 0, none⟩) 2 2),
          As.is _ _ (I 1),
          As.is _ _ (.pointer (some ⟨qe, 1, none⟩)),
          As.is _ _ (I ph),
          As.is _ _ (.tuple #[Sp (front ws sts (los ws) ph k) (front ws sts (his ws) ph k), I 0]),
          As.is _ _ (.tuple #[Sp (front ws sts (los ws) ph k) (front ws sts (his ws) ph k), I 0]),
          As.is _ _ (Sp (front ws sts (los ws) ph k) (front ws sts (his ws) ph k)),
          As.is _ _ (I 0),
          asSp0 _ Option.none wr.heap.size (fun x y : Int => x = front ws sts (los ws) ph k ∧ y = front ws sts (his ws) ph k),
          asSp1 _ Option.none wr.heap.size (fun x y : Int => x = front ws sts (los ws) ph k ∧ y = front ws sts (his ws) ph k)] 199 (by kernel_rfl) rfl (⟨hT.1.drew, hT.2.1, hT.2.2.1, Nat.le_refl _⟩) (by simp) (by simp) ?_ (fun _ => FS.refl _ _ _ _) ?_ ?_ ?_
      · intro i' hi' o' ho k' b' hg u w' hR hu
        match i', hi', ho with
        | 0, _, ho => cases ho; cases hg
        | 1, _, ho => cases ho; cases hg
        | 2, _, ho => cases ho; cases hg
        | 3, _, ho => cases ho; cases hg
        | 4, _, ho => cases ho; cases hg
        | 5, _, ho => cases ho; cases hg
        | 6, _, ho => cases ho; cases hg
        | 7, _, ho => cases ho; cases hg
        | 8, _, ho => cases ho; cases hg
        | 9, _, ho => cases ho; cases hg
        | 10, _, ho => cases ho; cases hg
        | 11, _, ho => cases ho; cases hg
        | 12, _, ho => cases ho; cases hg
        | n + 13, hi, _ => exact absurd hi (by simp)
      · intro i' hi' hsk; cases hsk
      · intro i' hi' hsk o' ho ev w' hR hc hf hg hs hd
        match i', hi', ho with
        | 0, _, ho =>
          clear hsk
          cases ho
          have e4 : ev (.tmp 4) = .pointer (some ⟨w2.heap.size, 0, none⟩) := hs 4 (by kernel_rfl)
          have m4 := hR.1.box.cell
          go_simp
          first | exact ⟨rfl, hR, FS.refl _ _ _ _⟩ | exact ⟨⟨rfl, rfl⟩, hR, FS.refl _ _ _ _⟩ | exact ⟨⟨rfl, fun h => absurd h (by decide)⟩, hR, FS.refl _ _ _ _⟩ | exact ⟨⟨rfl, rfl, fun h => absurd h (by decide)⟩, hR, FS.refl _ _ _ _⟩
        | 1, _, ho =>
          clear hsk
          cases ho
          have e5 : ev (.tmp 5) = .slice (some ⟨b, o, none⟩) sts.length cb := hs 5 (by kernel_rfl)
          go_simp
          first | exact ⟨rfl, hR, FS.refl _ _ _ _⟩ | exact ⟨⟨rfl, rfl⟩, hR, FS.refl _ _ _ _⟩ | exact ⟨⟨rfl, fun h => absurd h (by decide)⟩, hR, FS.refl _ _ _ _⟩ | exact ⟨⟨rfl, rfl, fun h => absurd h (by decide)⟩, hR, FS.refl _ _ _ _⟩
        | 2, _, ho =>
          clear hsk
          cases ho
          have e6 : ev (.tmp 6) = I (k : Int) := hs 6 (by kernel_rfl)
          go_simp
          first | exact ⟨rfl, hR, FS.refl _ _ _ _⟩ | exact ⟨⟨rfl, rfl⟩, hR, FS.refl _ _ _ _⟩ | exact ⟨⟨rfl, fun h => absurd h (by decide)⟩, hR, FS.refl _ _ _ _⟩ | exact ⟨⟨rfl, rfl, fun h => absurd h (by decide)⟩, hR, FS.refl _ _ _ _⟩
        | 3, _, ho =>
          clear hsk
          cases ho
          have e17 : ev (.tmp 17) = .slice (some ⟨qe, 0, none⟩) 2 2 := hs 17 (by kernel_rfl)
          go_simp
          first | exact ⟨rfl, hR, FS.refl _ _ _ _⟩ | exact ⟨⟨rfl, rfl⟩, hR, FS.refl _ _ _ _⟩ | exact ⟨⟨rfl, fun h => absurd h (by decide)⟩, hR, FS.refl _ _ _ _⟩ | exact ⟨⟨rfl, rfl, fun h => absurd h (by decide)⟩, hR, FS.refl _ _ _ _⟩
        | 4, _, ho =>
          clear hsk
          cases ho
          have e18 : ev (.tmp 18) = I 1 := hs 18 (by kernel_rfl)
          go_simp
          first | exact ⟨rfl, hR, FS.refl _ _ _ _⟩ | exact ⟨⟨rfl, rfl⟩, hR, FS.refl _ _ _ _⟩ | exact ⟨⟨rfl, fun h => absurd h (by decide)⟩, hR, FS.refl _ _ _ _⟩ | exact ⟨⟨rfl, rfl, fun h => absurd h (by decide)⟩, hR, FS.refl _ _ _ _⟩
        | 5, _, ho =>
          clear hsk
          cases ho
          have e140 : ev (.tmp 140) = .slice (some ⟨qe, 0, none⟩) 2 2 := hd 3 140 (by kernel_rfl)
          have e141 : ev (.tmp 141) = I 1 := hd 4 141 (by kernel_rfl)
          go_simp
          first | exact ⟨rfl, hR, FS.refl _ _ _ _⟩ | exact ⟨⟨rfl, rfl⟩, hR, FS.refl _ _ _ _⟩ | exact ⟨⟨rfl, fun h => absurd h (by decide)⟩, hR, FS.refl _ _ _ _⟩ | exact ⟨⟨rfl, rfl, fun h => absurd h (by decide)⟩, hR, FS.refl _ _ _ _⟩
        | 6, _, ho =>
          clear hsk
          cases ho
          have e142 : ev (.tmp 142) = .pointer (some ⟨qe, 1, none⟩) := hd 5 142 (by kernel_rfl)
          have m4 := hR.2.2.1.cell
          go_simp
          first | exact ⟨rfl, hR, FS.refl _ _ _ _⟩ | exact ⟨⟨rfl, rfl⟩, hR, FS.refl _ _ _ _⟩ | exact ⟨⟨rfl, fun h => absurd h (by decide)⟩, hR, FS.refl _ _ _ _⟩ | exact ⟨⟨rfl, rfl, fun h => absurd h (by decide)⟩, hR, FS.refl _ _ _ _⟩
        | 7, _, ho =>
          clear hsk
          cases ho
          have e137 : ev (.tmp 137) = .agg #[I r, .slice A ws.length c] := hd 0 137 (by kernel_rfl)
          have e138 : ev (.tmp 138) = .slice (some ⟨b, o, none⟩) sts.length cb := hd 1 138 (by kernel_rfl)
          have e139 : ev (.tmp 139) = I (k : Int) := hd 2 139 (by kernel_rfl)
          have e143 : ev (.tmp 143) = I ph := hd 6 143 (by kernel_rfl)
          go_simp
          refine (V.where_ hR.1.wings hR.2.1 hi (t := ph) (by omega) (by omega)).mono ?_
          rintro e wz ⟨rfl, hwz⟩
          first | exact ⟨rfl, hR.grow hwz, FS.below hwz⟩ | exact ⟨⟨rfl, rfl⟩, hR.grow hwz, FS.below hwz⟩ | exact ⟨⟨rfl, fun h => absurd h (by decide)⟩, hR.grow hwz, FS.below hwz⟩ | exact ⟨⟨rfl, rfl, fun h => absurd h (by decide)⟩, hR.grow hwz, FS.below hwz⟩
        | 8, _, ho =>
          clear hsk
          cases ho
          have e144 : ev (.tmp 144) = .tuple #[Sp (front ws sts (los ws) ph k) (front ws sts (his ws) ph k), I 0] := hd 7 144 (by kernel_rfl)
          go_simp
          first | exact ⟨rfl, hR, FS.refl _ _ _ _⟩ | exact ⟨⟨rfl, rfl⟩, hR, FS.refl _ _ _ _⟩ | exact ⟨⟨rfl, fun h => absurd h (by decide)⟩, hR, FS.refl _ _ _ _⟩ | exact ⟨⟨rfl, rfl, fun h => absurd h (by decide)⟩, hR, FS.refl _ _ _ _⟩
        | 9, _, ho =>
          clear hsk
          cases ho
          have e136 : ev (.tmp 136) = .tuple #[Sp (front ws sts (los ws) ph k) (front ws sts (his ws) ph k), I 0] := hd 8 136 (by kernel_rfl)
          go_simp
          first | exact ⟨rfl, hR, FS.refl _ _ _ _⟩ | exact ⟨⟨rfl, rfl⟩, hR, FS.refl _ _ _ _⟩ | exact ⟨⟨rfl, fun h => absurd h (by decide)⟩, hR, FS.refl _ _ _ _⟩ | exact ⟨⟨rfl, rfl, fun h => absurd h (by decide)⟩, hR, FS.refl _ _ _ _⟩
        | 10, _, ho =>
          clear hsk
          cases ho
          have e136 : ev (.tmp 136) = .tuple #[Sp (front ws sts (los ws) ph k) (front ws sts (his ws) ph k), I 0] := hd 8 136 (by kernel_rfl)
          go_simp
          first | exact ⟨rfl, hR, FS.refl _ _ _ _⟩ | exact ⟨⟨rfl, rfl⟩, hR, FS.refl _ _ _ _⟩ | exact ⟨⟨rfl, fun h => absurd h (by decide)⟩, hR, FS.refl _ _ _ _⟩ | exact ⟨⟨rfl, rfl, fun h => absurd h (by decide)⟩, hR, FS.refl _ _ _ _⟩
        | 11, _, ho =>
          clear hsk
          cases ho
          go_simp
          first | exact ⟨⟨_, rfl, hR.2.2.2, (by simp), SpB.new _ _⟩, hR.grow ((Below.refl _ _).alloc (Nat.le_refl _) _), FS.below ((Below.refl _ _).alloc (Nat.le_refl _) _)⟩ | exact ⟨⟨rfl, ⟨_, rfl, hR.2.2.2, (by simp), SpB.new _ _⟩⟩, hR.grow ((Below.refl _ _).alloc (Nat.le_refl _) _), FS.below ((Below.refl _ _).alloc (Nat.le_refl _) _)⟩ | exact ⟨⟨⟨_, rfl, hR.2.2.2, (by simp), SpB.new _ _⟩, fun h => absurd h (by decide)⟩, hR.grow ((Below.refl _ _).alloc (Nat.le_refl _) _), FS.below ((Below.refl _ _).alloc (Nat.le_refl _) _)⟩ | exact ⟨⟨rfl, ⟨_, rfl, hR.2.2.2, (by simp), SpB.new _ _⟩, fun h => absurd h (by decide)⟩, hR.grow ((Below.refl _ _).alloc (Nat.le_refl _) _), FS.below ((Below.refl _ _).alloc (Nat.le_refl _) _)⟩
        | 12, _, ho =>
          clear hsk
          cases ho
          obtain ⟨bx, e19, hb1, hb2, hb3⟩ : ∃ b, ev (.tmp 19) = .pointer (some ⟨b, 0, none⟩) ∧ wr.heap.size ≤ b ∧ some b ≠ Option.none ∧ SpB (P0 (fun x y : Int => x = front ws sts (los ws) ph k ∧ y = front ws sts (his ws) ph k)) w' b := hd 11 19 (by kernel_rfl)
          have e145 : ev (.tmp 145) = Sp (front ws sts (los ws) ph k) (front ws sts (his ws) ph k) := hd 9 145 (by kernel_rfl)
          obtain ⟨x0, y0, _, hbx⟩ := hb3
          have hcx := hbx.cell
          have hfx := hbx.free
          go_simp
          have hP : (fun x y : Int => x = front ws sts (los ws) ph k ∧ y = front ws sts (his ws) ph k) _ _ := ⟨rfl, rfl⟩
          have hin : SpB (P0 (fun x y : Int => x = front ws sts (los ws) ph k ∧ y = front ws sts (his ws) ph k)) w' bx := ⟨x0, y0, ‹_›, hbx⟩
          first | exact ⟨⟨rfl, fun t ht => (by cases ht; exact ⟨bx, e19, hb1, hb2, hin.put hP⟩)⟩, hR.put hbx (by omega) (by omega) (by omega), FS.put hb1 hin hP⟩ | exact ⟨fun t ht => (by cases ht; exact ⟨bx, e19, hb1, hb2, hin.put hP⟩), hR.put hbx (by omega) (by omega) (by omega), FS.put hb1 hin hP⟩
        | n + 13, hi, _ => exact absurd hi (by simp)
      intro ρ wE hR hρ hne K hK
      have p10 : ρ 10 = I 0 := hρ 10 (by simp)
      obtain ⟨q19, p11, hq19, _, x1, y1, ⟨rfl, rfl⟩, x19⟩ : ∃ b, ρ 11 = .pointer (some ⟨b, 0, none⟩) ∧ wr.heap.size ≤ b ∧ some b ≠ Option.none ∧ SpB (fun x y : Int => x = front ws sts (los ws) ph k ∧ y = front ws sts (his ws) ph k) wE b := hρ 12 (by simp)
      show K (putAll _ _ ρ 13) _
      simp only [putAll, dOf, List.getElem?_toArray, List.getElem?_cons_zero, List.getElem?_cons_succ, Option.bind_some, Act.put, List.setIfInBounds_toArray, List.set_cons_zero, List.set_cons_succ]
      rw [p10, p11]
      refine hK _ _ ?_
      change wpList _ _ _ [_] _ _
      clear hK K p10 p11 hρ hne
      have hq : w.heap.size ≤ q19 ∧ d ≠ q19 ∧ w2.heap.size ≠ q19 := ⟨by have := hT.1.below.size; omega, by have := hT.1.dr.lt; omega, by have := hT.1.box.lt; omega⟩
      have e19 := x19.cell
      generalize hyl : front ws sts (los ws) ph k = yl' at *
      generalize hyh : front ws sts (his ws) ph k = yh' at *
      clear hyl hyh
      go_wp2_with fail
      have T18 := (hR.up (Nat.zero_le _)).grow ((Below.refl _ _).alloc (Nat.le_refl _) (.cells #[I yh', I yl'] 3))
      have x19' := x19.alloc (.cells #[I yh', I yl'] 3)
      clear hR x19 e19 hT hq19
      generalize wE.alloc (.cells #[I yh', I yl'] 3) = w18 at *
      have hce := T18.2.2.1.cell
      have hcs := SlI.cellG T18.2.1 (show k < sts.length by have := V.len; omega)
      have hkl : (k : Int) < sts.length := by have := V.len; omega
      by_cases hE : ph = gI sts k
      · have hd1 : (ph == gI sts k) = true := by simp [hE]
        have HE := Lib.hid hE
        clear hE
        go_quiet (fail)
        go_wp2
        exact ⟨⟨2, rfl, by simp, T18.grow (below_drewN (Below.refl _ _) _)⟩, by simp [intOf]⟩
      · have hd1 : (ph == gI sts k) = false := by simp [hE]
        have m5 := m4 hE
        go_quiet (fail)
        have T19 := T18.grow (below_drewN (Below.refl _ _) nq)
        clear T18 hce hcs
        go_wp2_with fail
        refine wp_region_list_s (by kernel_rfl) (R := (fun w' => OnT d w2.heap.size r A c ws (some ⟨b, o, none⟩) sts qe #[I pl, I ph] w 0 w' ∧ SpB (fun _ _ => True) w' q19)) (F := FQ q19 #[I (front ws sts (los ws) (ph - 1) k), I (front ws sts (his ws) (ph - 1) k)]) [] [] [(12, 10)]
            [As.is _ _ (.agg #[I r, .slice A ws.length c]),
            As.is _ _ (.slice (some ⟨b, o, none⟩) sts.length cb),
            As.is _ _ (I (k : Int)),
            As.is _ _ (.slice (some ⟨qe, 0, none⟩) 2 2),
            As.is _ _ (I 1),
            As.is _ _ (.pointer (some ⟨qe, 1, none⟩)),
            As.is _ _ (I ph),
            As.is _ _ (I (ph - 1)),
            As.is _ _ (.tuple #[Sp (front ws sts (los ws) (ph - 1) k) (front ws sts (his ws) (ph - 1) k), I 0]),
            As.is _ _ (.tuple #[Sp (front ws sts (los ws) (ph - 1) k) (front ws sts (his ws) (ph - 1) k), I 0]),
            As.is _ _ (Sp (front ws sts (los ws) (ph - 1) k) (front ws sts (his ws) (ph - 1) k)),
            As.is _ _ (I 0),
            asQ _ q19 #[I (front ws sts (los ws) (ph - 1) k), I (front ws sts (his ws) (ph - 1) k)]] 199 (by kernel_rfl) rfl (⟨T19.grow (Below.refl _ _).drew, _, _, trivial, x19'⟩) (by simp) (by simp) ?_ (fun _ => FQ.refl _ _ _) ?_ ?_ ?_
        · intro i' hi' o' ho k' b' hg u w' hR hu
          match i', hi', ho with
          | 0, _, ho => cases ho; cases hg
          | 1, _, ho => cases ho; cases hg
          | 2, _, ho => cases ho; cases hg
          | 3, _, ho => cases ho; cases hg
          | 4, _, ho => cases ho; cases hg
          | 5, _, ho => cases ho; cases hg
          | 6, _, ho => cases ho; cases hg
          | 7, _, ho => cases ho; cases hg
          | 8, _, ho => cases ho; cases hg
          | 9, _, ho => cases ho; cases hg
          | 10, _, ho => cases ho; cases hg
          | 11, _, ho => cases ho; cases hg
          | 12, _, ho => cases ho; cases hg
          | n + 13, hi, _ => exact absurd hi (by simp)
        · intro i' hi' hsk; cases hsk
        · intro i' hi' hsk o' ho ev w' hR hc hf hg hs hd
          match i', hi', ho with
          | 0, _, ho =>
            clear hsk
            cases ho
            have e4 : ev (.tmp 4) = .pointer (some ⟨w2.heap.size, 0, none⟩) := hs 4 (by kernel_rfl)
            have m4 := hR.1.1.box.cell
            go_simp
            first | exact ⟨rfl, hR, FQ.refl _ _ _⟩ | exact ⟨⟨rfl, rfl⟩, hR, FQ.refl _ _ _⟩ | exact ⟨⟨rfl, fun h => absurd h (by decide)⟩, hR, FQ.refl _ _ _⟩ | exact ⟨⟨rfl, rfl, fun h => absurd h (by decide)⟩, hR, FQ.refl _ _ _⟩
          | 1, _, ho =>
            clear hsk
            cases ho
            have e5 : ev (.tmp 5) = .slice (some ⟨b, o, none⟩) sts.length cb := hs 5 (by kernel_rfl)
            go_simp
            first | exact ⟨rfl, hR, FQ.refl _ _ _⟩ | exact ⟨⟨rfl, rfl⟩, hR, FQ.refl _ _ _⟩ | exact ⟨⟨rfl, fun h => absurd h (by decide)⟩, hR, FQ.refl _ _ _⟩ | exact ⟨⟨rfl, rfl, fun h => absurd h (by decide)⟩, hR, FQ.refl _ _ _⟩
          | 2, _, ho =>
            clear hsk
            cases ho
            have e6 : ev (.tmp 6) = I (k : Int) := hs 6 (by kernel_rfl)
            go_simp
            first | exact ⟨rfl, hR, FQ.refl _ _ _⟩ | exact ⟨⟨rfl, rfl⟩, hR, FQ.refl _ _ _⟩ | exact ⟨⟨rfl, fun h => absurd h (by decide)⟩, hR, FQ.refl _ _ _⟩ | exact ⟨⟨rfl, rfl, fun h => absurd h (by decide)⟩, hR, FQ.refl _ _ _⟩
          | 3, _, ho =>
            clear hsk
            cases ho
            have e17 : ev (.tmp 17) = .slice (some ⟨qe, 0, none⟩) 2 2 := hs 17 (by kernel_rfl)
            go_simp
            first | exact ⟨rfl, hR, FQ.refl _ _ _⟩ | exact ⟨⟨rfl, rfl⟩, hR, FQ.refl _ _ _⟩ | exact ⟨⟨rfl, fun h => absurd h (by decide)⟩, hR, FQ.refl _ _ _⟩ | exact ⟨⟨rfl, rfl, fun h => absurd h (by decide)⟩, hR, FQ.refl _ _ _⟩
          | 4, _, ho =>
            clear hsk
            cases ho
            have e18 : ev (.tmp 18) = I 1 := hs 18 (by kernel_rfl)
            go_simp
            first | exact ⟨rfl, hR, FQ.refl _ _ _⟩ | exact ⟨⟨rfl, rfl⟩, hR, FQ.refl _ _ _⟩ | exact ⟨⟨rfl, fun h => absurd h (by decide)⟩, hR, FQ.refl _ _ _⟩ | exact ⟨⟨rfl, rfl, fun h => absurd h (by decide)⟩, hR, FQ.refl _ _ _⟩
          | 5, _, ho =>
            clear hsk
            cases ho
            have e175 : ev (.tmp 175) = .slice (some ⟨qe, 0, none⟩) 2 2 := hd 3 175 (by kernel_rfl)
            have e176 : ev (.tmp 176) = I 1 := hd 4 176 (by kernel_rfl)
            go_simp
            first | exact ⟨rfl, hR, FQ.refl _ _ _⟩ | exact ⟨⟨rfl, rfl⟩, hR, FQ.refl _ _ _⟩ | exact ⟨⟨rfl, fun h => absurd h (by decide)⟩, hR, FQ.refl _ _ _⟩ | exact ⟨⟨rfl, rfl, fun h => absurd h (by decide)⟩, hR, FQ.refl _ _ _⟩
          | 6, _, ho =>
            clear hsk
            cases ho
            have e177 : ev (.tmp 177) = .pointer (some ⟨qe, 1, none⟩) := hd 5 177 (by kernel_rfl)
            have m4 := hR.1.2.2.1.cell
            go_simp
            first | exact ⟨rfl, hR, FQ.refl _ _ _⟩ | exact ⟨⟨rfl, rfl⟩, hR, FQ.refl _ _ _⟩ | exact ⟨⟨rfl, fun h => absurd h (by decide)⟩, hR, FQ.refl _ _ _⟩ | exact ⟨⟨rfl, rfl, fun h => absurd h (by decide)⟩, hR, FQ.refl _ _ _⟩
          | 7, _, ho =>
            clear hsk
            cases ho
            have e178 : ev (.tmp 178) = I ph := hd 6 178 (by kernel_rfl)
            have ew : IntKind.i64.wrap (ph - 1) = ph - 1 := IntWalk.i64_in _ (by omega)
            go_simp
            first | exact ⟨rfl, hR, FQ.refl _ _ _⟩ | exact ⟨⟨rfl, rfl⟩, hR, FQ.refl _ _ _⟩ | exact ⟨⟨rfl, fun h => absurd h (by decide)⟩, hR, FQ.refl _ _ _⟩ | exact ⟨⟨rfl, rfl, fun h => absurd h (by decide)⟩, hR, FQ.refl _ _ _⟩
          | 8, _, ho =>
            clear hsk
            cases ho
            have e172 : ev (.tmp 172) = .agg #[I r, .slice A ws.length c] := hd 0 172 (by kernel_rfl)
            have e173 : ev (.tmp 173) = .slice (some ⟨b, o, none⟩) sts.length cb := hd 1 173 (by kernel_rfl)
            have e174 : ev (.tmp 174) = I (k : Int) := hd 2 174 (by kernel_rfl)
            have e179 : ev (.tmp 179) = I (ph - 1) := hd 7 179 (by kernel_rfl)
            go_simp
            refine (V.where_ hR.1.1.wings hR.1.2.1 hi (t := ph - 1) (by omega) (by omega)).mono ?_
            rintro e wz ⟨rfl, hwz⟩
            first | exact ⟨rfl, ⟨hR.1.grow hwz, by obtain ⟨x0, y0, h1, h2⟩ := hR.2; exact ⟨x0, y0, h1, h2.below hwz h2.lt⟩⟩, FQ.below hwz⟩ | exact ⟨⟨rfl, rfl⟩, ⟨hR.1.grow hwz, by obtain ⟨x0, y0, h1, h2⟩ := hR.2; exact ⟨x0, y0, h1, h2.below hwz h2.lt⟩⟩, FQ.below hwz⟩ | exact ⟨⟨rfl, fun h => absurd h (by decide)⟩, ⟨hR.1.grow hwz, by obtain ⟨x0, y0, h1, h2⟩ := hR.2; exact ⟨x0, y0, h1, h2.below hwz h2.lt⟩⟩, FQ.below hwz⟩ | exact ⟨⟨rfl, rfl, fun h => absurd h (by decide)⟩, ⟨hR.1.grow hwz, by obtain ⟨x0, y0, h1, h2⟩ := hR.2; exact ⟨x0, y0, h1, h2.below hwz h2.lt⟩⟩, FQ.below hwz⟩
          | 9, _, ho =>
            clear hsk
            cases ho
            have e180 : ev (.tmp 180) = .tuple #[Sp (front ws sts (los ws) (ph - 1) k) (front ws sts (his ws) (ph - 1) k), I 0] := hd 8 180 (by kernel_rfl)
            go_simp
            first | exact ⟨rfl, hR, FQ.refl _ _ _⟩ | exact ⟨⟨rfl, rfl⟩, hR, FQ.refl _ _ _⟩ | exact ⟨⟨rfl, fun h => absurd h (by decide)⟩, hR, FQ.refl _ _ _⟩ | exact ⟨⟨rfl, rfl, fun h => absurd h (by decide)⟩, hR, FQ.refl _ _ _⟩
          | 10, _, ho =>
            clear hsk
            cases ho
            have e171 : ev (.tmp 171) = .tuple #[Sp (front ws sts (los ws) (ph - 1) k) (front ws sts (his ws) (ph - 1) k), I 0] := hd 9 171 (by kernel_rfl)
            go_simp
            first | exact ⟨rfl, hR, FQ.refl _ _ _⟩ | exact ⟨⟨rfl, rfl⟩, hR, FQ.refl _ _ _⟩ | exact ⟨⟨rfl, fun h => absurd h (by decide)⟩, hR, FQ.refl _ _ _⟩ | exact ⟨⟨rfl, rfl, fun h => absurd h (by decide)⟩, hR, FQ.refl _ _ _⟩
          | 11, _, ho =>
            clear hsk
            cases ho
            have e171 : ev (.tmp 171) = .tuple #[Sp (front ws sts (los ws) (ph - 1) k) (front ws sts (his ws) (ph - 1) k), I 0] := hd 9 171 (by kernel_rfl)
            go_simp
            first | exact ⟨rfl, hR, FQ.refl _ _ _⟩ | exact ⟨⟨rfl, rfl⟩, hR, FQ.refl _ _ _⟩ | exact ⟨⟨rfl, fun h => absurd h (by decide)⟩, hR, FQ.refl _ _ _⟩ | exact ⟨⟨rfl, rfl, fun h => absurd h (by decide)⟩, hR, FQ.refl _ _ _⟩
          | 12, _, ho =>
            clear hsk
            cases ho
            have e19 : ev (.tmp 19) = .pointer (some ⟨q19, 0, none⟩) := hs 19 (by kernel_rfl)
            have e181 : ev (.tmp 181) = Sp (front ws sts (los ws) (ph - 1) k) (front ws sts (his ws) (ph - 1) k) := hd 10 181 (by kernel_rfl)
            obtain ⟨x0, y0, _, hbx⟩ := hR.2
            have hcx := hbx.cell
            have hfx := hbx.free
            go_simp
            have hput := FQ.put (x := I (front ws sts (los ws) (ph - 1) k)) (y := I (front ws sts (his ws) (ph - 1) k)) hbx
            first | exact ⟨⟨rfl, fun t ht => hput.2⟩, ⟨hR.1.put hbx hq.1 hq.2.1 hq.2.2, _, _, trivial, hput.2⟩, hput.1⟩ | exact ⟨fun t ht => hput.2, ⟨hR.1.put hbx hq.1 hq.2.1 hq.2.2, _, _, trivial, hput.2⟩, hput.1⟩
          | n + 13, hi, _ => exact absurd hi (by simp)
        intro ρ wE2 hR hρ hne K hK
        have p11 : ρ 11 = I 0 := hρ 11 (by simp)
        have x22 : Bx wE2 q19 27 #[I (front ws sts (los ws) (ph - 1) k), I (front ws sts (his ws) (ph - 1) k)] := hρ 12 (by simp)
        show K (putAll _ _ ρ 13) _
        simp only [putAll, dOf, List.getElem?_toArray, List.getElem?_cons_zero, List.getElem?_cons_succ, Option.bind_some, Act.put, List.setIfInBounds_toArray, List.set_cons_zero, List.set_cons_succ]
        rw [p11]
        refine hK _ _ ?_
        change wpList _ _ _ [_] _ _
        clear hK K p11 hρ hne
        obtain ⟨hR, _⟩ := hR
        generalize front ws sts (los ws) (ph - 1) k = zl at *
        generalize front ws sts (his ws) (ph - 1) k = zh at *
        have hc22 := x22.cell
        go_wp2
        exact ⟨⟨2, rfl, by simp, hR.grow ((Below.refl _ _).alloc (Nat.le_refl _) _)⟩, by simp [intOf]⟩

    · go_wp2_with fail
      refine (awake_c _).mono ?_
      rintro e w20 ⟨rfl, hb20⟩
      have hB := hT.1.below.trans (hb20.mono hT.1.below.size)
      go_wp2
      go_ret
      exact ⟨rfl, hB⟩

namespace paradeOn
open Go.ChangeShapes Go.WideShapes Go.ChangeAt Go.RowKit

set_option maxRecDepth 100000 in
theorem lifted (os : Os) (started : os.Started) (H : Type) (enc : TypeId × Value → H) :
    ReturnsInHanded {} Try.checked os 10 .any (Rows.paradeOnSpec.pre6 enc Try.prog Try.f10 Rows.paradeOnRow.domain false) (Rows.paradeOnSpec.post enc Try.prog Try.f10 false true false false) := by
  refine returnsInHanded_of_change (C := Try.checked) prog_own started (by kernel_rfl) Try.func10
    (ChangeSpec.witness6 (enc := enc) (C := Try.checked) false ⟨#[], #[.slice none 0 0], []⟩ 8 (by kernel_rfl) (by kernel_rfl) (by kernel_rfl) (by kernel_rfl)) ?_
  intro W base args ds gs before hval0 hW hcnd _
  have hval : ∀ (j : Nat) t v, Try.f10.params[j]? = some t → args[j]? = some v → Value.okWide Try.prog W .any base t v := hval0
  have hW' := hW
  obtain ⟨p, q, hA0, hV, rfl, hfz, hnd⟩ := hW
  have hA : DataW.TrodAll enc Try.prog W 0 (fun _ => true) true Try.f10.params.toList args.toList ds p := hA0
  rw [Try.params10] at hA hval
  obtain ⟨v0, vs0, d0, ds0, p0, q0, hargs, rfl, rfl, h0, r0⟩ := trodAll_cons hA
  obtain ⟨rfl, rfl, rfl⟩ := trodAll_nil r0
  obtain rfl : args = #[v0] := by cases args; simp_all
  obtain ⟨rfl, rfl⟩ := trodVars_none hV
  obtain ⟨a0, len0, cap0, rfl⟩ := okWide_slice Try.underlying25 (hval 0 25 v0 rfl rfl)
  have k0 := h0
  have lt0 : ∀ x ∈ p0, x.block < W.heap.size := by obtain ⟨m, hm⟩ := k0; exact DataW.trod_lt m _ _ _ hm
  obtain ⟨T, zs, rfl, hs, hm⟩ := ints_sl h0
  clear hA0 hval0
  refine (on_c a0 cap0 T zs W hs hm).mono fun e W' ⟨he, bel⟩ => ?_
  subst he
  exact ⟨_, rfl, _, _, _, [], _, [], hW', trodAll_mk1 (shut_bool Try.underlying4 _), (trodAll_cons_mk (Below.trod prog_laid (by kernel_rfl) (of_decide_eq_true (by kernel_rfl)) k0 bel lt0) trodAll_mk0), rfl, bel.frame _, fun h => by cases h⟩

theorem proved : Rows.ParadeOnSaid :=
  OpenClaim.holds_of_wide 10 Try.f10 rfl rfl rfl rfl rfl rfl rfl ⟨rfl, rfl, rfl, rfl, rfl⟩ rfl rfl rfl rfl rfl (by kernel_rfl) Try.func10 (by kernel_rfl)
    (of_decide_eq_true (by kernel_rfl)) (by unfold Func.isWrapper; first | (rw [if_pos (by decide +kernel)]; kernel_rfl) | (rw [if_neg (by decide +kernel)]; exact ⟨rfl, rfl⟩))
    (fun os started H enc _ => lifted os started H enc)
end paradeOn
end Go.Proofs.Ytgdalimggamgmaa
