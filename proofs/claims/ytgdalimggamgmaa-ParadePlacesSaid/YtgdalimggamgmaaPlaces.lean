/- ParadePlaces. Own work. -/
import Derived.Test.YtgdalimggamgmaaLawKit
import Derived.Test.YtgdalimggamgmaaAsk
namespace Go.Proofs.Ytgdalimggamgmaa
open Go.RowKit Go.ChangeShapes Go.WideShapes Go.ChangeAt
set_option linter.unusedVariables false
set_option linter.unusedSimpArgs false

/-- What holds while the rows are laid. -/
def PlR (d q : Nat) (r : Int) (A : Option Addr) (c : Nat) (ws : List Wg) (B : Option Addr) (sts : List Int) (qs : Nat) (ss : Array Value) (w0 w : World) : Prop :=
  LK d q r A c ws w0 w ∧ SlI w 3 B sts ∧ Bx w qs 24 ss
section
variable {d q : Nat} {r : Int} {A : Option Addr} {c : Nat} {ws : List Wg} {B : Option Addr} {sts : List Int} {qs : Nat} {ss : Array Value} {w0 w w' : World}
theorem PlR.kp (h : PlR d q r A c ws B sts qs ss w0 w) (hk : w.grownBy w' (some d)) (hd : Dr w' d) : PlR d q r A c ws B sts qs ss w0 w' :=
  ⟨h.1.kp hk hd, Sl.kp h.2.1 h.1.dr hk (by decide), h.2.2.kp hk (bx_ne h.2.2 h.1.dr (by decide))⟩
theorem PlR.grow (h : PlR d q r A c ws B sts qs ss w0 w) (hb : Below w.heap.size w w') : PlR d q r A c ws B sts qs ss w0 w' :=
  h.kp (kp_of_below hb (Nat.le_refl _)) (h.1.dr.below hb h.1.dr.lt)
end

theorem places_row {x0 x1 : Qu} {b17 b18 b19 b20 b21 : Nat} {wing k second s2 place p2 : Int} {w0 w : World} {i : Nat} (hi : i < 4)
    (h : QS x0 x1 b17 b18 #[I x0.r, .slice x0.A x0.ws.length x0.c, I x1.r, .slice x1.A x1.ws.length x1.c, I x1.r, .slice x1.A x1.ws.length x1.c, I x1.r, .slice x1.A x1.ws.length x1.c] #[.slice x0.B x0.sts.length x0.cb, .slice x1.B x1.sts.length x1.cb, .slice x1.B x1.sts.length x1.cb, .slice x1.B x1.sts.length x1.cb] [(b19, #[I wing, I k, I k, I wing]), (b20, #[I second, I s2, I second, I second]), (b21, #[I place, I p2, I place, I place])] w0 w) :
    ∃ (x : Qu) (wi se pl : Int), QF b17 b18 i x [(b19, wi), (b20, se), (b21, pl)] w := by
  have h1 := h.n (b19, #[I wing, I k, I k, I wing]) (by simp)
  have h2 := h.n (b20, #[I second, I s2, I second, I second]) (by simp)
  have h3 := h.n (b21, #[I place, I p2, I place, I place]) (by simp)
  have hcs := h.s.cell
  have hcl := h.l.cell
  have e1 := h1.cell
  have e2 := h2.cell
  have e3 := h3.cell
  have hn : ∀ wi se pl : Int, w.cell? ⟨b19, i, none⟩ = some (I wi) → w.cell? ⟨b20, i, none⟩ = some (I se) → w.cell? ⟨b21, i, none⟩ = some (I pl) → ∀ p ∈ [(b19, wi), (b20, se), (b21, pl)], p.1 < w.heap.size ∧ w.cell? ⟨p.1, i, none⟩ = some (I p.2) := by
    intro wi se pl a1 a2 a3 p hp
    simp only [List.mem_cons, List.not_mem_nil, or_false] at hp
    rcases hp with rfl | rfl | rfl
    · exact ⟨h1.lt, a1⟩
    · exact ⟨h2.lt, a2⟩
    · exact ⟨h3.lt, a3⟩
  match i, hi with
  | 0, _ => exact ⟨x0, wing, second, place, h.o0, h.s.lt, h.l.lt, hcs 0, hcs 1, hcl 0, hn _ _ _ (e1 0) (e2 0) (e3 0)⟩
  | 1, _ => exact ⟨x1, k, s2, p2, h.o1, h.s.lt, h.l.lt, hcs 2, hcs 3, hcl 1, hn _ _ _ (e1 1) (e2 1) (e3 1)⟩
  | 2, _ => exact ⟨x1, k, second, place, h.o1, h.s.lt, h.l.lt, hcs 4, hcs 5, hcl 2, hn _ _ _ (e1 2) (e2 2) (e3 2)⟩
  | 3, _ => exact ⟨x1, wing, second, place, h.o1, h.s.lt, h.l.lt, hcs 6, hcs 7, hcl 3, hn _ _ _ (e1 3) (e2 3) (e3 3)⟩

set_option maxRecDepth 100000 in
set_option maxHeartbeats 6000000 in
theorem places_c (rs : Int) (Ar : Option Addr) (cs : Nat) (wss : List Wg) (Ts : TypeId) (Bs : Option Addr) (cbs : Nat) (stss : List Int) (Tt : TypeId) (wing second place : Int) (A0 : Option Addr) (c0 : Nat) (T0 : TypeId) (zs : List Int) (w : World)
    (ok : Qu.ok ⟨rs, Ar, cs, wss, Ts, Bs, cbs, stss, Tt⟩ w) (hs0 : SlI w T0 A0 zs) (hl0 : zs.length ≤ maxLen) :
    Calls Try.prog 4 #[.agg #[I rs, .slice Ar wss.length cs], .slice Bs stss.length cbs, I wing, I second, I place, .slice A0 zs.length c0] w (LawPost w) := by
  have xs0 := Bx.new w 24 #[I rs, .slice Ar wss.length cs]
  have hA := (Below.refl w.heap.size w).alloc (Nat.le_refl _) (.cells #[I rs, .slice Ar wss.length cs] 24)
  have hl2 := ok.l2
  unfold maxLen at hl2
  have hcs0 := xs0.cell
  go_enter Try.func4, Try.ntmps4
  go_wp2_with fail
  refine (long_c rs Ar cs wss Ts _ (ok.grow hA).h1 ok.fit ok.l1).mono ?_
  rintro e wA ⟨bl, rfl, hbA⟩
  have hB0 := hA.trans (hbA.mono hA.size)
  have xsA := xs0.below hbA xs0.lt
  clear xs0 hcs0 hA hbA
  by_cases hgo : bl = true ∨ 20 < stss.length
  · have haw : ∀ W, Below w.heap.size w W → Calls Try.prog 14 #[] W fun e w' => e = .returned (.bool true) ∧ Below w.heap.size w w' := fun W hW => (awake_c W).mono fun e w' ⟨he, hb⟩ => ⟨he, hW.trans (hb.mono hW.size)⟩
    cases bl with
    | true =>
      go_wp2_with fail
      refine (haw _ hB0).mono ?_
      rintro e w20 ⟨rfl, hB⟩
      go_wp2
      go_ret
      exact ⟨rfl, hB⟩
    | false =>
      have hlong : 20 < stss.length := by simpa using hgo
      go_wp2_with fail
      refine (haw _ hB0).mono ?_
      rintro e w20 ⟨rfl, hB⟩
      go_wp2
      go_ret
      exact ⟨rfl, hB⟩
  obtain ⟨hbl, hshort⟩ : bl = false ∧ stss.length ≤ 20 := by
    constructor
    · cases bl with
      | true => exact absurd (.inl rfl) hgo
      | false => rfl
    · by_cases h : 20 < stss.length
      · exact absurd (.inr h) hgo
      · omega
  subst hbl
  clear hgo
  have okA := ok.grow (show Below w.heap.size w wA from hB0)
  have hsA : SlI wA T0 A0 zs := Sl.below hs0 hB0 (Nat.le_refl _)
  go_wp2_with fail
  refine (drumOf_c A0 c0 T0 zs _ hsA hl0).mono ?_
  rintro e w1 ⟨d, rfl, hd1, hdn', hb1'⟩
  have hdn : w.heap.size ≤ d := Nat.le_trans hB0.size hdn'
  have hb1 := hB0.trans (hb1'.mono hB0.size)
  have xs1 := xsA.below hb1' xsA.lt
  clear hb1' hB0 xsA hsA okA
  go_wp2_with fail
  refine (schoolOf_c d 6 _ hd1 (by omega) (by omega)).mono ?_
  rintro e w2 ⟨r, A, c, ws, rfl, hws2, hd2, hk2, hr1, hr2, hn1, hn2, hm, hcap⟩
  have hB2 := below_of_kp hb1 hk2 hdn hb1.size
  have L3 : LK d w2.heap.size r A c ws w (w2.alloc (.cells #[I r, .slice A ws.length c] 24)) :=
    ⟨hd2.alloc _, Bx.new _ _ _, hws2.alloc _, hB2.alloc hB2.size _, hdn, hB2.size⟩
  have xs3 := (xs1.kp hk2 (bx_ne xs1 hd1 (by decide))).alloc (.cells #[I r, .slice A ws.length c] 24)
  clear hb1 hk2 hd1 hws2 hd2 xs1
  have hchk := made_chk hm hr1 hr2 hn1 (by omega)
  have hn6 : ws.length ≤ 6 := by omega
  have hc3 := L3.box.cell
  go_wp2_with fail
  refine (startsOf_c d r A c ws _ L3.dr L3.wings hm hchk).mono ?_
  rintro e w4 ⟨B, cb, sts, rfl, hsl4, hcapb, hd4, hk4, hlen, hcst, hst⟩
  have L4 := L3.kp hk4 hd4
  have xs4 := xs3.kp hk4 (bx_ne xs3 L3.dr (by decide))
  have V : LV r c ws sts cb := ⟨hm, hr1, hr2, hn1, by omega, hcap, hlen, hcapb, hcst, hst⟩
  clear hk4 hd4 hcst hst hlen hcapb L3 xs3 hc3
  have hc4 := L4.box.cell
  go_wp2_with fail
  refine (roll_c d ws.length (ws.length - 1) _ L4.dr (by omega) (by omega) (by omega) (by omega)).mono ?_
  rintro e w5 ⟨k1, rfl, hk1, hk2, hd5, hg5⟩
  have L5 := L4.kp hg5 hd5
  have xs5 := xs4.kp hg5 (bx_ne xs4 L4.dr (by decide))
  have hsl5 : SlI w5 3 B sts := hsl4.kp L4.dr hg5 (by decide)
  clear hc4 hsl4 L4 hg5 hd5 xs4
  obtain ⟨k, rfl⟩ := Int.eq_ofNat_of_zero_le hk1
  have hi : k < ws.length := by omega
  have hks : k < sts.length := by have := V.len; omega
  have hks' : (k : Int) < sts.length := by omega
  obtain ⟨b, o, rfl, _⟩ := SlI.some_ hsl5 hks
  have hS := V.start hi
  clear hk1 hk2
  go_wp2_with fail
  have hRd : ∀ w', PlR d w2.heap.size r A c ws (some ⟨b, o, none⟩) sts w.heap.size #[I rs, .slice Ar wss.length cs] w w' → Dr w' d := fun _ h => h.1.dr
  refine wp_region_list_s (by kernel_rfl) (R := PlR d w2.heap.size r A c ws (some ⟨b, o, none⟩) sts w.heap.size #[I rs, .slice Ar wss.length cs] w) (F := DF d) [] [] []
      [As.is _ _ (.agg #[I rs, .slice Ar wss.length cs]),
      As.is _ _ (.agg #[I r, .slice A ws.length c]),
      As.is _ _ (.agg #[I r, .slice A ws.length c]),
      As.is _ _ (.agg #[I r, .slice A ws.length c]),
      asBox _ d hRd 24 #[I rs, .slice Ar wss.length cs, I r, .slice A ws.length c, I r, .slice A ws.length c, I r, .slice A ws.length c] 4 4 (by decide),
      As.is _ _ (.slice Bs stss.length cbs),
      As.is _ _ (.slice (some ⟨b, o, none⟩) sts.length cb),
      As.is _ _ (.slice (some ⟨b, o, none⟩) sts.length cb),
      As.is _ _ (.slice (some ⟨b, o, none⟩) sts.length cb),
      asBox _ d hRd 25 #[.slice Bs stss.length cbs, .slice (some ⟨b, o, none⟩) sts.length cb, .slice (some ⟨b, o, none⟩) sts.length cb, .slice (some ⟨b, o, none⟩) sts.length cb] 4 4 (by decide),
      As.is _ _ (I wing),
      As.is _ _ (I (k : Int)),
      As.is _ _ (I (k : Int)),
      As.is _ _ (I wing),
      asBox _ d hRd 3 #[I wing, I (k : Int), I (k : Int), I wing] 4 4 (by decide),
      As.is _ _ (I second),
      As.is _ _ (.slice (some ⟨b, o, none⟩) sts.length cb),
      As.is _ _ (I (k : Int)),
      As.is _ _ (.pointer (some ⟨b, o + k, none⟩)),
      As.is _ _ (I (gI sts k)),
      As.is _ _ (.pointer (some ⟨d, 0, none⟩)),
      asInt _ _ 0 (99),
      As.pure _ _ fun v => ∃ y : Int, v = I y,
      As.is _ _ (I second),
      As.is _ _ (I second),
      asRow4 _ d hRd (second) (second) (second),
      As.is _ _ (I place),
      As.is _ _ (.pointer (some ⟨d, 0, none⟩)),
      As.is _ _ (.pointer (some ⟨w2.heap.size, 0, none⟩)),
      As.is _ _ (I r),
      As.is _ _ (I (r + 200)),
      asInt _ _ 0 (r + 199),
      As.is _ _ (I place),
      As.is _ _ (I place),
      asRow4 _ d hRd (place) (place) (place),
      asBox _ d hRd 24 #[I rs, .slice Ar wss.length cs, I r, .slice A ws.length c, I r, .slice A ws.length c, I r, .slice A ws.length c] 4 4 (by decide),
      asBox _ d hRd 25 #[.slice Bs stss.length cbs, .slice (some ⟨b, o, none⟩) sts.length cb, .slice (some ⟨b, o, none⟩) sts.length cb, .slice (some ⟨b, o, none⟩) sts.length cb] 4 4 (by decide),
      asBox _ d hRd 3 #[I wing, I (k : Int), I (k : Int), I wing] 4 4 (by decide),
      asRow4 _ d hRd (second) (second) (second),
      asRow4 _ d hRd (place) (place) (place)] 191 (by kernel_rfl) rfl (⟨L5.drew, hsl5, xs5⟩) (by simp) (by simp) ?_ (fun _ => World.grownBy.refl _ _) ?_ ?_ ?_
  · intro i' hi' o' ho k' b' hg u w' hR hu
    match i', hi', ho with
    | 0, _, ho => cases ho; cases hg
    | 1, _, ho => cases ho; cases hg
    | 2, _, ho => cases ho; cases hg
    | 3, _, ho => cases ho; cases hg
    | 4, _, ho => cases ho; cases hg
    | 5, _, ho => cases ho; cases hg
    | 6, _, ho => cases ho; cases hg
    | 7, _, ho => cases ho; cases hg
    | 8, _, ho => cases ho; cases hg
    | 9, _, ho => cases ho; cases hg
    | 10, _, ho => cases ho; cases hg
    | 11, _, ho => cases ho; cases hg
    | 12, _, ho => cases ho; cases hg
    | 13, _, ho => cases ho; cases hg
    | 14, _, ho => cases ho; cases hg
    | 15, _, ho => cases ho; cases hg
    | 16, _, ho => cases ho; cases hg
    | 17, _, ho => cases ho; cases hg
    | 18, _, ho => cases ho; cases hg
    | 19, _, ho => cases ho; cases hg
    | 20, _, ho => cases ho; cases hg
    | 21, _, ho => cases ho; cases hg
    | 22, _, ho => cases ho; cases hg
    | 23, _, ho => cases ho; cases hg
    | 24, _, ho => cases ho; cases hg
    | 25, _, ho => cases ho; cases hg
    | 26, _, ho => cases ho; cases hg
    | 27, _, ho => cases ho; cases hg
    | 28, _, ho => cases ho; cases hg
    | 29, _, ho => cases ho; cases hg
    | 30, _, ho => cases ho; cases hg
    | 31, _, ho => cases ho; cases hg
    | 32, _, ho => cases ho; cases hg
    | 33, _, ho => cases ho; cases hg
    | 34, _, ho => cases ho; cases hg
    | 35, _, ho => cases ho; cases hg
    | 36, _, ho => cases ho; cases hg
    | 37, _, ho => cases ho; cases hg
    | 38, _, ho => cases ho; cases hg
    | 39, _, ho => cases ho; cases hg
    | n + 40, hi, _ => exact absurd hi (by simp)
  · intro i' hi' hsk; cases hsk
  · intro i' hi' hsk o' ho ev w' hR hc hf hg hs hd
    match i', hi', ho with
    | 0, _, ho =>
      clear hsk
      cases ho
      have e6 : ev (.tmp 6) = .pointer (some ⟨w.heap.size, 0, none⟩) := hs 6 (by kernel_rfl)
      have m4 := hR.2.2.cell
      go_simp
      first | exact ⟨rfl, hR, World.grownBy.refl _ _⟩ | exact ⟨⟨rfl, rfl⟩, hR, World.grownBy.refl _ _⟩ | exact ⟨⟨rfl, fun h => absurd h (by decide)⟩, hR, World.grownBy.refl _ _⟩ | exact ⟨⟨rfl, rfl, fun h => absurd h (by decide)⟩, hR, World.grownBy.refl _ _⟩
    | 1, _, ho =>
      clear hsk
      cases ho
      have e14 : ev (.tmp 14) = .pointer (some ⟨w2.heap.size, 0, none⟩) := hs 14 (by kernel_rfl)
      have m4 := hR.1.box.cell
      go_simp
      first | exact ⟨rfl, hR, World.grownBy.refl _ _⟩ | exact ⟨⟨rfl, rfl⟩, hR, World.grownBy.refl _ _⟩ | exact ⟨⟨rfl, fun h => absurd h (by decide)⟩, hR, World.grownBy.refl _ _⟩ | exact ⟨⟨rfl, rfl, fun h => absurd h (by decide)⟩, hR, World.grownBy.refl _ _⟩
    | 2, _, ho =>
      clear hsk
      cases ho
      have e14 : ev (.tmp 14) = .pointer (some ⟨w2.heap.size, 0, none⟩) := hs 14 (by kernel_rfl)
      have m4 := hR.1.box.cell
      go_simp
      first | exact ⟨rfl, hR, World.grownBy.refl _ _⟩ | exact ⟨⟨rfl, rfl⟩, hR, World.grownBy.refl _ _⟩ | exact ⟨⟨rfl, fun h => absurd h (by decide)⟩, hR, World.grownBy.refl _ _⟩ | exact ⟨⟨rfl, rfl, fun h => absurd h (by decide)⟩, hR, World.grownBy.refl _ _⟩
    | 3, _, ho =>
      clear hsk
      cases ho
      have e14 : ev (.tmp 14) = .pointer (some ⟨w2.heap.size, 0, none⟩) := hs 14 (by kernel_rfl)
      have m4 := hR.1.box.cell
      go_simp
      first | exact ⟨rfl, hR, World.grownBy.refl _ _⟩ | exact ⟨⟨rfl, rfl⟩, hR, World.grownBy.refl _ _⟩ | exact ⟨⟨rfl, fun h => absurd h (by decide)⟩, hR, World.grownBy.refl _ _⟩ | exact ⟨⟨rfl, rfl, fun h => absurd h (by decide)⟩, hR, World.grownBy.refl _ _⟩
    | 4, _, ho =>
      clear hsk
      cases ho
      have e51 : ev (.tmp 51) = .agg #[I rs, .slice Ar wss.length cs] := hd 0 51 (by kernel_rfl)
      have e52 : ev (.tmp 52) = .agg #[I r, .slice A ws.length c] := hd 1 52 (by kernel_rfl)
      have e53 : ev (.tmp 53) = .agg #[I r, .slice A ws.length c] := hd 2 53 (by kernel_rfl)
      have e54 : ev (.tmp 54) = .agg #[I r, .slice A ws.length c] := hd 3 54 (by kernel_rfl)
      go_simp
      first | exact ⟨⟨_, rfl, Bx.new _ _ _⟩, hR.grow ((Below.refl _ _).alloc (Nat.le_refl _) _), World.grownBy_alloc _ _ _⟩ | exact ⟨⟨rfl, ⟨_, rfl, Bx.new _ _ _⟩⟩, hR.grow ((Below.refl _ _).alloc (Nat.le_refl _) _), World.grownBy_alloc _ _ _⟩ | exact ⟨⟨⟨_, rfl, Bx.new _ _ _⟩, fun h => absurd h (by decide)⟩, hR.grow ((Below.refl _ _).alloc (Nat.le_refl _) _), World.grownBy_alloc _ _ _⟩ | exact ⟨⟨rfl, ⟨_, rfl, Bx.new _ _ _⟩, fun h => absurd h (by decide)⟩, hR.grow ((Below.refl _ _).alloc (Nat.le_refl _) _), World.grownBy_alloc _ _ _⟩
    | 5, _, ho =>
      clear hsk
      cases ho
      have e1 : ev (.tmp 1) = .slice Bs stss.length cbs := hs 1 (by kernel_rfl)
      go_simp
      first | exact ⟨rfl, hR, World.grownBy.refl _ _⟩ | exact ⟨⟨rfl, rfl⟩, hR, World.grownBy.refl _ _⟩ | exact ⟨⟨rfl, fun h => absurd h (by decide)⟩, hR, World.grownBy.refl _ _⟩ | exact ⟨⟨rfl, rfl, fun h => absurd h (by decide)⟩, hR, World.grownBy.refl _ _⟩
    | 6, _, ho =>
      clear hsk
      cases ho
      have e15 : ev (.tmp 15) = .slice (some ⟨b, o, none⟩) sts.length cb := hs 15 (by kernel_rfl)
      go_simp
      first | exact ⟨rfl, hR, World.grownBy.refl _ _⟩ | exact ⟨⟨rfl, rfl⟩, hR, World.grownBy.refl _ _⟩ | exact ⟨⟨rfl, fun h => absurd h (by decide)⟩, hR, World.grownBy.refl _ _⟩ | exact ⟨⟨rfl, rfl, fun h => absurd h (by decide)⟩, hR, World.grownBy.refl _ _⟩
    | 7, _, ho =>
      clear hsk
      cases ho
      have e15 : ev (.tmp 15) = .slice (some ⟨b, o, none⟩) sts.length cb := hs 15 (by kernel_rfl)
      go_simp
      first | exact ⟨rfl, hR, World.grownBy.refl _ _⟩ | exact ⟨⟨rfl, rfl⟩, hR, World.grownBy.refl _ _⟩ | exact ⟨⟨rfl, fun h => absurd h (by decide)⟩, hR, World.grownBy.refl _ _⟩ | exact ⟨⟨rfl, rfl, fun h => absurd h (by decide)⟩, hR, World.grownBy.refl _ _⟩
    | 8, _, ho =>
      clear hsk
      cases ho
      have e15 : ev (.tmp 15) = .slice (some ⟨b, o, none⟩) sts.length cb := hs 15 (by kernel_rfl)
      go_simp
      first | exact ⟨rfl, hR, World.grownBy.refl _ _⟩ | exact ⟨⟨rfl, rfl⟩, hR, World.grownBy.refl _ _⟩ | exact ⟨⟨rfl, fun h => absurd h (by decide)⟩, hR, World.grownBy.refl _ _⟩ | exact ⟨⟨rfl, rfl, fun h => absurd h (by decide)⟩, hR, World.grownBy.refl _ _⟩
    | 9, _, ho =>
      clear hsk
      cases ho
      have e56 : ev (.tmp 56) = .slice Bs stss.length cbs := hd 5 56 (by kernel_rfl)
      have e57 : ev (.tmp 57) = .slice (some ⟨b, o, none⟩) sts.length cb := hd 6 57 (by kernel_rfl)
      have e58 : ev (.tmp 58) = .slice (some ⟨b, o, none⟩) sts.length cb := hd 7 58 (by kernel_rfl)
      have e59 : ev (.tmp 59) = .slice (some ⟨b, o, none⟩) sts.length cb := hd 8 59 (by kernel_rfl)
      go_simp
      first | exact ⟨⟨_, rfl, Bx.new _ _ _⟩, hR.grow ((Below.refl _ _).alloc (Nat.le_refl _) _), World.grownBy_alloc _ _ _⟩ | exact ⟨⟨rfl, ⟨_, rfl, Bx.new _ _ _⟩⟩, hR.grow ((Below.refl _ _).alloc (Nat.le_refl _) _), World.grownBy_alloc _ _ _⟩ | exact ⟨⟨⟨_, rfl, Bx.new _ _ _⟩, fun h => absurd h (by decide)⟩, hR.grow ((Below.refl _ _).alloc (Nat.le_refl _) _), World.grownBy_alloc _ _ _⟩ | exact ⟨⟨rfl, ⟨_, rfl, Bx.new _ _ _⟩, fun h => absurd h (by decide)⟩, hR.grow ((Below.refl _ _).alloc (Nat.le_refl _) _), World.grownBy_alloc _ _ _⟩
    | 10, _, ho =>
      clear hsk
      cases ho
      have e2 : ev (.tmp 2) = I wing := hs 2 (by kernel_rfl)
      go_simp
      first | exact ⟨rfl, hR, World.grownBy.refl _ _⟩ | exact ⟨⟨rfl, rfl⟩, hR, World.grownBy.refl _ _⟩ | exact ⟨⟨rfl, fun h => absurd h (by decide)⟩, hR, World.grownBy.refl _ _⟩ | exact ⟨⟨rfl, rfl, fun h => absurd h (by decide)⟩, hR, World.grownBy.refl _ _⟩
    | 11, _, ho =>
      clear hsk
      cases ho
      have e16 : ev (.tmp 16) = I (k : Int) := hs 16 (by kernel_rfl)
      go_simp
      first | exact ⟨rfl, hR, World.grownBy.refl _ _⟩ | exact ⟨⟨rfl, rfl⟩, hR, World.grownBy.refl _ _⟩ | exact ⟨⟨rfl, fun h => absurd h (by decide)⟩, hR, World.grownBy.refl _ _⟩ | exact ⟨⟨rfl, rfl, fun h => absurd h (by decide)⟩, hR, World.grownBy.refl _ _⟩
    | 12, _, ho =>
      clear hsk
      cases ho
      have e16 : ev (.tmp 16) = I (k : Int) := hs 16 (by kernel_rfl)
      go_simp
      first | exact ⟨rfl, hR, World.grownBy.refl _ _⟩ | exact ⟨⟨rfl, rfl⟩, hR, World.grownBy.refl _ _⟩ | exact ⟨⟨rfl, fun h => absurd h (by decide)⟩, hR, World.grownBy.refl _ _⟩ | exact ⟨⟨rfl, rfl, fun h => absurd h (by decide)⟩, hR, World.grownBy.refl _ _⟩
    | 13, _, ho =>
      clear hsk
      cases ho
      have e2 : ev (.tmp 2) = I wing := hs 2 (by kernel_rfl)
      go_simp
      first | exact ⟨rfl, hR, World.grownBy.refl _ _⟩ | exact ⟨⟨rfl, rfl⟩, hR, World.grownBy.refl _ _⟩ | exact ⟨⟨rfl, fun h => absurd h (by decide)⟩, hR, World.grownBy.refl _ _⟩ | exact ⟨⟨rfl, rfl, fun h => absurd h (by decide)⟩, hR, World.grownBy.refl _ _⟩
    | 14, _, ho =>
      clear hsk
      cases ho
      have e61 : ev (.tmp 61) = I wing := hd 10 61 (by kernel_rfl)
      have e62 : ev (.tmp 62) = I (k : Int) := hd 11 62 (by kernel_rfl)
      have e63 : ev (.tmp 63) = I (k : Int) := hd 12 63 (by kernel_rfl)
      have e64 : ev (.tmp 64) = I wing := hd 13 64 (by kernel_rfl)
      go_simp
      first | exact ⟨⟨_, rfl, Bx.new _ _ _⟩, hR.grow ((Below.refl _ _).alloc (Nat.le_refl _) _), World.grownBy_alloc _ _ _⟩ | exact ⟨⟨rfl, ⟨_, rfl, Bx.new _ _ _⟩⟩, hR.grow ((Below.refl _ _).alloc (Nat.le_refl _) _), World.grownBy_alloc _ _ _⟩ | exact ⟨⟨⟨_, rfl, Bx.new _ _ _⟩, fun h => absurd h (by decide)⟩, hR.grow ((Below.refl _ _).alloc (Nat.le_refl _) _), World.grownBy_alloc _ _ _⟩ | exact ⟨⟨rfl, ⟨_, rfl, Bx.new _ _ _⟩, fun h => absurd h (by decide)⟩, hR.grow ((Below.refl _ _).alloc (Nat.le_refl _) _), World.grownBy_alloc _ _ _⟩
    | 15, _, ho =>
      clear hsk
      cases ho
      have e3 : ev (.tmp 3) = I second := hs 3 (by kernel_rfl)
      go_simp
      first | exact ⟨rfl, hR, World.grownBy.refl _ _⟩ | exact ⟨⟨rfl, rfl⟩, hR, World.grownBy.refl _ _⟩ | exact ⟨⟨rfl, fun h => absurd h (by decide)⟩, hR, World.grownBy.refl _ _⟩ | exact ⟨⟨rfl, rfl, fun h => absurd h (by decide)⟩, hR, World.grownBy.refl _ _⟩
    | 16, _, ho =>
      clear hsk
      cases ho
      have e15 : ev (.tmp 15) = .slice (some ⟨b, o, none⟩) sts.length cb := hs 15 (by kernel_rfl)
      go_simp
      first | exact ⟨rfl, hR, World.grownBy.refl _ _⟩ | exact ⟨⟨rfl, rfl⟩, hR, World.grownBy.refl _ _⟩ | exact ⟨⟨rfl, fun h => absurd h (by decide)⟩, hR, World.grownBy.refl _ _⟩ | exact ⟨⟨rfl, rfl, fun h => absurd h (by decide)⟩, hR, World.grownBy.refl _ _⟩
    | 17, _, ho =>
      clear hsk
      cases ho
      have e16 : ev (.tmp 16) = I (k : Int) := hs 16 (by kernel_rfl)
      go_simp
      first | exact ⟨rfl, hR, World.grownBy.refl _ _⟩ | exact ⟨⟨rfl, rfl⟩, hR, World.grownBy.refl _ _⟩ | exact ⟨⟨rfl, fun h => absurd h (by decide)⟩, hR, World.grownBy.refl _ _⟩ | exact ⟨⟨rfl, rfl, fun h => absurd h (by decide)⟩, hR, World.grownBy.refl _ _⟩
    | 18, _, ho =>
      clear hsk
      cases ho
      have e67 : ev (.tmp 67) = .slice (some ⟨b, o, none⟩) sts.length cb := hd 16 67 (by kernel_rfl)
      have e68 : ev (.tmp 68) = I (k : Int) := hd 17 68 (by kernel_rfl)
      go_simp
      first | exact ⟨rfl, hR, World.grownBy.refl _ _⟩ | exact ⟨⟨rfl, rfl⟩, hR, World.grownBy.refl _ _⟩ | exact ⟨⟨rfl, fun h => absurd h (by decide)⟩, hR, World.grownBy.refl _ _⟩ | exact ⟨⟨rfl, rfl, fun h => absurd h (by decide)⟩, hR, World.grownBy.refl _ _⟩
    | 19, _, ho =>
      clear hsk
      cases ho
      have e69 : ev (.tmp 69) = .pointer (some ⟨b, o + k, none⟩) := hd 18 69 (by kernel_rfl)
      have hcl : w'.cell? ⟨b, o + k, none⟩ = some (I (gI sts k)) := SlI.cellG hR.2.1 hks
      go_simp
      first | exact ⟨rfl, hR, World.grownBy.refl _ _⟩ | exact ⟨⟨rfl, rfl⟩, hR, World.grownBy.refl _ _⟩ | exact ⟨⟨rfl, fun h => absurd h (by decide)⟩, hR, World.grownBy.refl _ _⟩ | exact ⟨⟨rfl, rfl, fun h => absurd h (by decide)⟩, hR, World.grownBy.refl _ _⟩
    | 20, _, ho =>
      clear hsk
      cases ho
      have e13 : ev (.tmp 13) = .pointer (some ⟨d, 0, none⟩) := hs 13 (by kernel_rfl)
      go_simp
      first | exact ⟨rfl, hR, World.grownBy.refl _ _⟩ | exact ⟨⟨rfl, rfl⟩, hR, World.grownBy.refl _ _⟩ | exact ⟨⟨rfl, fun h => absurd h (by decide)⟩, hR, World.grownBy.refl _ _⟩ | exact ⟨⟨rfl, rfl, fun h => absurd h (by decide)⟩, hR, World.grownBy.refl _ _⟩
    | 21, _, ho =>
      clear hsk
      cases ho
      have e71 : ev (.tmp 71) = .pointer (some ⟨d, 0, none⟩) := hd 20 71 (by kernel_rfl)
      go_simp
      refine (roll_c d (100) (99) _ hR.1.dr (by omega) (by omega) (by omega) (by omega)).mono ?_
      rintro e w1 ⟨y, rfl, hr1, hr2, hd1, hk1⟩
      first | exact ⟨⟨y, rfl, hr1, hr2⟩, hR.kp hk1 hd1, hk1⟩ | exact ⟨⟨rfl, ⟨y, rfl, hr1, hr2⟩⟩, hR.kp hk1 hd1, hk1⟩ | exact ⟨⟨⟨y, rfl, hr1, hr2⟩, fun h => absurd h (by decide)⟩, hR.kp hk1 hd1, hk1⟩ | exact ⟨⟨rfl, ⟨y, rfl, hr1, hr2⟩, fun h => absurd h (by decide)⟩, hR.kp hk1 hd1, hk1⟩
    | 22, _, ho =>
      clear hsk
      cases ho
      have e70 : ev (.tmp 70) = I (gI sts k) := hd 19 70 (by kernel_rfl)
      obtain ⟨x72, e72, hx721, hx722⟩ : ∃ r' : Int, ev (.tmp 72) = I r' ∧ 0 ≤ r' ∧ r' ≤ 99 := hd 21 72 (by kernel_rfl)
      have ew : IntKind.i64.wrap (gI sts k + x72) = gI sts k + x72 := IntWalk.i64_in _ (by omega)
      go_simp
      clear ew
      first | exact ⟨⟨_, rfl⟩, hR, World.grownBy.refl _ _⟩ | exact ⟨⟨rfl, ⟨_, rfl⟩⟩, hR, World.grownBy.refl _ _⟩ | exact ⟨⟨⟨_, rfl⟩, fun h => absurd h (by decide)⟩, hR, World.grownBy.refl _ _⟩ | exact ⟨⟨rfl, ⟨_, rfl⟩, fun h => absurd h (by decide)⟩, hR, World.grownBy.refl _ _⟩
    | 23, _, ho =>
      clear hsk
      cases ho
      have e3 : ev (.tmp 3) = I second := hs 3 (by kernel_rfl)
      go_simp
      first | exact ⟨rfl, hR, World.grownBy.refl _ _⟩ | exact ⟨⟨rfl, rfl⟩, hR, World.grownBy.refl _ _⟩ | exact ⟨⟨rfl, fun h => absurd h (by decide)⟩, hR, World.grownBy.refl _ _⟩ | exact ⟨⟨rfl, rfl, fun h => absurd h (by decide)⟩, hR, World.grownBy.refl _ _⟩
    | 24, _, ho =>
      clear hsk
      cases ho
      have e3 : ev (.tmp 3) = I second := hs 3 (by kernel_rfl)
      go_simp
      first | exact ⟨rfl, hR, World.grownBy.refl _ _⟩ | exact ⟨⟨rfl, rfl⟩, hR, World.grownBy.refl _ _⟩ | exact ⟨⟨rfl, fun h => absurd h (by decide)⟩, hR, World.grownBy.refl _ _⟩ | exact ⟨⟨rfl, rfl, fun h => absurd h (by decide)⟩, hR, World.grownBy.refl _ _⟩
    | 25, _, ho =>
      clear hsk
      cases ho
      have e66 : ev (.tmp 66) = I second := hd 15 66 (by kernel_rfl)
      obtain ⟨y73, e73⟩ : ∃ y : Int, ev (.tmp 73) = I y := hd 22 73 (by kernel_rfl)
      have e74 : ev (.tmp 74) = I second := hd 23 74 (by kernel_rfl)
      have e75 : ev (.tmp 75) = I second := hd 24 75 (by kernel_rfl)
      go_simp
      first | exact ⟨⟨_, _, rfl, Bx.new _ _ _⟩, hR.grow ((Below.refl _ _).alloc (Nat.le_refl _) _), World.grownBy_alloc _ _ _⟩ | exact ⟨⟨rfl, ⟨_, _, rfl, Bx.new _ _ _⟩⟩, hR.grow ((Below.refl _ _).alloc (Nat.le_refl _) _), World.grownBy_alloc _ _ _⟩ | exact ⟨⟨⟨_, _, rfl, Bx.new _ _ _⟩, fun h => absurd h (by decide)⟩, hR.grow ((Below.refl _ _).alloc (Nat.le_refl _) _), World.grownBy_alloc _ _ _⟩ | exact ⟨⟨rfl, ⟨_, _, rfl, Bx.new _ _ _⟩, fun h => absurd h (by decide)⟩, hR.grow ((Below.refl _ _).alloc (Nat.le_refl _) _), World.grownBy_alloc _ _ _⟩
    | 26, _, ho =>
      clear hsk
      cases ho
      have e4 : ev (.tmp 4) = I place := hs 4 (by kernel_rfl)
      go_simp
      first | exact ⟨rfl, hR, World.grownBy.refl _ _⟩ | exact ⟨⟨rfl, rfl⟩, hR, World.grownBy.refl _ _⟩ | exact ⟨⟨rfl, fun h => absurd h (by decide)⟩, hR, World.grownBy.refl _ _⟩ | exact ⟨⟨rfl, rfl, fun h => absurd h (by decide)⟩, hR, World.grownBy.refl _ _⟩
    | 27, _, ho =>
      clear hsk
      cases ho
      have e13 : ev (.tmp 13) = .pointer (some ⟨d, 0, none⟩) := hs 13 (by kernel_rfl)
      go_simp
      first | exact ⟨rfl, hR, World.grownBy.refl _ _⟩ | exact ⟨⟨rfl, rfl⟩, hR, World.grownBy.refl _ _⟩ | exact ⟨⟨rfl, fun h => absurd h (by decide)⟩, hR, World.grownBy.refl _ _⟩ | exact ⟨⟨rfl, rfl, fun h => absurd h (by decide)⟩, hR, World.grownBy.refl _ _⟩
    | 28, _, ho =>
      clear hsk
      cases ho
      have e14 : ev (.tmp 14) = .pointer (some ⟨w2.heap.size, 0, none⟩) := hs 14 (by kernel_rfl)
      go_simp
      first | exact ⟨rfl, hR, World.grownBy.refl _ _⟩ | exact ⟨⟨rfl, rfl⟩, hR, World.grownBy.refl _ _⟩ | exact ⟨⟨rfl, fun h => absurd h (by decide)⟩, hR, World.grownBy.refl _ _⟩ | exact ⟨⟨rfl, rfl, fun h => absurd h (by decide)⟩, hR, World.grownBy.refl _ _⟩
    | 29, _, ho =>
      clear hsk
      cases ho
      have e79 : ev (.tmp 79) = .pointer (some ⟨w2.heap.size, 0, none⟩) := hd 28 79 (by kernel_rfl)
      have m4 := hR.1.box.cell
      go_simp
      first | exact ⟨rfl, hR, World.grownBy.refl _ _⟩ | exact ⟨⟨rfl, rfl⟩, hR, World.grownBy.refl _ _⟩ | exact ⟨⟨rfl, fun h => absurd h (by decide)⟩, hR, World.grownBy.refl _ _⟩ | exact ⟨⟨rfl, rfl, fun h => absurd h (by decide)⟩, hR, World.grownBy.refl _ _⟩
    | 30, _, ho =>
      clear hsk
      cases ho
      have e80 : ev (.tmp 80) = I r := hd 29 80 (by kernel_rfl)
      have ew : IntKind.i64.wrap (r + 200) = r + 200 := IntWalk.i64_in _ (by omega)
      go_simp
      first | exact ⟨rfl, hR, World.grownBy.refl _ _⟩ | exact ⟨⟨rfl, rfl⟩, hR, World.grownBy.refl _ _⟩ | exact ⟨⟨rfl, fun h => absurd h (by decide)⟩, hR, World.grownBy.refl _ _⟩ | exact ⟨⟨rfl, rfl, fun h => absurd h (by decide)⟩, hR, World.grownBy.refl _ _⟩
    | 31, _, ho =>
      clear hsk
      cases ho
      have e78 : ev (.tmp 78) = .pointer (some ⟨d, 0, none⟩) := hd 27 78 (by kernel_rfl)
      have e81 : ev (.tmp 81) = I (r + 200) := hd 30 81 (by kernel_rfl)
      go_simp
      refine (roll_c d (r + 200) (r + 199) _ hR.1.dr (by omega) (by omega) (by omega) (by omega)).mono ?_
      rintro e w1 ⟨y, rfl, hr1, hr2, hd1, hk1⟩
      first | exact ⟨⟨y, rfl, hr1, hr2⟩, hR.kp hk1 hd1, hk1⟩ | exact ⟨⟨rfl, ⟨y, rfl, hr1, hr2⟩⟩, hR.kp hk1 hd1, hk1⟩ | exact ⟨⟨⟨y, rfl, hr1, hr2⟩, fun h => absurd h (by decide)⟩, hR.kp hk1 hd1, hk1⟩ | exact ⟨⟨rfl, ⟨y, rfl, hr1, hr2⟩, fun h => absurd h (by decide)⟩, hR.kp hk1 hd1, hk1⟩
    | 32, _, ho =>
      clear hsk
      cases ho
      have e4 : ev (.tmp 4) = I place := hs 4 (by kernel_rfl)
      go_simp
      first | exact ⟨rfl, hR, World.grownBy.refl _ _⟩ | exact ⟨⟨rfl, rfl⟩, hR, World.grownBy.refl _ _⟩ | exact ⟨⟨rfl, fun h => absurd h (by decide)⟩, hR, World.grownBy.refl _ _⟩ | exact ⟨⟨rfl, rfl, fun h => absurd h (by decide)⟩, hR, World.grownBy.refl _ _⟩
    | 33, _, ho =>
      clear hsk
      cases ho
      have e4 : ev (.tmp 4) = I place := hs 4 (by kernel_rfl)
      go_simp
      first | exact ⟨rfl, hR, World.grownBy.refl _ _⟩ | exact ⟨⟨rfl, rfl⟩, hR, World.grownBy.refl _ _⟩ | exact ⟨⟨rfl, fun h => absurd h (by decide)⟩, hR, World.grownBy.refl _ _⟩ | exact ⟨⟨rfl, rfl, fun h => absurd h (by decide)⟩, hR, World.grownBy.refl _ _⟩
    | 34, _, ho =>
      clear hsk
      cases ho
      have e77 : ev (.tmp 77) = I place := hd 26 77 (by kernel_rfl)
      obtain ⟨x82, e82, hx821, hx822⟩ : ∃ r' : Int, ev (.tmp 82) = I r' ∧ 0 ≤ r' ∧ r' ≤ r + 199 := hd 31 82 (by kernel_rfl)
      have e83 : ev (.tmp 83) = I place := hd 32 83 (by kernel_rfl)
      have e84 : ev (.tmp 84) = I place := hd 33 84 (by kernel_rfl)
      go_simp
      first | exact ⟨⟨_, _, rfl, Bx.new _ _ _⟩, hR.grow ((Below.refl _ _).alloc (Nat.le_refl _) _), World.grownBy_alloc _ _ _⟩ | exact ⟨⟨rfl, ⟨_, _, rfl, Bx.new _ _ _⟩⟩, hR.grow ((Below.refl _ _).alloc (Nat.le_refl _) _), World.grownBy_alloc _ _ _⟩ | exact ⟨⟨⟨_, _, rfl, Bx.new _ _ _⟩, fun h => absurd h (by decide)⟩, hR.grow ((Below.refl _ _).alloc (Nat.le_refl _) _), World.grownBy_alloc _ _ _⟩ | exact ⟨⟨rfl, ⟨_, _, rfl, Bx.new _ _ _⟩, fun h => absurd h (by decide)⟩, hR.grow ((Below.refl _ _).alloc (Nat.le_refl _) _), World.grownBy_alloc _ _ _⟩
    | 35, _, ho =>
      clear hsk
      cases ho
      obtain ⟨bb55, e55, hbb55⟩ : ∃ bz, ev (.tmp 55) = .slice (some ⟨bz, 0, none⟩) 4 4 ∧ Bx w' bz 24 #[I rs, .slice Ar wss.length cs, I r, .slice A ws.length c, I r, .slice A ws.length c, I r, .slice A ws.length c] := hd 4 55 (by kernel_rfl)
      go_simp
      first | exact ⟨⟨bb55, rfl, hbb55⟩, hR, World.grownBy.refl _ _⟩ | exact ⟨⟨rfl, ⟨bb55, rfl, hbb55⟩⟩, hR, World.grownBy.refl _ _⟩ | exact ⟨⟨⟨bb55, rfl, hbb55⟩, fun h => absurd h (by decide)⟩, hR, World.grownBy.refl _ _⟩ | exact ⟨⟨rfl, ⟨bb55, rfl, hbb55⟩, fun h => absurd h (by decide)⟩, hR, World.grownBy.refl _ _⟩
    | 36, _, ho =>
      clear hsk
      cases ho
      obtain ⟨bb60, e60, hbb60⟩ : ∃ bz, ev (.tmp 60) = .slice (some ⟨bz, 0, none⟩) 4 4 ∧ Bx w' bz 25 #[.slice Bs stss.length cbs, .slice (some ⟨b, o, none⟩) sts.length cb, .slice (some ⟨b, o, none⟩) sts.length cb, .slice (some ⟨b, o, none⟩) sts.length cb] := hd 9 60 (by kernel_rfl)
      go_simp
      first | exact ⟨⟨bb60, rfl, hbb60⟩, hR, World.grownBy.refl _ _⟩ | exact ⟨⟨rfl, ⟨bb60, rfl, hbb60⟩⟩, hR, World.grownBy.refl _ _⟩ | exact ⟨⟨⟨bb60, rfl, hbb60⟩, fun h => absurd h (by decide)⟩, hR, World.grownBy.refl _ _⟩ | exact ⟨⟨rfl, ⟨bb60, rfl, hbb60⟩, fun h => absurd h (by decide)⟩, hR, World.grownBy.refl _ _⟩
    | 37, _, ho =>
      clear hsk
      cases ho
      obtain ⟨bb65, e65, hbb65⟩ : ∃ bz, ev (.tmp 65) = .slice (some ⟨bz, 0, none⟩) 4 4 ∧ Bx w' bz 3 #[I wing, I (k : Int), I (k : Int), I wing] := hd 14 65 (by kernel_rfl)
      go_simp
      first | exact ⟨⟨bb65, rfl, hbb65⟩, hR, World.grownBy.refl _ _⟩ | exact ⟨⟨rfl, ⟨bb65, rfl, hbb65⟩⟩, hR, World.grownBy.refl _ _⟩ | exact ⟨⟨⟨bb65, rfl, hbb65⟩, fun h => absurd h (by decide)⟩, hR, World.grownBy.refl _ _⟩ | exact ⟨⟨rfl, ⟨bb65, rfl, hbb65⟩, fun h => absurd h (by decide)⟩, hR, World.grownBy.refl _ _⟩
    | 38, _, ho =>
      clear hsk
      cases ho
      obtain ⟨bb76, yy76, e76, hbb76⟩ : ∃ b y, ev (.tmp 76) = .slice (some ⟨b, 0, none⟩) 4 4 ∧ Bx w' b 3 #[I (second), I y, I (second), I (second)] := hd 25 76 (by kernel_rfl)
      go_simp
      first | exact ⟨⟨bb76, yy76, rfl, hbb76⟩, hR, World.grownBy.refl _ _⟩ | exact ⟨⟨rfl, ⟨bb76, yy76, rfl, hbb76⟩⟩, hR, World.grownBy.refl _ _⟩ | exact ⟨⟨⟨bb76, yy76, rfl, hbb76⟩, fun h => absurd h (by decide)⟩, hR, World.grownBy.refl _ _⟩ | exact ⟨⟨rfl, ⟨bb76, yy76, rfl, hbb76⟩, fun h => absurd h (by decide)⟩, hR, World.grownBy.refl _ _⟩
    | 39, _, ho =>
      clear hsk
      cases ho
      obtain ⟨bb85, yy85, e85, hbb85⟩ : ∃ b y, ev (.tmp 85) = .slice (some ⟨b, 0, none⟩) 4 4 ∧ Bx w' b 3 #[I (place), I y, I (place), I (place)] := hd 34 85 (by kernel_rfl)
      go_simp
      first | exact ⟨⟨bb85, yy85, rfl, hbb85⟩, hR, World.grownBy.refl _ _⟩ | exact ⟨⟨rfl, ⟨bb85, yy85, rfl, hbb85⟩⟩, hR, World.grownBy.refl _ _⟩ | exact ⟨⟨⟨bb85, yy85, rfl, hbb85⟩, fun h => absurd h (by decide)⟩, hR, World.grownBy.refl _ _⟩ | exact ⟨⟨rfl, ⟨bb85, yy85, rfl, hbb85⟩, fun h => absurd h (by decide)⟩, hR, World.grownBy.refl _ _⟩
    | n + 40, hi, _ => exact absurd hi (by simp)
  intro ρ wE hR hρ hne K hK
  obtain ⟨b17, p35, x17⟩ : ∃ bz, ρ 35 = .slice (some ⟨bz, 0, none⟩) 4 4 ∧ Bx wE bz 24 #[I rs, .slice Ar wss.length cs, I r, .slice A ws.length c, I r, .slice A ws.length c, I r, .slice A ws.length c] := hρ 35 (by simp)
  obtain ⟨b18, p36, x18⟩ : ∃ bz, ρ 36 = .slice (some ⟨bz, 0, none⟩) 4 4 ∧ Bx wE bz 25 #[.slice Bs stss.length cbs, .slice (some ⟨b, o, none⟩) sts.length cb, .slice (some ⟨b, o, none⟩) sts.length cb, .slice (some ⟨b, o, none⟩) sts.length cb] := hρ 36 (by simp)
  obtain ⟨b19, p37, x19⟩ : ∃ bz, ρ 37 = .slice (some ⟨bz, 0, none⟩) 4 4 ∧ Bx wE bz 3 #[I wing, I (k : Int), I (k : Int), I wing] := hρ 37 (by simp)
  obtain ⟨b20, s2, p38, x20⟩ : ∃ b y, ρ 38 = .slice (some ⟨b, 0, none⟩) 4 4 ∧ Bx wE b 3 #[I second, I y, I second, I second] := hρ 38 (by simp)
  obtain ⟨b21, p2, p39, x21⟩ : ∃ b y, ρ 39 = .slice (some ⟨b, 0, none⟩) 4 4 ∧ Bx wE b 3 #[I place, I y, I place, I place] := hρ 39 (by simp)
  show K (putAll _ _ ρ 40) _
  simp only [putAll, dOf, List.getElem?_toArray, List.getElem?_cons_zero, List.getElem?_cons_succ, Option.bind_some, Act.put, List.setIfInBounds_toArray, List.set_cons_zero, List.set_cons_succ]
  rw [p35, p36, p37, p38, p39]
  refine hK _ _ ?_
  change wpList _ _ _ [] _ _
  obtain ⟨L7, hsl7, _⟩ := hR
  clear hK K p35 p36 p37 p38 p39 hρ hne hRd
  have S7 : QS ⟨rs, Ar, cs, wss, Ts, Bs, cbs, stss, Tt⟩ ⟨r, A, c, ws, 29, some ⟨b, o, none⟩, cb, sts, 3⟩ b17 b18 #[I rs, .slice Ar wss.length cs, I r, .slice A ws.length c, I r, .slice A ws.length c, I r, .slice A ws.length c] #[.slice Bs stss.length cbs, .slice (some ⟨b, o, none⟩) sts.length cb, .slice (some ⟨b, o, none⟩) sts.length cb, .slice (some ⟨b, o, none⟩) sts.length cb] [(b19, #[I wing, I (k : Int), I (k : Int), I wing]), (b20, #[I second, I s2, I second, I second]), (b21, #[I place, I p2, I place, I place])] w wE :=
    ⟨ok.grow L7.below, ⟨L7.wings, V.fit, V.max.1, V.cap, hsl7, V.max.2, V.capb⟩, x17, x18, fun p hp => by
      simp only [List.mem_cons, List.not_mem_nil, or_false] at hp
      rcases hp with rfl | rfl | rfl
      · exact x19
      · exact x20
      · exact x21, L7.below⟩
  clear x17 x18 x19 x20 x21 L7 hsl7 L5 hsl5 xs5
  go_wp2_with fail
  go_loopw [22] (fun i wr => ∃ n : Nat, i = .int .i64 n ∧ n ≤ 4 ∧ QS ⟨rs, Ar, cs, wss, Ts, Bs, cbs, stss, Tt⟩ ⟨r, A, c, ws, 29, some ⟨b, o, none⟩, cb, sts, 3⟩ b17 b18 #[I rs, .slice Ar wss.length cs, I r, .slice A ws.length c, I r, .slice A ws.length c, I r, .slice A ws.length c] #[.slice Bs stss.length cbs, .slice (some ⟨b, o, none⟩) sts.length cb, .slice (some ⟨b, o, none⟩) sts.length cb, .slice (some ⟨b, o, none⟩) sts.length cb] [(b19, #[I wing, I (k : Int), I (k : Int), I wing]), (b20, #[I second, I s2, I second, I second]), (b21, #[I place, I p2, I place, I place])] w wr) (fun i _ => 4 - (intOf i).toNat)
  case atStart => exact ⟨0, rfl, by omega, S7⟩
  case round =>
    obtain ⟨i, rfl, hi4, hT⟩ := hrel
    clear S7
    by_cases hlt : i < 4
    · obtain ⟨x, wi, se, pl, qf⟩ := places_row hlt hT
      have hW := (Below.refl wr.heap.size wr)
      go_wp2_with fail
      refine wp_region_list_s (by kernel_rfl) (R := RB wr.heap.size wr) (F := FS Option.none wr.heap.size (fun x' y' : Int => x' = whLo x.r x.ws x.sts wi se ∧ y' = whHi x.r x.ws x.sts wi se)) [] [] [(21, 20)]
          [As.is _ _ (.slice (some ⟨b17, 0, none⟩) 4 4),
          As.is _ _ (I (i : Int)),
          As.is _ _ (.pointer (some ⟨b17, i * 2, none⟩)),
          As.is _ _ (.agg #[I x.r, .slice x.A x.ws.length x.c]),
          As.is _ _ (.slice (some ⟨b18, 0, none⟩) 4 4),
          As.is _ _ (I (i : Int)),
          As.is _ _ (.pointer (some ⟨b18, i, none⟩)),
          As.is _ _ (.slice x.B x.sts.length x.cb),
          As.is _ _ (.slice (some ⟨b19, 0, none⟩) 4 4),
          As.is _ _ (I (i : Int)),
          As.is _ _ (.pointer (some ⟨b19, i, none⟩)),
          As.is _ _ (I wi),
          As.is _ _ (.slice (some ⟨b20, 0, none⟩) 4 4),
          As.is _ _ (I (i : Int)),
          As.is _ _ (.pointer (some ⟨b20, i, none⟩)),
          As.is _ _ (I se),
          As.is _ _ (.tuple #[Sp (whLo x.r x.ws x.sts wi se) (whHi x.r x.ws x.sts wi se), I (mom x.r x.ws x.sts wi se)]),
          As.is _ _ (.tuple #[Sp (whLo x.r x.ws x.sts wi se) (whHi x.r x.ws x.sts wi se), I (mom x.r x.ws x.sts wi se)]),
          As.is _ _ (Sp (whLo x.r x.ws x.sts wi se) (whHi x.r x.ws x.sts wi se)),
          As.is _ _ (I (mom x.r x.ws x.sts wi se)),
          asSp0 _ Option.none wr.heap.size (fun x' y' : Int => x' = whLo x.r x.ws x.sts wi se ∧ y' = whHi x.r x.ws x.sts wi se),
          asSp1 _ Option.none wr.heap.size (fun x' y' : Int => x' = whLo x.r x.ws x.sts wi se ∧ y' = whHi x.r x.ws x.sts wi se)] 191 (by kernel_rfl) rfl ((Below.refl _ _).drew) (by simp) (by simp) ?_ (fun _ => FS.refl _ _ _ _) ?_ ?_ ?_
      · intro i' hi' o' ho k' b' hg u w' hR hu
        match i', hi', ho with
        | 0, _, ho => cases ho; cases hg
        | 1, _, ho => cases ho; cases hg
        | 2, _, ho => cases ho; cases hg
        | 3, _, ho => cases ho; cases hg
        | 4, _, ho => cases ho; cases hg
        | 5, _, ho => cases ho; cases hg
        | 6, _, ho => cases ho; cases hg
        | 7, _, ho => cases ho; cases hg
        | 8, _, ho => cases ho; cases hg
        | 9, _, ho => cases ho; cases hg
        | 10, _, ho => cases ho; cases hg
        | 11, _, ho => cases ho; cases hg
        | 12, _, ho => cases ho; cases hg
        | 13, _, ho => cases ho; cases hg
        | 14, _, ho => cases ho; cases hg
        | 15, _, ho => cases ho; cases hg
        | 16, _, ho => cases ho; cases hg
        | 17, _, ho => cases ho; cases hg
        | 18, _, ho => cases ho; cases hg
        | 19, _, ho => cases ho; cases hg
        | 20, _, ho => cases ho; cases hg
        | 21, _, ho => cases ho; cases hg
        | n + 22, hi, _ => exact absurd hi (by simp)
      · intro i' hi' hsk; cases hsk
      · intro i' hi' hsk o' ho ev w' hR hc hf hg hs hd
        match i', hi', ho with
        | 0, _, ho =>
          clear hsk
          cases ho
          have e17 : ev (.tmp 17) = .slice (some ⟨b17, 0, none⟩) 4 4 := hs 17 (by kernel_rfl)
          go_simp
          first | exact ⟨rfl, hR, FS.refl _ _ _ _⟩ | exact ⟨⟨rfl, rfl⟩, hR, FS.refl _ _ _ _⟩ | exact ⟨⟨rfl, fun h => absurd h (by decide)⟩, hR, FS.refl _ _ _ _⟩ | exact ⟨⟨rfl, rfl, fun h => absurd h (by decide)⟩, hR, FS.refl _ _ _ _⟩
        | 1, _, ho =>
          clear hsk
          cases ho
          have e22 : ev (.tmp 22) = I (i : Int) := hs 22 (by kernel_rfl)
          go_simp
          first | exact ⟨rfl, hR, FS.refl _ _ _ _⟩ | exact ⟨⟨rfl, rfl⟩, hR, FS.refl _ _ _ _⟩ | exact ⟨⟨rfl, fun h => absurd h (by decide)⟩, hR, FS.refl _ _ _ _⟩ | exact ⟨⟨rfl, rfl, fun h => absurd h (by decide)⟩, hR, FS.refl _ _ _ _⟩
        | 2, _, ho =>
          clear hsk
          cases ho
          have e93 : ev (.tmp 93) = .slice (some ⟨b17, 0, none⟩) 4 4 := hd 0 93 (by kernel_rfl)
          have e94 : ev (.tmp 94) = I (i : Int) := hd 1 94 (by kernel_rfl)
          have hil : (i : Int) < 4 := by omega
          go_simp
          first | exact ⟨rfl, hR, FS.refl _ _ _ _⟩ | exact ⟨⟨rfl, rfl⟩, hR, FS.refl _ _ _ _⟩ | exact ⟨⟨rfl, fun h => absurd h (by decide)⟩, hR, FS.refl _ _ _ _⟩ | exact ⟨⟨rfl, rfl, fun h => absurd h (by decide)⟩, hR, FS.refl _ _ _ _⟩
        | 3, _, ho =>
          clear hsk
          cases ho
          have e95 : ev (.tmp 95) = .pointer (some ⟨b17, i * 2, none⟩) := hd 2 95 (by kernel_rfl)
          have m1 := (qf.grow hR).cr
          have m2 := (qf.grow hR).cs
          go_simp
          first | exact ⟨rfl, hR, FS.refl _ _ _ _⟩ | exact ⟨⟨rfl, rfl⟩, hR, FS.refl _ _ _ _⟩ | exact ⟨⟨rfl, fun h => absurd h (by decide)⟩, hR, FS.refl _ _ _ _⟩ | exact ⟨⟨rfl, rfl, fun h => absurd h (by decide)⟩, hR, FS.refl _ _ _ _⟩
        | 4, _, ho =>
          clear hsk
          cases ho
          have e18 : ev (.tmp 18) = .slice (some ⟨b18, 0, none⟩) 4 4 := hs 18 (by kernel_rfl)
          go_simp
          first | exact ⟨rfl, hR, FS.refl _ _ _ _⟩ | exact ⟨⟨rfl, rfl⟩, hR, FS.refl _ _ _ _⟩ | exact ⟨⟨rfl, fun h => absurd h (by decide)⟩, hR, FS.refl _ _ _ _⟩ | exact ⟨⟨rfl, rfl, fun h => absurd h (by decide)⟩, hR, FS.refl _ _ _ _⟩
        | 5, _, ho =>
          clear hsk
          cases ho
          have e22 : ev (.tmp 22) = I (i : Int) := hs 22 (by kernel_rfl)
          go_simp
          first | exact ⟨rfl, hR, FS.refl _ _ _ _⟩ | exact ⟨⟨rfl, rfl⟩, hR, FS.refl _ _ _ _⟩ | exact ⟨⟨rfl, fun h => absurd h (by decide)⟩, hR, FS.refl _ _ _ _⟩ | exact ⟨⟨rfl, rfl, fun h => absurd h (by decide)⟩, hR, FS.refl _ _ _ _⟩
        | 6, _, ho =>
          clear hsk
          cases ho
          have e97 : ev (.tmp 97) = .slice (some ⟨b18, 0, none⟩) 4 4 := hd 4 97 (by kernel_rfl)
          have e98 : ev (.tmp 98) = I (i : Int) := hd 5 98 (by kernel_rfl)
          have hil : (i : Int) < 4 := by omega
          go_simp
          first | exact ⟨rfl, hR, FS.refl _ _ _ _⟩ | exact ⟨⟨rfl, rfl⟩, hR, FS.refl _ _ _ _⟩ | exact ⟨⟨rfl, fun h => absurd h (by decide)⟩, hR, FS.refl _ _ _ _⟩ | exact ⟨⟨rfl, rfl, fun h => absurd h (by decide)⟩, hR, FS.refl _ _ _ _⟩
        | 7, _, ho =>
          clear hsk
          cases ho
          have e99 : ev (.tmp 99) = .pointer (some ⟨b18, i, none⟩) := hd 6 99 (by kernel_rfl)
          have m1 := (qf.grow hR).cl
          go_simp
          first | exact ⟨rfl, hR, FS.refl _ _ _ _⟩ | exact ⟨⟨rfl, rfl⟩, hR, FS.refl _ _ _ _⟩ | exact ⟨⟨rfl, fun h => absurd h (by decide)⟩, hR, FS.refl _ _ _ _⟩ | exact ⟨⟨rfl, rfl, fun h => absurd h (by decide)⟩, hR, FS.refl _ _ _ _⟩
        | 8, _, ho =>
          clear hsk
          cases ho
          have e19 : ev (.tmp 19) = .slice (some ⟨b19, 0, none⟩) 4 4 := hs 19 (by kernel_rfl)
          go_simp
          first | exact ⟨rfl, hR, FS.refl _ _ _ _⟩ | exact ⟨⟨rfl, rfl⟩, hR, FS.refl _ _ _ _⟩ | exact ⟨⟨rfl, fun h => absurd h (by decide)⟩, hR, FS.refl _ _ _ _⟩ | exact ⟨⟨rfl, rfl, fun h => absurd h (by decide)⟩, hR, FS.refl _ _ _ _⟩
        | 9, _, ho =>
          clear hsk
          cases ho
          have e22 : ev (.tmp 22) = I (i : Int) := hs 22 (by kernel_rfl)
          go_simp
          first | exact ⟨rfl, hR, FS.refl _ _ _ _⟩ | exact ⟨⟨rfl, rfl⟩, hR, FS.refl _ _ _ _⟩ | exact ⟨⟨rfl, fun h => absurd h (by decide)⟩, hR, FS.refl _ _ _ _⟩ | exact ⟨⟨rfl, rfl, fun h => absurd h (by decide)⟩, hR, FS.refl _ _ _ _⟩
        | 10, _, ho =>
          clear hsk
          cases ho
          have e101 : ev (.tmp 101) = .slice (some ⟨b19, 0, none⟩) 4 4 := hd 8 101 (by kernel_rfl)
          have e102 : ev (.tmp 102) = I (i : Int) := hd 9 102 (by kernel_rfl)
          have hil : (i : Int) < 4 := by omega
          go_simp
          first | exact ⟨rfl, hR, FS.refl _ _ _ _⟩ | exact ⟨⟨rfl, rfl⟩, hR, FS.refl _ _ _ _⟩ | exact ⟨⟨rfl, fun h => absurd h (by decide)⟩, hR, FS.refl _ _ _ _⟩ | exact ⟨⟨rfl, rfl, fun h => absurd h (by decide)⟩, hR, FS.refl _ _ _ _⟩
        | 11, _, ho =>
          clear hsk
          cases ho
          have e103 : ev (.tmp 103) = .pointer (some ⟨b19, i, none⟩) := hd 10 103 (by kernel_rfl)
          have m1 := ((qf.grow hR).cn (b19, wi) (by simp)).2
          go_simp
          first | exact ⟨rfl, hR, FS.refl _ _ _ _⟩ | exact ⟨⟨rfl, rfl⟩, hR, FS.refl _ _ _ _⟩ | exact ⟨⟨rfl, fun h => absurd h (by decide)⟩, hR, FS.refl _ _ _ _⟩ | exact ⟨⟨rfl, rfl, fun h => absurd h (by decide)⟩, hR, FS.refl _ _ _ _⟩
        | 12, _, ho =>
          clear hsk
          cases ho
          have e20 : ev (.tmp 20) = .slice (some ⟨b20, 0, none⟩) 4 4 := hs 20 (by kernel_rfl)
          go_simp
          first | exact ⟨rfl, hR, FS.refl _ _ _ _⟩ | exact ⟨⟨rfl, rfl⟩, hR, FS.refl _ _ _ _⟩ | exact ⟨⟨rfl, fun h => absurd h (by decide)⟩, hR, FS.refl _ _ _ _⟩ | exact ⟨⟨rfl, rfl, fun h => absurd h (by decide)⟩, hR, FS.refl _ _ _ _⟩
        | 13, _, ho =>
          clear hsk
          cases ho
          have e22 : ev (.tmp 22) = I (i : Int) := hs 22 (by kernel_rfl)
          go_simp
          first | exact ⟨rfl, hR, FS.refl _ _ _ _⟩ | exact ⟨⟨rfl, rfl⟩, hR, FS.refl _ _ _ _⟩ | exact ⟨⟨rfl, fun h => absurd h (by decide)⟩, hR, FS.refl _ _ _ _⟩ | exact ⟨⟨rfl, rfl, fun h => absurd h (by decide)⟩, hR, FS.refl _ _ _ _⟩
        | 14, _, ho =>
          clear hsk
          cases ho
          have e105 : ev (.tmp 105) = .slice (some ⟨b20, 0, none⟩) 4 4 := hd 12 105 (by kernel_rfl)
          have e106 : ev (.tmp 106) = I (i : Int) := hd 13 106 (by kernel_rfl)
          have hil : (i : Int) < 4 := by omega
          go_simp
          first | exact ⟨rfl, hR, FS.refl _ _ _ _⟩ | exact ⟨⟨rfl, rfl⟩, hR, FS.refl _ _ _ _⟩ | exact ⟨⟨rfl, fun h => absurd h (by decide)⟩, hR, FS.refl _ _ _ _⟩ | exact ⟨⟨rfl, rfl, fun h => absurd h (by decide)⟩, hR, FS.refl _ _ _ _⟩
        | 15, _, ho =>
          clear hsk
          cases ho
          have e107 : ev (.tmp 107) = .pointer (some ⟨b20, i, none⟩) := hd 14 107 (by kernel_rfl)
          have m1 := ((qf.grow hR).cn (b20, se) (by simp)).2
          go_simp
          first | exact ⟨rfl, hR, FS.refl _ _ _ _⟩ | exact ⟨⟨rfl, rfl⟩, hR, FS.refl _ _ _ _⟩ | exact ⟨⟨rfl, fun h => absurd h (by decide)⟩, hR, FS.refl _ _ _ _⟩ | exact ⟨⟨rfl, rfl, fun h => absurd h (by decide)⟩, hR, FS.refl _ _ _ _⟩
        | 16, _, ho =>
          clear hsk
          cases ho
          have e96 : ev (.tmp 96) = .agg #[I x.r, .slice x.A x.ws.length x.c] := hd 3 96 (by kernel_rfl)
          have e100 : ev (.tmp 100) = .slice x.B x.sts.length x.cb := hd 7 100 (by kernel_rfl)
          have e104 : ev (.tmp 104) = I wi := hd 11 104 (by kernel_rfl)
          have e108 : ev (.tmp 108) = I se := hd 15 108 (by kernel_rfl)
          go_simp
          refine ((qf.grow hR).ok.whereP _ _).mono ?_
          rintro e wz ⟨rfl, hwz⟩
          first | exact ⟨rfl, hR.trans (hwz.mono hR.size), FS.below hwz⟩ | exact ⟨⟨rfl, rfl⟩, hR.trans (hwz.mono hR.size), FS.below hwz⟩ | exact ⟨⟨rfl, fun h => absurd h (by decide)⟩, hR.trans (hwz.mono hR.size), FS.below hwz⟩ | exact ⟨⟨rfl, rfl, fun h => absurd h (by decide)⟩, hR.trans (hwz.mono hR.size), FS.below hwz⟩
        | 17, _, ho =>
          clear hsk
          cases ho
          have e109 : ev (.tmp 109) = .tuple #[Sp (whLo x.r x.ws x.sts wi se) (whHi x.r x.ws x.sts wi se), I (mom x.r x.ws x.sts wi se)] := hd 16 109 (by kernel_rfl)
          go_simp
          first | exact ⟨rfl, hR, FS.refl _ _ _ _⟩ | exact ⟨⟨rfl, rfl⟩, hR, FS.refl _ _ _ _⟩ | exact ⟨⟨rfl, fun h => absurd h (by decide)⟩, hR, FS.refl _ _ _ _⟩ | exact ⟨⟨rfl, rfl, fun h => absurd h (by decide)⟩, hR, FS.refl _ _ _ _⟩
        | 18, _, ho =>
          clear hsk
          cases ho
          have e92 : ev (.tmp 92) = .tuple #[Sp (whLo x.r x.ws x.sts wi se) (whHi x.r x.ws x.sts wi se), I (mom x.r x.ws x.sts wi se)] := hd 17 92 (by kernel_rfl)
          go_simp
          first | exact ⟨rfl, hR, FS.refl _ _ _ _⟩ | exact ⟨⟨rfl, rfl⟩, hR, FS.refl _ _ _ _⟩ | exact ⟨⟨rfl, fun h => absurd h (by decide)⟩, hR, FS.refl _ _ _ _⟩ | exact ⟨⟨rfl, rfl, fun h => absurd h (by decide)⟩, hR, FS.refl _ _ _ _⟩
        | 19, _, ho =>
          clear hsk
          cases ho
          have e92 : ev (.tmp 92) = .tuple #[Sp (whLo x.r x.ws x.sts wi se) (whHi x.r x.ws x.sts wi se), I (mom x.r x.ws x.sts wi se)] := hd 17 92 (by kernel_rfl)
          go_simp
          first | exact ⟨rfl, hR, FS.refl _ _ _ _⟩ | exact ⟨⟨rfl, rfl⟩, hR, FS.refl _ _ _ _⟩ | exact ⟨⟨rfl, fun h => absurd h (by decide)⟩, hR, FS.refl _ _ _ _⟩ | exact ⟨⟨rfl, rfl, fun h => absurd h (by decide)⟩, hR, FS.refl _ _ _ _⟩
        | 20, _, ho =>
          clear hsk
          cases ho
          go_simp
          first | exact ⟨⟨_, rfl, hR.size, (by simp), SpB.new _ _⟩, hR.alloc hR.size _, FS.below ((Below.refl _ _).alloc (Nat.le_refl _) _)⟩ | exact ⟨⟨rfl, ⟨_, rfl, hR.size, (by simp), SpB.new _ _⟩⟩, hR.alloc hR.size _, FS.below ((Below.refl _ _).alloc (Nat.le_refl _) _)⟩ | exact ⟨⟨⟨_, rfl, hR.size, (by simp), SpB.new _ _⟩, fun h => absurd h (by decide)⟩, hR.alloc hR.size _, FS.below ((Below.refl _ _).alloc (Nat.le_refl _) _)⟩ | exact ⟨⟨rfl, ⟨_, rfl, hR.size, (by simp), SpB.new _ _⟩, fun h => absurd h (by decide)⟩, hR.alloc hR.size _, FS.below ((Below.refl _ _).alloc (Nat.le_refl _) _)⟩
        | 21, _, ho =>
          clear hsk
          cases ho
          obtain ⟨bx, e23, hb1, hb2, hb3⟩ : ∃ b, ev (.tmp 23) = .pointer (some ⟨b, 0, none⟩) ∧ wr.heap.size ≤ b ∧ some b ≠ Option.none ∧ SpB (P0 (fun x' y' : Int => x' = whLo x.r x.ws x.sts wi se ∧ y' = whHi x.r x.ws x.sts wi se)) w' b := hd 20 23 (by kernel_rfl)
          have e110 : ev (.tmp 110) = Sp (whLo x.r x.ws x.sts wi se) (whHi x.r x.ws x.sts wi se) := hd 18 110 (by kernel_rfl)
          obtain ⟨x0, y0, _, hbx⟩ := hb3
          have hcx := hbx.cell
          have hfx := hbx.free
          go_simp
          have hP : (fun x' y' : Int => x' = whLo x.r x.ws x.sts wi se ∧ y' = whHi x.r x.ws x.sts wi se) _ _ := ⟨rfl, rfl⟩
          have hin : SpB (P0 (fun x' y' : Int => x' = whLo x.r x.ws x.sts wi se ∧ y' = whHi x.r x.ws x.sts wi se)) w' bx := ⟨x0, y0, ‹_›, hbx⟩
          first | exact ⟨⟨rfl, fun t ht => (by cases ht; exact ⟨bx, e23, hb1, hb2, hin.put hP⟩)⟩, below_put hR hb1 _ _, FS.put hb1 hin hP⟩ | exact ⟨fun t ht => (by cases ht; exact ⟨bx, e23, hb1, hb2, hin.put hP⟩), below_put hR hb1 _ _, FS.put hb1 hin hP⟩
        | n + 22, hi, _ => exact absurd hi (by simp)
      intro ρ wa hR hρ hne K hK
      have p19 : ρ 19 = I (mom x.r x.ws x.sts wi se) := hρ 19 (by simp)
      obtain ⟨qa, p20, _, _, _, _, ⟨rfl, rfl⟩, xa⟩ : ∃ b, ρ 20 = .pointer (some ⟨b, 0, none⟩) ∧ wr.heap.size ≤ b ∧ some b ≠ Option.none ∧ SpB (fun x' y' : Int => x' = whLo x.r x.ws x.sts wi se ∧ y' = whHi x.r x.ws x.sts wi se) wa b := hρ 21 (by simp)
      show K (putAll _ _ ρ 22) _
      simp only [putAll, dOf, List.getElem?_toArray, List.getElem?_cons_zero, List.getElem?_cons_succ, Option.bind_some, Act.put, List.setIfInBounds_toArray, List.set_cons_zero, List.set_cons_succ]
      rw [p19, p20]
      refine hK _ _ ?_
      change wpList _ _ _ [_] _ _
      clear hK K p19 p20 hρ hne
      have qf := qf.grow hR
      have hWa := hW.trans (hR.mono hW.size)
      clear hW hR
      go_wp2_with fail
      refine wp_region_list_s (by kernel_rfl) (R := RB wa.heap.size wa) (F := FS Option.none wa.heap.size (fun x' y' : Int => x' = whLo x.r x.ws x.sts wi se ∧ y' = whHi x.r x.ws x.sts wi se)) [] [] [(21, 20)]
          [As.is _ _ (.slice (some ⟨b17, 0, none⟩) 4 4),
          As.is _ _ (I (i : Int)),
          As.is _ _ (.pointer (some ⟨b17, i * 2, none⟩)),
          As.is _ _ (.agg #[I x.r, .slice x.A x.ws.length x.c]),
          As.is _ _ (.slice (some ⟨b18, 0, none⟩) 4 4),
          As.is _ _ (I (i : Int)),
          As.is _ _ (.pointer (some ⟨b18, i, none⟩)),
          As.is _ _ (.slice x.B x.sts.length x.cb),
          As.is _ _ (.slice (some ⟨b19, 0, none⟩) 4 4),
          As.is _ _ (I (i : Int)),
          As.is _ _ (.pointer (some ⟨b19, i, none⟩)),
          As.is _ _ (I wi),
          As.is _ _ (.slice (some ⟨b20, 0, none⟩) 4 4),
          As.is _ _ (I (i : Int)),
          As.is _ _ (.pointer (some ⟨b20, i, none⟩)),
          As.is _ _ (I se),
          As.is _ _ (.tuple #[Sp (whLo x.r x.ws x.sts wi se) (whHi x.r x.ws x.sts wi se), I (mom x.r x.ws x.sts wi se)]),
          As.is _ _ (.tuple #[Sp (whLo x.r x.ws x.sts wi se) (whHi x.r x.ws x.sts wi se), I (mom x.r x.ws x.sts wi se)]),
          As.is _ _ (Sp (whLo x.r x.ws x.sts wi se) (whHi x.r x.ws x.sts wi se)),
          As.is _ _ (I (mom x.r x.ws x.sts wi se)),
          asSp0 _ Option.none wa.heap.size (fun x' y' : Int => x' = whLo x.r x.ws x.sts wi se ∧ y' = whHi x.r x.ws x.sts wi se),
          asSp1 _ Option.none wa.heap.size (fun x' y' : Int => x' = whLo x.r x.ws x.sts wi se ∧ y' = whHi x.r x.ws x.sts wi se)] 191 (by kernel_rfl) rfl ((Below.refl _ _).drew) (by simp) (by simp) ?_ (fun _ => FS.refl _ _ _ _) ?_ ?_ ?_
      · intro i' hi' o' ho k' b' hg u w' hR hu
        match i', hi', ho with
        | 0, _, ho => cases ho; cases hg
        | 1, _, ho => cases ho; cases hg
        | 2, _, ho => cases ho; cases hg
        | 3, _, ho => cases ho; cases hg
        | 4, _, ho => cases ho; cases hg
        | 5, _, ho => cases ho; cases hg
        | 6, _, ho => cases ho; cases hg
        | 7, _, ho => cases ho; cases hg
        | 8, _, ho => cases ho; cases hg
        | 9, _, ho => cases ho; cases hg
        | 10, _, ho => cases ho; cases hg
        | 11, _, ho => cases ho; cases hg
        | 12, _, ho => cases ho; cases hg
        | 13, _, ho => cases ho; cases hg
        | 14, _, ho => cases ho; cases hg
        | 15, _, ho => cases ho; cases hg
        | 16, _, ho => cases ho; cases hg
        | 17, _, ho => cases ho; cases hg
        | 18, _, ho => cases ho; cases hg
        | 19, _, ho => cases ho; cases hg
        | 20, _, ho => cases ho; cases hg
        | 21, _, ho => cases ho; cases hg
        | n + 22, hi, _ => exact absurd hi (by simp)
      · intro i' hi' hsk; cases hsk
      · intro i' hi' hsk o' ho ev w' hR hc hf hg hs hd
        match i', hi', ho with
        | 0, _, ho =>
          clear hsk
          cases ho
          have e17 : ev (.tmp 17) = .slice (some ⟨b17, 0, none⟩) 4 4 := hs 17 (by kernel_rfl)
          go_simp
          first | exact ⟨rfl, hR, FS.refl _ _ _ _⟩ | exact ⟨⟨rfl, rfl⟩, hR, FS.refl _ _ _ _⟩ | exact ⟨⟨rfl, fun h => absurd h (by decide)⟩, hR, FS.refl _ _ _ _⟩ | exact ⟨⟨rfl, rfl, fun h => absurd h (by decide)⟩, hR, FS.refl _ _ _ _⟩
        | 1, _, ho =>
          clear hsk
          cases ho
          have e22 : ev (.tmp 22) = I (i : Int) := hs 22 (by kernel_rfl)
          go_simp
          first | exact ⟨rfl, hR, FS.refl _ _ _ _⟩ | exact ⟨⟨rfl, rfl⟩, hR, FS.refl _ _ _ _⟩ | exact ⟨⟨rfl, fun h => absurd h (by decide)⟩, hR, FS.refl _ _ _ _⟩ | exact ⟨⟨rfl, rfl, fun h => absurd h (by decide)⟩, hR, FS.refl _ _ _ _⟩
        | 2, _, ho =>
          clear hsk
          cases ho
          have e113 : ev (.tmp 113) = .slice (some ⟨b17, 0, none⟩) 4 4 := hd 0 113 (by kernel_rfl)
          have e114 : ev (.tmp 114) = I (i : Int) := hd 1 114 (by kernel_rfl)
          have hil : (i : Int) < 4 := by omega
          go_simp
          first | exact ⟨rfl, hR, FS.refl _ _ _ _⟩ | exact ⟨⟨rfl, rfl⟩, hR, FS.refl _ _ _ _⟩ | exact ⟨⟨rfl, fun h => absurd h (by decide)⟩, hR, FS.refl _ _ _ _⟩ | exact ⟨⟨rfl, rfl, fun h => absurd h (by decide)⟩, hR, FS.refl _ _ _ _⟩
        | 3, _, ho =>
          clear hsk
          cases ho
          have e115 : ev (.tmp 115) = .pointer (some ⟨b17, i * 2, none⟩) := hd 2 115 (by kernel_rfl)
          have m1 := (qf.grow hR).cr
          have m2 := (qf.grow hR).cs
          go_simp
          first | exact ⟨rfl, hR, FS.refl _ _ _ _⟩ | exact ⟨⟨rfl, rfl⟩, hR, FS.refl _ _ _ _⟩ | exact ⟨⟨rfl, fun h => absurd h (by decide)⟩, hR, FS.refl _ _ _ _⟩ | exact ⟨⟨rfl, rfl, fun h => absurd h (by decide)⟩, hR, FS.refl _ _ _ _⟩
        | 4, _, ho =>
          clear hsk
          cases ho
          have e18 : ev (.tmp 18) = .slice (some ⟨b18, 0, none⟩) 4 4 := hs 18 (by kernel_rfl)
          go_simp
          first | exact ⟨rfl, hR, FS.refl _ _ _ _⟩ | exact ⟨⟨rfl, rfl⟩, hR, FS.refl _ _ _ _⟩ | exact ⟨⟨rfl, fun h => absurd h (by decide)⟩, hR, FS.refl _ _ _ _⟩ | exact ⟨⟨rfl, rfl, fun h => absurd h (by decide)⟩, hR, FS.refl _ _ _ _⟩
        | 5, _, ho =>
          clear hsk
          cases ho
          have e22 : ev (.tmp 22) = I (i : Int) := hs 22 (by kernel_rfl)
          go_simp
          first | exact ⟨rfl, hR, FS.refl _ _ _ _⟩ | exact ⟨⟨rfl, rfl⟩, hR, FS.refl _ _ _ _⟩ | exact ⟨⟨rfl, fun h => absurd h (by decide)⟩, hR, FS.refl _ _ _ _⟩ | exact ⟨⟨rfl, rfl, fun h => absurd h (by decide)⟩, hR, FS.refl _ _ _ _⟩
        | 6, _, ho =>
          clear hsk
          cases ho
          have e117 : ev (.tmp 117) = .slice (some ⟨b18, 0, none⟩) 4 4 := hd 4 117 (by kernel_rfl)
          have e118 : ev (.tmp 118) = I (i : Int) := hd 5 118 (by kernel_rfl)
          have hil : (i : Int) < 4 := by omega
          go_simp
          first | exact ⟨rfl, hR, FS.refl _ _ _ _⟩ | exact ⟨⟨rfl, rfl⟩, hR, FS.refl _ _ _ _⟩ | exact ⟨⟨rfl, fun h => absurd h (by decide)⟩, hR, FS.refl _ _ _ _⟩ | exact ⟨⟨rfl, rfl, fun h => absurd h (by decide)⟩, hR, FS.refl _ _ _ _⟩
        | 7, _, ho =>
          clear hsk
          cases ho
          have e119 : ev (.tmp 119) = .pointer (some ⟨b18, i, none⟩) := hd 6 119 (by kernel_rfl)
          have m1 := (qf.grow hR).cl
          go_simp
          first | exact ⟨rfl, hR, FS.refl _ _ _ _⟩ | exact ⟨⟨rfl, rfl⟩, hR, FS.refl _ _ _ _⟩ | exact ⟨⟨rfl, fun h => absurd h (by decide)⟩, hR, FS.refl _ _ _ _⟩ | exact ⟨⟨rfl, rfl, fun h => absurd h (by decide)⟩, hR, FS.refl _ _ _ _⟩
        | 8, _, ho =>
          clear hsk
          cases ho
          have e19 : ev (.tmp 19) = .slice (some ⟨b19, 0, none⟩) 4 4 := hs 19 (by kernel_rfl)
          go_simp
          first | exact ⟨rfl, hR, FS.refl _ _ _ _⟩ | exact ⟨⟨rfl, rfl⟩, hR, FS.refl _ _ _ _⟩ | exact ⟨⟨rfl, fun h => absurd h (by decide)⟩, hR, FS.refl _ _ _ _⟩ | exact ⟨⟨rfl, rfl, fun h => absurd h (by decide)⟩, hR, FS.refl _ _ _ _⟩
        | 9, _, ho =>
          clear hsk
          cases ho
          have e22 : ev (.tmp 22) = I (i : Int) := hs 22 (by kernel_rfl)
          go_simp
          first | exact ⟨rfl, hR, FS.refl _ _ _ _⟩ | exact ⟨⟨rfl, rfl⟩, hR, FS.refl _ _ _ _⟩ | exact ⟨⟨rfl, fun h => absurd h (by decide)⟩, hR, FS.refl _ _ _ _⟩ | exact ⟨⟨rfl, rfl, fun h => absurd h (by decide)⟩, hR, FS.refl _ _ _ _⟩
        | 10, _, ho =>
          clear hsk
          cases ho
          have e121 : ev (.tmp 121) = .slice (some ⟨b19, 0, none⟩) 4 4 := hd 8 121 (by kernel_rfl)
          have e122 : ev (.tmp 122) = I (i : Int) := hd 9 122 (by kernel_rfl)
          have hil : (i : Int) < 4 := by omega
          go_simp
          first | exact ⟨rfl, hR, FS.refl _ _ _ _⟩ | exact ⟨⟨rfl, rfl⟩, hR, FS.refl _ _ _ _⟩ | exact ⟨⟨rfl, fun h => absurd h (by decide)⟩, hR, FS.refl _ _ _ _⟩ | exact ⟨⟨rfl, rfl, fun h => absurd h (by decide)⟩, hR, FS.refl _ _ _ _⟩
        | 11, _, ho =>
          clear hsk
          cases ho
          have e123 : ev (.tmp 123) = .pointer (some ⟨b19, i, none⟩) := hd 10 123 (by kernel_rfl)
          have m1 := ((qf.grow hR).cn (b19, wi) (by simp)).2
          go_simp
          first | exact ⟨rfl, hR, FS.refl _ _ _ _⟩ | exact ⟨⟨rfl, rfl⟩, hR, FS.refl _ _ _ _⟩ | exact ⟨⟨rfl, fun h => absurd h (by decide)⟩, hR, FS.refl _ _ _ _⟩ | exact ⟨⟨rfl, rfl, fun h => absurd h (by decide)⟩, hR, FS.refl _ _ _ _⟩
        | 12, _, ho =>
          clear hsk
          cases ho
          have e20 : ev (.tmp 20) = .slice (some ⟨b20, 0, none⟩) 4 4 := hs 20 (by kernel_rfl)
          go_simp
          first | exact ⟨rfl, hR, FS.refl _ _ _ _⟩ | exact ⟨⟨rfl, rfl⟩, hR, FS.refl _ _ _ _⟩ | exact ⟨⟨rfl, fun h => absurd h (by decide)⟩, hR, FS.refl _ _ _ _⟩ | exact ⟨⟨rfl, rfl, fun h => absurd h (by decide)⟩, hR, FS.refl _ _ _ _⟩
        | 13, _, ho =>
          clear hsk
          cases ho
          have e22 : ev (.tmp 22) = I (i : Int) := hs 22 (by kernel_rfl)
          go_simp
          first | exact ⟨rfl, hR, FS.refl _ _ _ _⟩ | exact ⟨⟨rfl, rfl⟩, hR, FS.refl _ _ _ _⟩ | exact ⟨⟨rfl, fun h => absurd h (by decide)⟩, hR, FS.refl _ _ _ _⟩ | exact ⟨⟨rfl, rfl, fun h => absurd h (by decide)⟩, hR, FS.refl _ _ _ _⟩
        | 14, _, ho =>
          clear hsk
          cases ho
          have e125 : ev (.tmp 125) = .slice (some ⟨b20, 0, none⟩) 4 4 := hd 12 125 (by kernel_rfl)
          have e126 : ev (.tmp 126) = I (i : Int) := hd 13 126 (by kernel_rfl)
          have hil : (i : Int) < 4 := by omega
          go_simp
          first | exact ⟨rfl, hR, FS.refl _ _ _ _⟩ | exact ⟨⟨rfl, rfl⟩, hR, FS.refl _ _ _ _⟩ | exact ⟨⟨rfl, fun h => absurd h (by decide)⟩, hR, FS.refl _ _ _ _⟩ | exact ⟨⟨rfl, rfl, fun h => absurd h (by decide)⟩, hR, FS.refl _ _ _ _⟩
        | 15, _, ho =>
          clear hsk
          cases ho
          have e127 : ev (.tmp 127) = .pointer (some ⟨b20, i, none⟩) := hd 14 127 (by kernel_rfl)
          have m1 := ((qf.grow hR).cn (b20, se) (by simp)).2
          go_simp
          first | exact ⟨rfl, hR, FS.refl _ _ _ _⟩ | exact ⟨⟨rfl, rfl⟩, hR, FS.refl _ _ _ _⟩ | exact ⟨⟨rfl, fun h => absurd h (by decide)⟩, hR, FS.refl _ _ _ _⟩ | exact ⟨⟨rfl, rfl, fun h => absurd h (by decide)⟩, hR, FS.refl _ _ _ _⟩
        | 16, _, ho =>
          clear hsk
          cases ho
          have e116 : ev (.tmp 116) = .agg #[I x.r, .slice x.A x.ws.length x.c] := hd 3 116 (by kernel_rfl)
          have e120 : ev (.tmp 120) = .slice x.B x.sts.length x.cb := hd 7 120 (by kernel_rfl)
          have e124 : ev (.tmp 124) = I wi := hd 11 124 (by kernel_rfl)
          have e128 : ev (.tmp 128) = I se := hd 15 128 (by kernel_rfl)
          go_simp
          refine ((qf.grow hR).ok.whereR _ _).mono ?_
          rintro e wz ⟨rfl, hwz⟩
          first | exact ⟨rfl, hR.trans (hwz.mono hR.size), FS.below hwz⟩ | exact ⟨⟨rfl, rfl⟩, hR.trans (hwz.mono hR.size), FS.below hwz⟩ | exact ⟨⟨rfl, fun h => absurd h (by decide)⟩, hR.trans (hwz.mono hR.size), FS.below hwz⟩ | exact ⟨⟨rfl, rfl, fun h => absurd h (by decide)⟩, hR.trans (hwz.mono hR.size), FS.below hwz⟩
        | 17, _, ho =>
          clear hsk
          cases ho
          have e129 : ev (.tmp 129) = .tuple #[Sp (whLo x.r x.ws x.sts wi se) (whHi x.r x.ws x.sts wi se), I (mom x.r x.ws x.sts wi se)] := hd 16 129 (by kernel_rfl)
          go_simp
          first | exact ⟨rfl, hR, FS.refl _ _ _ _⟩ | exact ⟨⟨rfl, rfl⟩, hR, FS.refl _ _ _ _⟩ | exact ⟨⟨rfl, fun h => absurd h (by decide)⟩, hR, FS.refl _ _ _ _⟩ | exact ⟨⟨rfl, rfl, fun h => absurd h (by decide)⟩, hR, FS.refl _ _ _ _⟩
        | 18, _, ho =>
          clear hsk
          cases ho
          have e112 : ev (.tmp 112) = .tuple #[Sp (whLo x.r x.ws x.sts wi se) (whHi x.r x.ws x.sts wi se), I (mom x.r x.ws x.sts wi se)] := hd 17 112 (by kernel_rfl)
          go_simp
          first | exact ⟨rfl, hR, FS.refl _ _ _ _⟩ | exact ⟨⟨rfl, rfl⟩, hR, FS.refl _ _ _ _⟩ | exact ⟨⟨rfl, fun h => absurd h (by decide)⟩, hR, FS.refl _ _ _ _⟩ | exact ⟨⟨rfl, rfl, fun h => absurd h (by decide)⟩, hR, FS.refl _ _ _ _⟩
        | 19, _, ho =>
          clear hsk
          cases ho
          have e112 : ev (.tmp 112) = .tuple #[Sp (whLo x.r x.ws x.sts wi se) (whHi x.r x.ws x.sts wi se), I (mom x.r x.ws x.sts wi se)] := hd 17 112 (by kernel_rfl)
          go_simp
          first | exact ⟨rfl, hR, FS.refl _ _ _ _⟩ | exact ⟨⟨rfl, rfl⟩, hR, FS.refl _ _ _ _⟩ | exact ⟨⟨rfl, fun h => absurd h (by decide)⟩, hR, FS.refl _ _ _ _⟩ | exact ⟨⟨rfl, rfl, fun h => absurd h (by decide)⟩, hR, FS.refl _ _ _ _⟩
        | 20, _, ho =>
          clear hsk
          cases ho
          go_simp
          first | exact ⟨⟨_, rfl, hR.size, (by simp), SpB.new _ _⟩, hR.alloc hR.size _, FS.below ((Below.refl _ _).alloc (Nat.le_refl _) _)⟩ | exact ⟨⟨rfl, ⟨_, rfl, hR.size, (by simp), SpB.new _ _⟩⟩, hR.alloc hR.size _, FS.below ((Below.refl _ _).alloc (Nat.le_refl _) _)⟩ | exact ⟨⟨⟨_, rfl, hR.size, (by simp), SpB.new _ _⟩, fun h => absurd h (by decide)⟩, hR.alloc hR.size _, FS.below ((Below.refl _ _).alloc (Nat.le_refl _) _)⟩ | exact ⟨⟨rfl, ⟨_, rfl, hR.size, (by simp), SpB.new _ _⟩, fun h => absurd h (by decide)⟩, hR.alloc hR.size _, FS.below ((Below.refl _ _).alloc (Nat.le_refl _) _)⟩
        | 21, _, ho =>
          clear hsk
          cases ho
          obtain ⟨bx, e25, hb1, hb2, hb3⟩ : ∃ b, ev (.tmp 25) = .pointer (some ⟨b, 0, none⟩) ∧ wa.heap.size ≤ b ∧ some b ≠ Option.none ∧ SpB (P0 (fun x' y' : Int => x' = whLo x.r x.ws x.sts wi se ∧ y' = whHi x.r x.ws x.sts wi se)) w' b := hd 20 25 (by kernel_rfl)
          have e130 : ev (.tmp 130) = Sp (whLo x.r x.ws x.sts wi se) (whHi x.r x.ws x.sts wi se) := hd 18 130 (by kernel_rfl)
          obtain ⟨x0, y0, _, hbx⟩ := hb3
          have hcx := hbx.cell
          have hfx := hbx.free
          go_simp
          have hP : (fun x' y' : Int => x' = whLo x.r x.ws x.sts wi se ∧ y' = whHi x.r x.ws x.sts wi se) _ _ := ⟨rfl, rfl⟩
          have hin : SpB (P0 (fun x' y' : Int => x' = whLo x.r x.ws x.sts wi se ∧ y' = whHi x.r x.ws x.sts wi se)) w' bx := ⟨x0, y0, ‹_›, hbx⟩
          first | exact ⟨⟨rfl, fun t ht => (by cases ht; exact ⟨bx, e25, hb1, hb2, hin.put hP⟩)⟩, below_put hR hb1 _ _, FS.put hb1 hin hP⟩ | exact ⟨fun t ht => (by cases ht; exact ⟨bx, e25, hb1, hb2, hin.put hP⟩), below_put hR hb1 _ _, FS.put hb1 hin hP⟩
        | n + 22, hi, _ => exact absurd hi (by simp)
      intro ρ wb hR hρ hne K hK
      have p19 : ρ 19 = I (mom x.r x.ws x.sts wi se) := hρ 19 (by simp)
      obtain ⟨qb, p20, _, _, _, _, ⟨rfl, rfl⟩, xb⟩ : ∃ b, ρ 20 = .pointer (some ⟨b, 0, none⟩) ∧ wa.heap.size ≤ b ∧ some b ≠ Option.none ∧ SpB (fun x' y' : Int => x' = whLo x.r x.ws x.sts wi se ∧ y' = whHi x.r x.ws x.sts wi se) wb b := hρ 21 (by simp)
      show K (putAll _ _ ρ 22) _
      simp only [putAll, dOf, List.getElem?_toArray, List.getElem?_cons_zero, List.getElem?_cons_succ, Option.bind_some, Act.put, List.setIfInBounds_toArray, List.set_cons_zero, List.set_cons_succ]
      rw [p19, p20]
      refine hK _ _ ?_
      change wpList _ _ _ [_] _ _
      clear hK K p19 p20 hρ hne
      have qf := qf.grow hR
      have xa := xa.below hR xa.lt
      have hWb := hWa.trans (hR.mono hWa.size)
      clear hWa hR
      go_wp2_with fail
      refine wp_region_list_s (by kernel_rfl) (R := RB wb.heap.size wb) (F := FS Option.none wb.heap.size (fun x' y' : Int => x' = paLo x.r x.ws x.sts wi pl ∧ y' = paHi x.r x.ws x.sts wi pl)) [] [] [(21, 20)]
          [As.is _ _ (.slice (some ⟨b17, 0, none⟩) 4 4),
          As.is _ _ (I (i : Int)),
          As.is _ _ (.pointer (some ⟨b17, i * 2, none⟩)),
          As.is _ _ (.agg #[I x.r, .slice x.A x.ws.length x.c]),
          As.is _ _ (.slice (some ⟨b18, 0, none⟩) 4 4),
          As.is _ _ (I (i : Int)),
          As.is _ _ (.pointer (some ⟨b18, i, none⟩)),
          As.is _ _ (.slice x.B x.sts.length x.cb),
          As.is _ _ (.slice (some ⟨b19, 0, none⟩) 4 4),
          As.is _ _ (I (i : Int)),
          As.is _ _ (.pointer (some ⟨b19, i, none⟩)),
          As.is _ _ (I wi),
          As.is _ _ (.slice (some ⟨b21, 0, none⟩) 4 4),
          As.is _ _ (I (i : Int)),
          As.is _ _ (.pointer (some ⟨b21, i, none⟩)),
          As.is _ _ (I pl),
          As.is _ _ (.tuple #[Sp (paLo x.r x.ws x.sts wi pl) (paHi x.r x.ws x.sts wi pl), I (paE x.r x.ws x.sts wi pl)]),
          As.is _ _ (.tuple #[Sp (paLo x.r x.ws x.sts wi pl) (paHi x.r x.ws x.sts wi pl), I (paE x.r x.ws x.sts wi pl)]),
          As.is _ _ (Sp (paLo x.r x.ws x.sts wi pl) (paHi x.r x.ws x.sts wi pl)),
          As.is _ _ (I (paE x.r x.ws x.sts wi pl)),
          asSp0 _ Option.none wb.heap.size (fun x' y' : Int => x' = paLo x.r x.ws x.sts wi pl ∧ y' = paHi x.r x.ws x.sts wi pl),
          asSp1 _ Option.none wb.heap.size (fun x' y' : Int => x' = paLo x.r x.ws x.sts wi pl ∧ y' = paHi x.r x.ws x.sts wi pl)] 191 (by kernel_rfl) rfl ((Below.refl _ _).drew) (by simp) (by simp) ?_ (fun _ => FS.refl _ _ _ _) ?_ ?_ ?_
      · intro i' hi' o' ho k' b' hg u w' hR hu
        match i', hi', ho with
        | 0, _, ho => cases ho; cases hg
        | 1, _, ho => cases ho; cases hg
        | 2, _, ho => cases ho; cases hg
        | 3, _, ho => cases ho; cases hg
        | 4, _, ho => cases ho; cases hg
        | 5, _, ho => cases ho; cases hg
        | 6, _, ho => cases ho; cases hg
        | 7, _, ho => cases ho; cases hg
        | 8, _, ho => cases ho; cases hg
        | 9, _, ho => cases ho; cases hg
        | 10, _, ho => cases ho; cases hg
        | 11, _, ho => cases ho; cases hg
        | 12, _, ho => cases ho; cases hg
        | 13, _, ho => cases ho; cases hg
        | 14, _, ho => cases ho; cases hg
        | 15, _, ho => cases ho; cases hg
        | 16, _, ho => cases ho; cases hg
        | 17, _, ho => cases ho; cases hg
        | 18, _, ho => cases ho; cases hg
        | 19, _, ho => cases ho; cases hg
        | 20, _, ho => cases ho; cases hg
        | 21, _, ho => cases ho; cases hg
        | n + 22, hi, _ => exact absurd hi (by simp)
      · intro i' hi' hsk; cases hsk
      · intro i' hi' hsk o' ho ev w' hR hc hf hg hs hd
        match i', hi', ho with
        | 0, _, ho =>
          clear hsk
          cases ho
          have e17 : ev (.tmp 17) = .slice (some ⟨b17, 0, none⟩) 4 4 := hs 17 (by kernel_rfl)
          go_simp
          first | exact ⟨rfl, hR, FS.refl _ _ _ _⟩ | exact ⟨⟨rfl, rfl⟩, hR, FS.refl _ _ _ _⟩ | exact ⟨⟨rfl, fun h => absurd h (by decide)⟩, hR, FS.refl _ _ _ _⟩ | exact ⟨⟨rfl, rfl, fun h => absurd h (by decide)⟩, hR, FS.refl _ _ _ _⟩
        | 1, _, ho =>
          clear hsk
          cases ho
          have e22 : ev (.tmp 22) = I (i : Int) := hs 22 (by kernel_rfl)
          go_simp
          first | exact ⟨rfl, hR, FS.refl _ _ _ _⟩ | exact ⟨⟨rfl, rfl⟩, hR, FS.refl _ _ _ _⟩ | exact ⟨⟨rfl, fun h => absurd h (by decide)⟩, hR, FS.refl _ _ _ _⟩ | exact ⟨⟨rfl, rfl, fun h => absurd h (by decide)⟩, hR, FS.refl _ _ _ _⟩
        | 2, _, ho =>
          clear hsk
          cases ho
          have e133 : ev (.tmp 133) = .slice (some ⟨b17, 0, none⟩) 4 4 := hd 0 133 (by kernel_rfl)
          have e134 : ev (.tmp 134) = I (i : Int) := hd 1 134 (by kernel_rfl)
          have hil : (i : Int) < 4 := by omega
          go_simp
          first | exact ⟨rfl, hR, FS.refl _ _ _ _⟩ | exact ⟨⟨rfl, rfl⟩, hR, FS.refl _ _ _ _⟩ | exact ⟨⟨rfl, fun h => absurd h (by decide)⟩, hR, FS.refl _ _ _ _⟩ | exact ⟨⟨rfl, rfl, fun h => absurd h (by decide)⟩, hR, FS.refl _ _ _ _⟩
        | 3, _, ho =>
          clear hsk
          cases ho
          have e135 : ev (.tmp 135) = .pointer (some ⟨b17, i * 2, none⟩) := hd 2 135 (by kernel_rfl)
          have m1 := (qf.grow hR).cr
          have m2 := (qf.grow hR).cs
          go_simp
          first | exact ⟨rfl, hR, FS.refl _ _ _ _⟩ | exact ⟨⟨rfl, rfl⟩, hR, FS.refl _ _ _ _⟩ | exact ⟨⟨rfl, fun h => absurd h (by decide)⟩, hR, FS.refl _ _ _ _⟩ | exact ⟨⟨rfl, rfl, fun h => absurd h (by decide)⟩, hR, FS.refl _ _ _ _⟩
        | 4, _, ho =>
          clear hsk
          cases ho
          have e18 : ev (.tmp 18) = .slice (some ⟨b18, 0, none⟩) 4 4 := hs 18 (by kernel_rfl)
          go_simp
          first | exact ⟨rfl, hR, FS.refl _ _ _ _⟩ | exact ⟨⟨rfl, rfl⟩, hR, FS.refl _ _ _ _⟩ | exact ⟨⟨rfl, fun h => absurd h (by decide)⟩, hR, FS.refl _ _ _ _⟩ | exact ⟨⟨rfl, rfl, fun h => absurd h (by decide)⟩, hR, FS.refl _ _ _ _⟩
        | 5, _, ho =>
          clear hsk
          cases ho
          have e22 : ev (.tmp 22) = I (i : Int) := hs 22 (by kernel_rfl)
          go_simp
          first | exact ⟨rfl, hR, FS.refl _ _ _ _⟩ | exact ⟨⟨rfl, rfl⟩, hR, FS.refl _ _ _ _⟩ | exact ⟨⟨rfl, fun h => absurd h (by decide)⟩, hR, FS.refl _ _ _ _⟩ | exact ⟨⟨rfl, rfl, fun h => absurd h (by decide)⟩, hR, FS.refl _ _ _ _⟩
        | 6, _, ho =>
          clear hsk
          cases ho
          have e137 : ev (.tmp 137) = .slice (some ⟨b18, 0, none⟩) 4 4 := hd 4 137 (by kernel_rfl)
          have e138 : ev (.tmp 138) = I (i : Int) := hd 5 138 (by kernel_rfl)
          have hil : (i : Int) < 4 := by omega
          go_simp
          first | exact ⟨rfl, hR, FS.refl _ _ _ _⟩ | exact ⟨⟨rfl, rfl⟩, hR, FS.refl _ _ _ _⟩ | exact ⟨⟨rfl, fun h => absurd h (by decide)⟩, hR, FS.refl _ _ _ _⟩ | exact ⟨⟨rfl, rfl, fun h => absurd h (by decide)⟩, hR, FS.refl _ _ _ _⟩
        | 7, _, ho =>
          clear hsk
          cases ho
          have e139 : ev (.tmp 139) = .pointer (some ⟨b18, i, none⟩) := hd 6 139 (by kernel_rfl)
          have m1 := (qf.grow hR).cl
          go_simp
          first | exact ⟨rfl, hR, FS.refl _ _ _ _⟩ | exact ⟨⟨rfl, rfl⟩, hR, FS.refl _ _ _ _⟩ | exact ⟨⟨rfl, fun h => absurd h (by decide)⟩, hR, FS.refl _ _ _ _⟩ | exact ⟨⟨rfl, rfl, fun h => absurd h (by decide)⟩, hR, FS.refl _ _ _ _⟩
        | 8, _, ho =>
          clear hsk
          cases ho
          have e19 : ev (.tmp 19) = .slice (some ⟨b19, 0, none⟩) 4 4 := hs 19 (by kernel_rfl)
          go_simp
          first | exact ⟨rfl, hR, FS.refl _ _ _ _⟩ | exact ⟨⟨rfl, rfl⟩, hR, FS.refl _ _ _ _⟩ | exact ⟨⟨rfl, fun h => absurd h (by decide)⟩, hR, FS.refl _ _ _ _⟩ | exact ⟨⟨rfl, rfl, fun h => absurd h (by decide)⟩, hR, FS.refl _ _ _ _⟩
        | 9, _, ho =>
          clear hsk
          cases ho
          have e22 : ev (.tmp 22) = I (i : Int) := hs 22 (by kernel_rfl)
          go_simp
          first | exact ⟨rfl, hR, FS.refl _ _ _ _⟩ | exact ⟨⟨rfl, rfl⟩, hR, FS.refl _ _ _ _⟩ | exact ⟨⟨rfl, fun h => absurd h (by decide)⟩, hR, FS.refl _ _ _ _⟩ | exact ⟨⟨rfl, rfl, fun h => absurd h (by decide)⟩, hR, FS.refl _ _ _ _⟩
        | 10, _, ho =>
          clear hsk
          cases ho
          have e141 : ev (.tmp 141) = .slice (some ⟨b19, 0, none⟩) 4 4 := hd 8 141 (by kernel_rfl)
          have e142 : ev (.tmp 142) = I (i : Int) := hd 9 142 (by kernel_rfl)
          have hil : (i : Int) < 4 := by omega
          go_simp
          first | exact ⟨rfl, hR, FS.refl _ _ _ _⟩ | exact ⟨⟨rfl, rfl⟩, hR, FS.refl _ _ _ _⟩ | exact ⟨⟨rfl, fun h => absurd h (by decide)⟩, hR, FS.refl _ _ _ _⟩ | exact ⟨⟨rfl, rfl, fun h => absurd h (by decide)⟩, hR, FS.refl _ _ _ _⟩
        | 11, _, ho =>
          clear hsk
          cases ho
          have e143 : ev (.tmp 143) = .pointer (some ⟨b19, i, none⟩) := hd 10 143 (by kernel_rfl)
          have m1 := ((qf.grow hR).cn (b19, wi) (by simp)).2
          go_simp
          first | exact ⟨rfl, hR, FS.refl _ _ _ _⟩ | exact ⟨⟨rfl, rfl⟩, hR, FS.refl _ _ _ _⟩ | exact ⟨⟨rfl, fun h => absurd h (by decide)⟩, hR, FS.refl _ _ _ _⟩ | exact ⟨⟨rfl, rfl, fun h => absurd h (by decide)⟩, hR, FS.refl _ _ _ _⟩
        | 12, _, ho =>
          clear hsk
          cases ho
          have e21 : ev (.tmp 21) = .slice (some ⟨b21, 0, none⟩) 4 4 := hs 21 (by kernel_rfl)
          go_simp
          first | exact ⟨rfl, hR, FS.refl _ _ _ _⟩ | exact ⟨⟨rfl, rfl⟩, hR, FS.refl _ _ _ _⟩ | exact ⟨⟨rfl, fun h => absurd h (by decide)⟩, hR, FS.refl _ _ _ _⟩ | exact ⟨⟨rfl, rfl, fun h => absurd h (by decide)⟩, hR, FS.refl _ _ _ _⟩
        | 13, _, ho =>
          clear hsk
          cases ho
          have e22 : ev (.tmp 22) = I (i : Int) := hs 22 (by kernel_rfl)
          go_simp
          first | exact ⟨rfl, hR, FS.refl _ _ _ _⟩ | exact ⟨⟨rfl, rfl⟩, hR, FS.refl _ _ _ _⟩ | exact ⟨⟨rfl, fun h => absurd h (by decide)⟩, hR, FS.refl _ _ _ _⟩ | exact ⟨⟨rfl, rfl, fun h => absurd h (by decide)⟩, hR, FS.refl _ _ _ _⟩
        | 14, _, ho =>
          clear hsk
          cases ho
          have e145 : ev (.tmp 145) = .slice (some ⟨b21, 0, none⟩) 4 4 := hd 12 145 (by kernel_rfl)
          have e146 : ev (.tmp 146) = I (i : Int) := hd 13 146 (by kernel_rfl)
          have hil : (i : Int) < 4 := by omega
          go_simp
          first | exact ⟨rfl, hR, FS.refl _ _ _ _⟩ | exact ⟨⟨rfl, rfl⟩, hR, FS.refl _ _ _ _⟩ | exact ⟨⟨rfl, fun h => absurd h (by decide)⟩, hR, FS.refl _ _ _ _⟩ | exact ⟨⟨rfl, rfl, fun h => absurd h (by decide)⟩, hR, FS.refl _ _ _ _⟩
        | 15, _, ho =>
          clear hsk
          cases ho
          have e147 : ev (.tmp 147) = .pointer (some ⟨b21, i, none⟩) := hd 14 147 (by kernel_rfl)
          have m1 := ((qf.grow hR).cn (b21, pl) (by simp)).2
          go_simp
          first | exact ⟨rfl, hR, FS.refl _ _ _ _⟩ | exact ⟨⟨rfl, rfl⟩, hR, FS.refl _ _ _ _⟩ | exact ⟨⟨rfl, fun h => absurd h (by decide)⟩, hR, FS.refl _ _ _ _⟩ | exact ⟨⟨rfl, rfl, fun h => absurd h (by decide)⟩, hR, FS.refl _ _ _ _⟩
        | 16, _, ho =>
          clear hsk
          cases ho
          have e136 : ev (.tmp 136) = .agg #[I x.r, .slice x.A x.ws.length x.c] := hd 3 136 (by kernel_rfl)
          have e140 : ev (.tmp 140) = .slice x.B x.sts.length x.cb := hd 7 140 (by kernel_rfl)
          have e144 : ev (.tmp 144) = I wi := hd 11 144 (by kernel_rfl)
          have e148 : ev (.tmp 148) = I pl := hd 15 148 (by kernel_rfl)
          go_simp
          refine ((qf.grow hR).ok.passesP _ _).mono ?_
          rintro e wz ⟨rfl, hwz⟩
          first | exact ⟨rfl, hR.trans (hwz.mono hR.size), FS.below hwz⟩ | exact ⟨⟨rfl, rfl⟩, hR.trans (hwz.mono hR.size), FS.below hwz⟩ | exact ⟨⟨rfl, fun h => absurd h (by decide)⟩, hR.trans (hwz.mono hR.size), FS.below hwz⟩ | exact ⟨⟨rfl, rfl, fun h => absurd h (by decide)⟩, hR.trans (hwz.mono hR.size), FS.below hwz⟩
        | 17, _, ho =>
          clear hsk
          cases ho
          have e149 : ev (.tmp 149) = .tuple #[Sp (paLo x.r x.ws x.sts wi pl) (paHi x.r x.ws x.sts wi pl), I (paE x.r x.ws x.sts wi pl)] := hd 16 149 (by kernel_rfl)
          go_simp
          first | exact ⟨rfl, hR, FS.refl _ _ _ _⟩ | exact ⟨⟨rfl, rfl⟩, hR, FS.refl _ _ _ _⟩ | exact ⟨⟨rfl, fun h => absurd h (by decide)⟩, hR, FS.refl _ _ _ _⟩ | exact ⟨⟨rfl, rfl, fun h => absurd h (by decide)⟩, hR, FS.refl _ _ _ _⟩
        | 18, _, ho =>
          clear hsk
          cases ho
          have e132 : ev (.tmp 132) = .tuple #[Sp (paLo x.r x.ws x.sts wi pl) (paHi x.r x.ws x.sts wi pl), I (paE x.r x.ws x.sts wi pl)] := hd 17 132 (by kernel_rfl)
          go_simp
          first | exact ⟨rfl, hR, FS.refl _ _ _ _⟩ | exact ⟨⟨rfl, rfl⟩, hR, FS.refl _ _ _ _⟩ | exact ⟨⟨rfl, fun h => absurd h (by decide)⟩, hR, FS.refl _ _ _ _⟩ | exact ⟨⟨rfl, rfl, fun h => absurd h (by decide)⟩, hR, FS.refl _ _ _ _⟩
        | 19, _, ho =>
          clear hsk
          cases ho
          have e132 : ev (.tmp 132) = .tuple #[Sp (paLo x.r x.ws x.sts wi pl) (paHi x.r x.ws x.sts wi pl), I (paE x.r x.ws x.sts wi pl)] := hd 17 132 (by kernel_rfl)
          go_simp
          first | exact ⟨rfl, hR, FS.refl _ _ _ _⟩ | exact ⟨⟨rfl, rfl⟩, hR, FS.refl _ _ _ _⟩ | exact ⟨⟨rfl, fun h => absurd h (by decide)⟩, hR, FS.refl _ _ _ _⟩ | exact ⟨⟨rfl, rfl, fun h => absurd h (by decide)⟩, hR, FS.refl _ _ _ _⟩
        | 20, _, ho =>
          clear hsk
          cases ho
          go_simp
          first | exact ⟨⟨_, rfl, hR.size, (by simp), SpB.new _ _⟩, hR.alloc hR.size _, FS.below ((Below.refl _ _).alloc (Nat.le_refl _) _)⟩ | exact ⟨⟨rfl, ⟨_, rfl, hR.size, (by simp), SpB.new _ _⟩⟩, hR.alloc hR.size _, FS.below ((Below.refl _ _).alloc (Nat.le_refl _) _)⟩ | exact ⟨⟨⟨_, rfl, hR.size, (by simp), SpB.new _ _⟩, fun h => absurd h (by decide)⟩, hR.alloc hR.size _, FS.below ((Below.refl _ _).alloc (Nat.le_refl _) _)⟩ | exact ⟨⟨rfl, ⟨_, rfl, hR.size, (by simp), SpB.new _ _⟩, fun h => absurd h (by decide)⟩, hR.alloc hR.size _, FS.below ((Below.refl _ _).alloc (Nat.le_refl _) _)⟩
        | 21, _, ho =>
          clear hsk
          cases ho
          obtain ⟨bx, e27, hb1, hb2, hb3⟩ : ∃ b, ev (.tmp 27) = .pointer (some ⟨b, 0, none⟩) ∧ wb.heap.size ≤ b ∧ some b ≠ Option.none ∧ SpB (P0 (fun x' y' : Int => x' = paLo x.r x.ws x.sts wi pl ∧ y' = paHi x.r x.ws x.sts wi pl)) w' b := hd 20 27 (by kernel_rfl)
          have e150 : ev (.tmp 150) = Sp (paLo x.r x.ws x.sts wi pl) (paHi x.r x.ws x.sts wi pl) := hd 18 150 (by kernel_rfl)
          obtain ⟨x0, y0, _, hbx⟩ := hb3
          have hcx := hbx.cell
          have hfx := hbx.free
          go_simp
          have hP : (fun x' y' : Int => x' = paLo x.r x.ws x.sts wi pl ∧ y' = paHi x.r x.ws x.sts wi pl) _ _ := ⟨rfl, rfl⟩
          have hin : SpB (P0 (fun x' y' : Int => x' = paLo x.r x.ws x.sts wi pl ∧ y' = paHi x.r x.ws x.sts wi pl)) w' bx := ⟨x0, y0, ‹_›, hbx⟩
          first | exact ⟨⟨rfl, fun t ht => (by cases ht; exact ⟨bx, e27, hb1, hb2, hin.put hP⟩)⟩, below_put hR hb1 _ _, FS.put hb1 hin hP⟩ | exact ⟨fun t ht => (by cases ht; exact ⟨bx, e27, hb1, hb2, hin.put hP⟩), below_put hR hb1 _ _, FS.put hb1 hin hP⟩
        | n + 22, hi, _ => exact absurd hi (by simp)
      intro ρ wc hR hρ hne K hK
      have p19 : ρ 19 = I (paE x.r x.ws x.sts wi pl) := hρ 19 (by simp)
      obtain ⟨qc, p20, _, _, _, _, ⟨rfl, rfl⟩, xc⟩ : ∃ b, ρ 20 = .pointer (some ⟨b, 0, none⟩) ∧ wb.heap.size ≤ b ∧ some b ≠ Option.none ∧ SpB (fun x' y' : Int => x' = paLo x.r x.ws x.sts wi pl ∧ y' = paHi x.r x.ws x.sts wi pl) wc b := hρ 21 (by simp)
      show K (putAll _ _ ρ 22) _
      simp only [putAll, dOf, List.getElem?_toArray, List.getElem?_cons_zero, List.getElem?_cons_succ, Option.bind_some, Act.put, List.setIfInBounds_toArray, List.set_cons_zero, List.set_cons_succ]
      rw [p19, p20]
      refine hK _ _ ?_
      change wpList _ _ _ [_] _ _
      clear hK K p19 p20 hρ hne
      have qf := qf.grow hR
      have xa := xa.below hR xa.lt
      have xb := xb.below hR xb.lt
      have hWc := hWb.trans (hR.mono hWb.size)
      clear hWb hR
      go_wp2_with fail
      refine wp_region_list_s (by kernel_rfl) (R := RB wc.heap.size wc) (F := FS Option.none wc.heap.size (fun x' y' : Int => x' = paLo x.r x.ws x.sts wi pl ∧ y' = paHi x.r x.ws x.sts wi pl)) [] [] [(21, 20)]
          [As.is _ _ (.slice (some ⟨b17, 0, none⟩) 4 4),
          As.is _ _ (I (i : Int)),
          As.is _ _ (.pointer (some ⟨b17, i * 2, none⟩)),
          As.is _ _ (.agg #[I x.r, .slice x.A x.ws.length x.c]),
          As.is _ _ (.slice (some ⟨b18, 0, none⟩) 4 4),
          As.is _ _ (I (i : Int)),
          As.is _ _ (.pointer (some ⟨b18, i, none⟩)),
          As.is _ _ (.slice x.B x.sts.length x.cb),
          As.is _ _ (.slice (some ⟨b19, 0, none⟩) 4 4),
          As.is _ _ (I (i : Int)),
          As.is _ _ (.pointer (some ⟨b19, i, none⟩)),
          As.is _ _ (I wi),
          As.is _ _ (.slice (some ⟨b21, 0, none⟩) 4 4),
          As.is _ _ (I (i : Int)),
          As.is _ _ (.pointer (some ⟨b21, i, none⟩)),
          As.is _ _ (I pl),
          As.is _ _ (.tuple #[Sp (paLo x.r x.ws x.sts wi pl) (paHi x.r x.ws x.sts wi pl), I (paE x.r x.ws x.sts wi pl)]),
          As.is _ _ (.tuple #[Sp (paLo x.r x.ws x.sts wi pl) (paHi x.r x.ws x.sts wi pl), I (paE x.r x.ws x.sts wi pl)]),
          As.is _ _ (Sp (paLo x.r x.ws x.sts wi pl) (paHi x.r x.ws x.sts wi pl)),
          As.is _ _ (I (paE x.r x.ws x.sts wi pl)),
          asSp0 _ Option.none wc.heap.size (fun x' y' : Int => x' = paLo x.r x.ws x.sts wi pl ∧ y' = paHi x.r x.ws x.sts wi pl),
          asSp1 _ Option.none wc.heap.size (fun x' y' : Int => x' = paLo x.r x.ws x.sts wi pl ∧ y' = paHi x.r x.ws x.sts wi pl)] 191 (by kernel_rfl) rfl ((Below.refl _ _).drew) (by simp) (by simp) ?_ (fun _ => FS.refl _ _ _ _) ?_ ?_ ?_
      · intro i' hi' o' ho k' b' hg u w' hR hu
        match i', hi', ho with
        | 0, _, ho => cases ho; cases hg
        | 1, _, ho => cases ho; cases hg
        | 2, _, ho => cases ho; cases hg
        | 3, _, ho => cases ho; cases hg
        | 4, _, ho => cases ho; cases hg
        | 5, _, ho => cases ho; cases hg
        | 6, _, ho => cases ho; cases hg
        | 7, _, ho => cases ho; cases hg
        | 8, _, ho => cases ho; cases hg
        | 9, _, ho => cases ho; cases hg
        | 10, _, ho => cases ho; cases hg
        | 11, _, ho => cases ho; cases hg
        | 12, _, ho => cases ho; cases hg
        | 13, _, ho => cases ho; cases hg
        | 14, _, ho => cases ho; cases hg
        | 15, _, ho => cases ho; cases hg
        | 16, _, ho => cases ho; cases hg
        | 17, _, ho => cases ho; cases hg
        | 18, _, ho => cases ho; cases hg
        | 19, _, ho => cases ho; cases hg
        | 20, _, ho => cases ho; cases hg
        | 21, _, ho => cases ho; cases hg
        | n + 22, hi, _ => exact absurd hi (by simp)
      · intro i' hi' hsk; cases hsk
      · intro i' hi' hsk o' ho ev w' hR hc hf hg hs hd
        match i', hi', ho with
        | 0, _, ho =>
          clear hsk
          cases ho
          have e17 : ev (.tmp 17) = .slice (some ⟨b17, 0, none⟩) 4 4 := hs 17 (by kernel_rfl)
          go_simp
          first | exact ⟨rfl, hR, FS.refl _ _ _ _⟩ | exact ⟨⟨rfl, rfl⟩, hR, FS.refl _ _ _ _⟩ | exact ⟨⟨rfl, fun h => absurd h (by decide)⟩, hR, FS.refl _ _ _ _⟩ | exact ⟨⟨rfl, rfl, fun h => absurd h (by decide)⟩, hR, FS.refl _ _ _ _⟩
        | 1, _, ho =>
          clear hsk
          cases ho
          have e22 : ev (.tmp 22) = I (i : Int) := hs 22 (by kernel_rfl)
          go_simp
          first | exact ⟨rfl, hR, FS.refl _ _ _ _⟩ | exact ⟨⟨rfl, rfl⟩, hR, FS.refl _ _ _ _⟩ | exact ⟨⟨rfl, fun h => absurd h (by decide)⟩, hR, FS.refl _ _ _ _⟩ | exact ⟨⟨rfl, rfl, fun h => absurd h (by decide)⟩, hR, FS.refl _ _ _ _⟩
        | 2, _, ho =>
          clear hsk
          cases ho
          have e153 : ev (.tmp 153) = .slice (some ⟨b17, 0, none⟩) 4 4 := hd 0 153 (by kernel_rfl)
          have e154 : ev (.tmp 154) = I (i : Int) := hd 1 154 (by kernel_rfl)
          have hil : (i : Int) < 4 := by omega
          go_simp
          first | exact ⟨rfl, hR, FS.refl _ _ _ _⟩ | exact ⟨⟨rfl, rfl⟩, hR, FS.refl _ _ _ _⟩ | exact ⟨⟨rfl, fun h => absurd h (by decide)⟩, hR, FS.refl _ _ _ _⟩ | exact ⟨⟨rfl, rfl, fun h => absurd h (by decide)⟩, hR, FS.refl _ _ _ _⟩
        | 3, _, ho =>
          clear hsk
          cases ho
          have e155 : ev (.tmp 155) = .pointer (some ⟨b17, i * 2, none⟩) := hd 2 155 (by kernel_rfl)
          have m1 := (qf.grow hR).cr
          have m2 := (qf.grow hR).cs
          go_simp
          first | exact ⟨rfl, hR, FS.refl _ _ _ _⟩ | exact ⟨⟨rfl, rfl⟩, hR, FS.refl _ _ _ _⟩ | exact ⟨⟨rfl, fun h => absurd h (by decide)⟩, hR, FS.refl _ _ _ _⟩ | exact ⟨⟨rfl, rfl, fun h => absurd h (by decide)⟩, hR, FS.refl _ _ _ _⟩
        | 4, _, ho =>
          clear hsk
          cases ho
          have e18 : ev (.tmp 18) = .slice (some ⟨b18, 0, none⟩) 4 4 := hs 18 (by kernel_rfl)
          go_simp
          first | exact ⟨rfl, hR, FS.refl _ _ _ _⟩ | exact ⟨⟨rfl, rfl⟩, hR, FS.refl _ _ _ _⟩ | exact ⟨⟨rfl, fun h => absurd h (by decide)⟩, hR, FS.refl _ _ _ _⟩ | exact ⟨⟨rfl, rfl, fun h => absurd h (by decide)⟩, hR, FS.refl _ _ _ _⟩
        | 5, _, ho =>
          clear hsk
          cases ho
          have e22 : ev (.tmp 22) = I (i : Int) := hs 22 (by kernel_rfl)
          go_simp
          first | exact ⟨rfl, hR, FS.refl _ _ _ _⟩ | exact ⟨⟨rfl, rfl⟩, hR, FS.refl _ _ _ _⟩ | exact ⟨⟨rfl, fun h => absurd h (by decide)⟩, hR, FS.refl _ _ _ _⟩ | exact ⟨⟨rfl, rfl, fun h => absurd h (by decide)⟩, hR, FS.refl _ _ _ _⟩
        | 6, _, ho =>
          clear hsk
          cases ho
          have e157 : ev (.tmp 157) = .slice (some ⟨b18, 0, none⟩) 4 4 := hd 4 157 (by kernel_rfl)
          have e158 : ev (.tmp 158) = I (i : Int) := hd 5 158 (by kernel_rfl)
          have hil : (i : Int) < 4 := by omega
          go_simp
          first | exact ⟨rfl, hR, FS.refl _ _ _ _⟩ | exact ⟨⟨rfl, rfl⟩, hR, FS.refl _ _ _ _⟩ | exact ⟨⟨rfl, fun h => absurd h (by decide)⟩, hR, FS.refl _ _ _ _⟩ | exact ⟨⟨rfl, rfl, fun h => absurd h (by decide)⟩, hR, FS.refl _ _ _ _⟩
        | 7, _, ho =>
          clear hsk
          cases ho
          have e159 : ev (.tmp 159) = .pointer (some ⟨b18, i, none⟩) := hd 6 159 (by kernel_rfl)
          have m1 := (qf.grow hR).cl
          go_simp
          first | exact ⟨rfl, hR, FS.refl _ _ _ _⟩ | exact ⟨⟨rfl, rfl⟩, hR, FS.refl _ _ _ _⟩ | exact ⟨⟨rfl, fun h => absurd h (by decide)⟩, hR, FS.refl _ _ _ _⟩ | exact ⟨⟨rfl, rfl, fun h => absurd h (by decide)⟩, hR, FS.refl _ _ _ _⟩
        | 8, _, ho =>
          clear hsk
          cases ho
          have e19 : ev (.tmp 19) = .slice (some ⟨b19, 0, none⟩) 4 4 := hs 19 (by kernel_rfl)
          go_simp
          first | exact ⟨rfl, hR, FS.refl _ _ _ _⟩ | exact ⟨⟨rfl, rfl⟩, hR, FS.refl _ _ _ _⟩ | exact ⟨⟨rfl, fun h => absurd h (by decide)⟩, hR, FS.refl _ _ _ _⟩ | exact ⟨⟨rfl, rfl, fun h => absurd h (by decide)⟩, hR, FS.refl _ _ _ _⟩
        | 9, _, ho =>
          clear hsk
          cases ho
          have e22 : ev (.tmp 22) = I (i : Int) := hs 22 (by kernel_rfl)
          go_simp
          first | exact ⟨rfl, hR, FS.refl _ _ _ _⟩ | exact ⟨⟨rfl, rfl⟩, hR, FS.refl _ _ _ _⟩ | exact ⟨⟨rfl, fun h => absurd h (by decide)⟩, hR, FS.refl _ _ _ _⟩ | exact ⟨⟨rfl, rfl, fun h => absurd h (by decide)⟩, hR, FS.refl _ _ _ _⟩
        | 10, _, ho =>
          clear hsk
          cases ho
          have e161 : ev (.tmp 161) = .slice (some ⟨b19, 0, none⟩) 4 4 := hd 8 161 (by kernel_rfl)
          have e162 : ev (.tmp 162) = I (i : Int) := hd 9 162 (by kernel_rfl)
          have hil : (i : Int) < 4 := by omega
          go_simp
          first | exact ⟨rfl, hR, FS.refl _ _ _ _⟩ | exact ⟨⟨rfl, rfl⟩, hR, FS.refl _ _ _ _⟩ | exact ⟨⟨rfl, fun h => absurd h (by decide)⟩, hR, FS.refl _ _ _ _⟩ | exact ⟨⟨rfl, rfl, fun h => absurd h (by decide)⟩, hR, FS.refl _ _ _ _⟩
        | 11, _, ho =>
          clear hsk
          cases ho
          have e163 : ev (.tmp 163) = .pointer (some ⟨b19, i, none⟩) := hd 10 163 (by kernel_rfl)
          have m1 := ((qf.grow hR).cn (b19, wi) (by simp)).2
          go_simp
          first | exact ⟨rfl, hR, FS.refl _ _ _ _⟩ | exact ⟨⟨rfl, rfl⟩, hR, FS.refl _ _ _ _⟩ | exact ⟨⟨rfl, fun h => absurd h (by decide)⟩, hR, FS.refl _ _ _ _⟩ | exact ⟨⟨rfl, rfl, fun h => absurd h (by decide)⟩, hR, FS.refl _ _ _ _⟩
        | 12, _, ho =>
          clear hsk
          cases ho
          have e21 : ev (.tmp 21) = .slice (some ⟨b21, 0, none⟩) 4 4 := hs 21 (by kernel_rfl)
          go_simp
          first | exact ⟨rfl, hR, FS.refl _ _ _ _⟩ | exact ⟨⟨rfl, rfl⟩, hR, FS.refl _ _ _ _⟩ | exact ⟨⟨rfl, fun h => absurd h (by decide)⟩, hR, FS.refl _ _ _ _⟩ | exact ⟨⟨rfl, rfl, fun h => absurd h (by decide)⟩, hR, FS.refl _ _ _ _⟩
        | 13, _, ho =>
          clear hsk
          cases ho
          have e22 : ev (.tmp 22) = I (i : Int) := hs 22 (by kernel_rfl)
          go_simp
          first | exact ⟨rfl, hR, FS.refl _ _ _ _⟩ | exact ⟨⟨rfl, rfl⟩, hR, FS.refl _ _ _ _⟩ | exact ⟨⟨rfl, fun h => absurd h (by decide)⟩, hR, FS.refl _ _ _ _⟩ | exact ⟨⟨rfl, rfl, fun h => absurd h (by decide)⟩, hR, FS.refl _ _ _ _⟩
        | 14, _, ho =>
          clear hsk
          cases ho
          have e165 : ev (.tmp 165) = .slice (some ⟨b21, 0, none⟩) 4 4 := hd 12 165 (by kernel_rfl)
          have e166 : ev (.tmp 166) = I (i : Int) := hd 13 166 (by kernel_rfl)
          have hil : (i : Int) < 4 := by omega
          go_simp
          first | exact ⟨rfl, hR, FS.refl _ _ _ _⟩ | exact ⟨⟨rfl, rfl⟩, hR, FS.refl _ _ _ _⟩ | exact ⟨⟨rfl, fun h => absurd h (by decide)⟩, hR, FS.refl _ _ _ _⟩ | exact ⟨⟨rfl, rfl, fun h => absurd h (by decide)⟩, hR, FS.refl _ _ _ _⟩
        | 15, _, ho =>
          clear hsk
          cases ho
          have e167 : ev (.tmp 167) = .pointer (some ⟨b21, i, none⟩) := hd 14 167 (by kernel_rfl)
          have m1 := ((qf.grow hR).cn (b21, pl) (by simp)).2
          go_simp
          first | exact ⟨rfl, hR, FS.refl _ _ _ _⟩ | exact ⟨⟨rfl, rfl⟩, hR, FS.refl _ _ _ _⟩ | exact ⟨⟨rfl, fun h => absurd h (by decide)⟩, hR, FS.refl _ _ _ _⟩ | exact ⟨⟨rfl, rfl, fun h => absurd h (by decide)⟩, hR, FS.refl _ _ _ _⟩
        | 16, _, ho =>
          clear hsk
          cases ho
          have e156 : ev (.tmp 156) = .agg #[I x.r, .slice x.A x.ws.length x.c] := hd 3 156 (by kernel_rfl)
          have e160 : ev (.tmp 160) = .slice x.B x.sts.length x.cb := hd 7 160 (by kernel_rfl)
          have e164 : ev (.tmp 164) = I wi := hd 11 164 (by kernel_rfl)
          have e168 : ev (.tmp 168) = I pl := hd 15 168 (by kernel_rfl)
          go_simp
          refine ((qf.grow hR).ok.passesR _ _).mono ?_
          rintro e wz ⟨rfl, hwz⟩
          first | exact ⟨rfl, hR.trans (hwz.mono hR.size), FS.below hwz⟩ | exact ⟨⟨rfl, rfl⟩, hR.trans (hwz.mono hR.size), FS.below hwz⟩ | exact ⟨⟨rfl, fun h => absurd h (by decide)⟩, hR.trans (hwz.mono hR.size), FS.below hwz⟩ | exact ⟨⟨rfl, rfl, fun h => absurd h (by decide)⟩, hR.trans (hwz.mono hR.size), FS.below hwz⟩
        | 17, _, ho =>
          clear hsk
          cases ho
          have e169 : ev (.tmp 169) = .tuple #[Sp (paLo x.r x.ws x.sts wi pl) (paHi x.r x.ws x.sts wi pl), I (paE x.r x.ws x.sts wi pl)] := hd 16 169 (by kernel_rfl)
          go_simp
          first | exact ⟨rfl, hR, FS.refl _ _ _ _⟩ | exact ⟨⟨rfl, rfl⟩, hR, FS.refl _ _ _ _⟩ | exact ⟨⟨rfl, fun h => absurd h (by decide)⟩, hR, FS.refl _ _ _ _⟩ | exact ⟨⟨rfl, rfl, fun h => absurd h (by decide)⟩, hR, FS.refl _ _ _ _⟩
        | 18, _, ho =>
          clear hsk
          cases ho
          have e152 : ev (.tmp 152) = .tuple #[Sp (paLo x.r x.ws x.sts wi pl) (paHi x.r x.ws x.sts wi pl), I (paE x.r x.ws x.sts wi pl)] := hd 17 152 (by kernel_rfl)
          go_simp
          first | exact ⟨rfl, hR, FS.refl _ _ _ _⟩ | exact ⟨⟨rfl, rfl⟩, hR, FS.refl _ _ _ _⟩ | exact ⟨⟨rfl, fun h => absurd h (by decide)⟩, hR, FS.refl _ _ _ _⟩ | exact ⟨⟨rfl, rfl, fun h => absurd h (by decide)⟩, hR, FS.refl _ _ _ _⟩
        | 19, _, ho =>
          clear hsk
          cases ho
          have e152 : ev (.tmp 152) = .tuple #[Sp (paLo x.r x.ws x.sts wi pl) (paHi x.r x.ws x.sts wi pl), I (paE x.r x.ws x.sts wi pl)] := hd 17 152 (by kernel_rfl)
          go_simp
          first | exact ⟨rfl, hR, FS.refl _ _ _ _⟩ | exact ⟨⟨rfl, rfl⟩, hR, FS.refl _ _ _ _⟩ | exact ⟨⟨rfl, fun h => absurd h (by decide)⟩, hR, FS.refl _ _ _ _⟩ | exact ⟨⟨rfl, rfl, fun h => absurd h (by decide)⟩, hR, FS.refl _ _ _ _⟩
        | 20, _, ho =>
          clear hsk
          cases ho
          go_simp
          first | exact ⟨⟨_, rfl, hR.size, (by simp), SpB.new _ _⟩, hR.alloc hR.size _, FS.below ((Below.refl _ _).alloc (Nat.le_refl _) _)⟩ | exact ⟨⟨rfl, ⟨_, rfl, hR.size, (by simp), SpB.new _ _⟩⟩, hR.alloc hR.size _, FS.below ((Below.refl _ _).alloc (Nat.le_refl _) _)⟩ | exact ⟨⟨⟨_, rfl, hR.size, (by simp), SpB.new _ _⟩, fun h => absurd h (by decide)⟩, hR.alloc hR.size _, FS.below ((Below.refl _ _).alloc (Nat.le_refl _) _)⟩ | exact ⟨⟨rfl, ⟨_, rfl, hR.size, (by simp), SpB.new _ _⟩, fun h => absurd h (by decide)⟩, hR.alloc hR.size _, FS.below ((Below.refl _ _).alloc (Nat.le_refl _) _)⟩
        | 21, _, ho =>
          clear hsk
          cases ho
          obtain ⟨bx, e29, hb1, hb2, hb3⟩ : ∃ b, ev (.tmp 29) = .pointer (some ⟨b, 0, none⟩) ∧ wc.heap.size ≤ b ∧ some b ≠ Option.none ∧ SpB (P0 (fun x' y' : Int => x' = paLo x.r x.ws x.sts wi pl ∧ y' = paHi x.r x.ws x.sts wi pl)) w' b := hd 20 29 (by kernel_rfl)
          have e170 : ev (.tmp 170) = Sp (paLo x.r x.ws x.sts wi pl) (paHi x.r x.ws x.sts wi pl) := hd 18 170 (by kernel_rfl)
          obtain ⟨x0, y0, _, hbx⟩ := hb3
          have hcx := hbx.cell
          have hfx := hbx.free
          go_simp
          have hP : (fun x' y' : Int => x' = paLo x.r x.ws x.sts wi pl ∧ y' = paHi x.r x.ws x.sts wi pl) _ _ := ⟨rfl, rfl⟩
          have hin : SpB (P0 (fun x' y' : Int => x' = paLo x.r x.ws x.sts wi pl ∧ y' = paHi x.r x.ws x.sts wi pl)) w' bx := ⟨x0, y0, ‹_›, hbx⟩
          first | exact ⟨⟨rfl, fun t ht => (by cases ht; exact ⟨bx, e29, hb1, hb2, hin.put hP⟩)⟩, below_put hR hb1 _ _, FS.put hb1 hin hP⟩ | exact ⟨fun t ht => (by cases ht; exact ⟨bx, e29, hb1, hb2, hin.put hP⟩), below_put hR hb1 _ _, FS.put hb1 hin hP⟩
        | n + 22, hi, _ => exact absurd hi (by simp)
      intro ρ wd hR hρ hne K hK
      have p19 : ρ 19 = I (paE x.r x.ws x.sts wi pl) := hρ 19 (by simp)
      obtain ⟨qd, p20, _, _, _, _, ⟨rfl, rfl⟩, xd⟩ : ∃ b, ρ 20 = .pointer (some ⟨b, 0, none⟩) ∧ wc.heap.size ≤ b ∧ some b ≠ Option.none ∧ SpB (fun x' y' : Int => x' = paLo x.r x.ws x.sts wi pl ∧ y' = paHi x.r x.ws x.sts wi pl) wd b := hρ 21 (by simp)
      show K (putAll _ _ ρ 22) _
      simp only [putAll, dOf, List.getElem?_toArray, List.getElem?_cons_zero, List.getElem?_cons_succ, Option.bind_some, Act.put, List.setIfInBounds_toArray, List.set_cons_zero, List.set_cons_succ]
      rw [p19, p20]
      refine hK _ _ ?_
      change wpList _ _ _ [_] _ _
      clear hK K p19 p20 hρ hne
      have xa := xa.below hR xa.lt
      have xb := xb.below hR xb.lt
      have xc := xc.below hR xc.lt
      have hT' := hT.grow (hWc.trans (hR.mono hWc.size))
      clear hWc hR qf hT
      have ha := xa.cell
      have hb := xb.cell
      have hc := xc.cell
      have hd := xd.cell
      clear xa xb xc xd
      go_wp2
      exact ⟨⟨i + 1, by go_num, by omega, hT'⟩, by simp [intOf]; omega⟩
    · go_wp2_with fail
      refine (awake_c _).mono ?_
      rintro e w20 ⟨rfl, hb20⟩
      have hB := hT.below.trans (hb20.mono hT.below.size)
      go_wp2
      go_ret
      exact ⟨rfl, hB⟩

namespace paradePlaces
open Go.ChangeShapes Go.WideShapes Go.ChangeAt Go.RowKit

set_option maxRecDepth 100000 in
theorem lifted (os : Os) (started : os.Started) (H : Type) (enc : TypeId × Value → H) :
    ReturnsInHanded {} Try.checked os 4 .any (Rows.paradePlacesSpec.pre6 enc Try.prog Try.f4 Rows.paradePlacesRow.domain false) (Rows.paradePlacesSpec.post enc Try.prog Try.f4 false true false false) := by
  refine returnsInHanded_of_change (C := Try.checked) prog_own started (by kernel_rfl) Try.func4
    (ChangeSpec.witness6 (enc := enc) (C := Try.checked) false ⟨#[], #[.agg #[.int .i64 0, .slice none 0 0], .slice none 0 0, .int .i64 0, .int .i64 0, .int .i64 0, .slice none 0 0], []⟩ 8 (by kernel_rfl) (by kernel_rfl) (by kernel_rfl) (by kernel_rfl)) ?_
  intro W base args ds gs before hval0 hW hcnd _
  have hval : ∀ (j : Nat) t v, Try.f4.params[j]? = some t → args[j]? = some v → Value.okWide Try.prog W .any base t v := hval0
  have hW' := hW
  obtain ⟨p, q, hA0, hV, rfl, hfz, hnd⟩ := hW
  have hA : DataW.TrodAll enc Try.prog W 0 (fun _ => true) true Try.f4.params.toList args.toList ds p := hA0
  rw [Try.params4] at hA hval
  obtain ⟨v0, vs0, d0, ds0, p0, q0, hargs, rfl, rfl, h0, r0⟩ := trodAll_cons hA
  obtain ⟨v1, vs1, d1, ds1, p1, q1, rfl, rfl, rfl, h1, r1⟩ := trodAll_cons r0
  obtain ⟨v2, vs2, d2, ds2, p2, q2, rfl, rfl, rfl, h2, r2⟩ := trodAll_cons r1
  obtain ⟨v3, vs3, d3, ds3, p3, q3, rfl, rfl, rfl, h3, r3⟩ := trodAll_cons r2
  obtain ⟨v4, vs4, d4, ds4, p4, q4, rfl, rfl, rfl, h4, r4⟩ := trodAll_cons r3
  obtain ⟨v5, vs5, d5, ds5, p5, q5, rfl, rfl, rfl, h5, r5⟩ := trodAll_cons r4
  obtain ⟨rfl, rfl, rfl⟩ := trodAll_nil r5
  obtain rfl : args = #[v0, v1, v2, v3, v4, v5] := by cases args; simp_all
  obtain ⟨rfl, rfl⟩ := trodVars_none hV
  have k0 := h0
  have lt0 : ∀ x ∈ p0, x.block < W.heap.size := by obtain ⟨m, hm⟩ := k0; exact DataW.trod_lt m _ _ _ hm
  obtain ⟨rs0, A0, c0, T0, ws0, rfl, hs0, fit0, hm0, hc0, wr0⟩ := school_sl (hval 0 24 v0 rfl rfl) h0
  have k1 := h1
  have lt1 : ∀ x ∈ p1, x.block < W.heap.size := by obtain ⟨m, hm⟩ := k1; exact DataW.trod_lt m _ _ _ hm
  obtain ⟨a1, len1, cap1, rfl⟩ := okWide_slice Try.underlying25 (hval 1 25 v1 rfl rfl)
  have hcap1 := ints_cap h1
  obtain ⟨T1, zs1, rfl, hs1, hm1⟩ := ints_sl h1
  obtain ⟨a2, rfl, rfl, rfl, w2⟩ := open_int Try.underlying3 (hval 2 3 v2 rfl rfl) h2
  obtain ⟨a3, rfl, rfl, rfl, w3⟩ := open_int Try.underlying3 (hval 3 3 v3 rfl rfl) h3
  obtain ⟨a4, rfl, rfl, rfl, w4⟩ := open_int Try.underlying3 (hval 4 3 v4 rfl rfl) h4
  have k5 := h5
  have lt5 : ∀ x ∈ p5, x.block < W.heap.size := by obtain ⟨m, hm⟩ := k5; exact DataW.trod_lt m _ _ _ hm
  obtain ⟨a5, len5, cap5, rfl⟩ := okWide_slice Try.underlying25 (hval 5 25 v5 rfl rfl)
  obtain ⟨T5, zs5, rfl, hs5, hm5⟩ := ints_sl h5
  clear hA0 hval0
  refine (places_c rs0 A0 c0 ws0 T0 a1 cap1 zs1 T1 a2 a3 a4 a5 cap5 T5 zs5 W ⟨hs0, fit0, hm0, hc0, hs1, hm1, hcap1⟩ hs5 hm5).mono fun e W' ⟨he, bel⟩ => ?_
  subst he
  exact ⟨_, rfl, _, _, _, [], _, [], hW', trodAll_mk1 (shut_bool Try.underlying4 _), (trodAll_cons_mk (Below.trod prog_laid (by kernel_rfl) (of_decide_eq_true (by kernel_rfl)) k0 bel lt0) (trodAll_cons_mk (Below.trod prog_laid (by kernel_rfl) (of_decide_eq_true (by kernel_rfl)) k1 bel lt1) (trodAll_cons_mk (shut_int Try.underlying3 w2) (trodAll_cons_mk (shut_int Try.underlying3 w3) (trodAll_cons_mk (shut_int Try.underlying3 w4) (trodAll_cons_mk (Below.trod prog_laid (by kernel_rfl) (of_decide_eq_true (by kernel_rfl)) k5 bel lt5) trodAll_mk0)))))), rfl, bel.frame _, fun h => by cases h⟩

theorem proved : Rows.ParadePlacesSaid :=
  OpenClaim.holds_of_wide 4 Try.f4 rfl rfl rfl rfl rfl rfl rfl ⟨rfl, rfl, rfl, rfl, rfl⟩ rfl rfl rfl rfl rfl (by kernel_rfl) Try.func4 (by kernel_rfl)
    (of_decide_eq_true (by kernel_rfl)) (by unfold Func.isWrapper; first | (rw [if_pos (by decide +kernel)]; kernel_rfl) | (rw [if_neg (by decide +kernel)]; exact ⟨rfl, rfl⟩))
    (fun os started H enc _ => lifted os started H enc)
end paradePlaces
end Go.Proofs.Ytgdalimggamgmaa
