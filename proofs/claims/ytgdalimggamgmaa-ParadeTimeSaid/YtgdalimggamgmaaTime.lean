/- ParadeTime. Own work. -/
import Derived.Test.YtgdalimggamgmaaLawKit
import Derived.Test.YtgdalimggamgmaaLawKitD
namespace Go.Proofs.Ytgdalimggamgmaa
open Go.RowKit Go.ChangeShapes Go.WideShapes Go.ChangeAt
set_option linter.unusedVariables false
set_option linter.unusedSimpArgs false

/-- Valid starts; paces within their bounds. -/
def QSt (r : Int) (ws : List Wg) (zs : List Int) (c' : Nat) : Prop := zs.length ≤ c' ∧ zs.length = ws.length ∧ cst r ws zs = 0 ∧ StM ws zs zs.length
def QPt (ws : List Wg) (zs : List Int) (c' : Nat) : Prop := zs.length ≤ c' ∧ zs.length = ws.length ∧ PcB ws zs zs.length

/-- What holds in the law. -/
def TiS (d q : Nat) (r : Int) (A : Option Addr) (c : Nat) (ws : List Wg) (B : Option Addr) (sts : List Int) (C : Option Addr) (ps : List Int) (q6 : Nat) (s6 : Array Value) (q9 : Nat) (s9 : Array Value) (w0 w : World) : Prop :=
  LK d q r A c ws w0 w ∧ SlI w 3 B sts ∧ SlI w 3 C ps ∧ Bx w q6 54 s6 ∧ Bx w q9 27 s9
theorem TiS.grow {d q q6 q9 c : Nat} {r : Int} {A B C : Option Addr} {ws : List Wg} {sts ps : List Int} {s6 s9 : Array Value} {w0 w w' : World} (h : TiS d q r A c ws B sts C ps q6 s6 q9 s9 w0 w) (hb : Below w.heap.size w w') : TiS d q r A c ws B sts C ps q6 s6 q9 s9 w0 w' :=
  ⟨h.1.grow hb, Sl.below h.2.1 hb (Nat.le_refl _), Sl.below h.2.2.1 hb (Nat.le_refl _), h.2.2.2.1.below hb h.2.2.2.1.lt, h.2.2.2.2.below hb h.2.2.2.2.lt⟩
theorem own_base {w : World} {base base' : Nat} {e : TypeId} {size n : Nat} {v : Value} {xs : List Value} (h : w.ownsRow base e size v n xs) (hb : base' ≤ base) : w.ownsRow base' e size v n xs := by
  refine ⟨h.1, ?_⟩
  rcases h.2 with h0 | ⟨g, cap, cur, e1, e2, rest⟩
  · exact .inl h0
  · exact .inr ⟨g, cap, cur, e1, by omega, rest⟩
/-- The rows of a walk. -/
def WkR (ws : List Wg) (sts ps : List Int) (L n0 : Nat) (v : Value) (w : World) : Prop := ∃ xs : List Value, w.ownsRow n0 25 1 v (L + 1) xs ∧ xs.length = L + 1 ∧ RowsOK ws sts ps ws.length w xs
theorem WkR.grow {ws : List Wg} {sts ps : List Int} {L n0 : Nat} {v : Value} {w w' : World} (h : WkR ws sts ps L n0 v w) (hb : Below w.heap.size w w') : WkR ws sts ps L n0 v w' := by
  obtain ⟨xs, h1, h2, h3⟩ := h
  exact ⟨xs, own_below h1 hb, h2, h3.grow hb⟩
def asWalk (R : World → Prop) (ws : List Wg) (sts ps : List Int) (L n0 : Nat) : As R FB := ⟨WkR ws sts ps L n0, fun v w w' _ _ hb h => h.grow hb⟩
/-- The front of wing k in second t, where it lies. -/
theorem WkR.at_ {ws : List Wg} {sts ps : List Int} {L n0 : Nat} {v : Value} {w : World} (h : WkR ws sts ps L n0 v w) {t k : Nat} (ht : t ≤ L) (hk : k < ws.length) :
    ∃ g c b o c', v = .slice (some ⟨g, 0, none⟩) (L + 1) c ∧ w.cell? ⟨g, t, none⟩ = some (.slice (some ⟨b, o, none⟩) ws.length c') ∧ w.cell? ⟨b, o + k, none⟩ = some (I (rv ws sts ps (t : Int) k)) := by
  obtain ⟨xs, h1, h2, h3⟩ := h
  obtain ⟨Bj, cj, e1, e2⟩ := h3 t (by omega)
  obtain ⟨b, o, rfl, _⟩ := SlI.some_ e2 (show k < _ by rw [rowF_length]; exact hk)
  have hc := SlI.cellG e2 (show k < _ by rw [rowF_length]; exact hk)
  rw [gI_rowF hk] at hc
  rcases h1.2 with ⟨_, h0⟩ | ⟨g, cap, cur, rfl, _⟩
  · omega
  · refine ⟨g, cap, b, o, cj, rfl, ?_, hc⟩
    have := h1.cells (g := g) (by simp [Value.ownBlock]) t _ e1
    have e : (⟨g, 0, none⟩ : Addr).add t = ⟨g, t, none⟩ := by unfold Addr.add; split <;> simp_all
    rw [e] at this
    exact this

set_option maxRecDepth 100000 in
set_option maxHeartbeats 8000000 in
theorem time_c (A0 : Option Addr) (c0 : Nat) (T0 : TypeId) (zs : List Int) (w : World) (hs0 : SlI w T0 A0 zs) (hl0 : zs.length ≤ maxLen) :
    Calls Try.prog 11 #[.slice A0 zs.length c0] w (LawPost w) := by
  go_enter Try.func11, Try.ntmps11
  go_wp2_with fail
  refine (drumOf_c A0 c0 T0 zs _ hs0 hl0).mono ?_
  rintro e w1 ⟨d, rfl, hd1, hdn, hb1⟩
  go_wp2_with fail
  refine (schoolOf_c d 5 _ hd1 (by omega) (by omega)).mono ?_
  rintro e w2 ⟨r, A, c, ws, rfl, hws2, hd2, hk2, hr1, hr2, hn1, hn2, hm, hcap⟩
  have hB2 := below_of_kp hb1 hk2 hdn hb1.size
  have L3 : LK d w2.heap.size r A c ws w (w2.alloc (.cells #[I r, .slice A ws.length c] 24)) :=
    ⟨hd2.alloc _, Bx.new _ _ _, hws2.alloc _, hB2.alloc hB2.size _, hdn, hB2.size⟩
  clear hb1 hk2 hd1 hws2 hd2
  have hchk := made_chk hm hr1 hr2 hn1 (by omega)
  have hn5 : ws.length ≤ 5 := by omega
  have hq2 : w2.heap.size < w2.heap.size + 1 ∧ w.heap.size ≤ w2.heap.size + 1 := ⟨by omega, by have := L3.qn; omega⟩
  go_wp2_with fail
  have hRd : ∀ w', (fun w' => LK d w2.heap.size r A c ws w w' ∧ (w2.heap.size + 1) ≤ w'.heap.size) w' → Dr w' d := fun _ h => h.1.dr
  refine wp_region_list_s (by kernel_rfl) (R := (fun w' => LK d w2.heap.size r A c ws w w' ∧ (w2.heap.size + 1) ≤ w'.heap.size)) (F := FR (some d) (w2.heap.size + 1) (fun a b g : Int => rulE a b g = 0)) [] [] [(10, 8)]
      [As.is _ _ (.pointer (some ⟨d, 0, none⟩)),
      As.is _ _ (.agg #[I r, .slice A ws.length c]),
      asSome _ d hRd _ _ (QSt r ws),
      As.is _ _ (.pointer (some ⟨d, 0, none⟩)),
      As.pure _ _ fun v => ∃ a b g : Int, v = .agg #[I a, I b, I g] ∧ rulE a b g = 0,
      As.is _ _ (.pointer (some ⟨d, 0, none⟩)),
      As.is _ _ (.agg #[I r, .slice A ws.length c]),
      asSome _ d hRd _ _ (QPt ws),
      asRu0 _ d (w2.heap.size + 1) (fun a b g : Int => rulE a b g = 0),
      asSome _ d hRd _ _ (QSt r ws),
      asRu1 _ d (w2.heap.size + 1) (fun a b g : Int => rulE a b g = 0),
      asSome _ d hRd _ _ (QPt ws)] 124 (by kernel_rfl) rfl (⟨L3.drew, by simp⟩) (by simp) (by simp) ?_ (fun _ => FR.refl _ _ _ _) ?_ ?_ ?_
  · intro i' hi' o' ho k' b' hg u w' hR hu
    match i', hi', ho with
    | 0, _, ho => cases ho; cases hg
    | 1, _, ho => cases ho; cases hg
    | 2, _, ho => cases ho; cases hg
    | 3, _, ho => cases ho; cases hg
    | 4, _, ho => cases ho; cases hg
    | 5, _, ho => cases ho; cases hg
    | 6, _, ho => cases ho; cases hg
    | 7, _, ho => cases ho; cases hg
    | 8, _, ho => cases ho; cases hg
    | 9, _, ho => cases ho; cases hg
    | 10, _, ho => cases ho; cases hg
    | 11, _, ho => cases ho; cases hg
    | n + 12, hi, _ => exact absurd hi (by simp)
  · intro i' hi' hsk; cases hsk
  · intro i' hi' hsk o' ho ev w' hR hc hf hg hs hd
    match i', hi', ho with
    | 0, _, ho =>
      clear hsk
      cases ho
      have e3 : ev (.tmp 3) = .pointer (some ⟨d, 0, none⟩) := hs 3 (by kernel_rfl)
      go_simp
      first | exact ⟨rfl, hR, FR.refl _ _ _ _⟩ | exact ⟨⟨rfl, rfl⟩, hR, FR.refl _ _ _ _⟩ | exact ⟨⟨rfl, fun h => absurd h (by decide)⟩, hR, FR.refl _ _ _ _⟩ | exact ⟨⟨rfl, rfl, fun h => absurd h (by decide)⟩, hR, FR.refl _ _ _ _⟩
    | 1, _, ho =>
      clear hsk
      cases ho
      have e4 : ev (.tmp 4) = .pointer (some ⟨w2.heap.size, 0, none⟩) := hs 4 (by kernel_rfl)
      have m4 := hR.1.box.cell
      go_simp
      first | exact ⟨rfl, hR, FR.refl _ _ _ _⟩ | exact ⟨⟨rfl, rfl⟩, hR, FR.refl _ _ _ _⟩ | exact ⟨⟨rfl, fun h => absurd h (by decide)⟩, hR, FR.refl _ _ _ _⟩ | exact ⟨⟨rfl, rfl, fun h => absurd h (by decide)⟩, hR, FR.refl _ _ _ _⟩
    | 2, _, ho =>
      clear hsk
      cases ho
      have e21 : ev (.tmp 21) = .pointer (some ⟨d, 0, none⟩) := hd 0 21 (by kernel_rfl)
      have e22 : ev (.tmp 22) = .agg #[I r, .slice A ws.length c] := hd 1 22 (by kernel_rfl)
      go_simp
      refine (startsOf_c d r A c ws _ hR.1.dr hR.1.wings hm hchk).mono ?_
      rintro e w1 ⟨B, cb, sts, rfl, hs1, hcp, hd1, hk1, hln, hct, hst⟩
      first | exact ⟨⟨B, cb, sts, rfl, hs1, hcp, hln, hct, hst⟩, ⟨hR.1.kp hk1 hd1, Nat.le_trans hR.2 hk1.size⟩, FR.kp hk1⟩ | exact ⟨⟨rfl, ⟨B, cb, sts, rfl, hs1, hcp, hln, hct, hst⟩⟩, ⟨hR.1.kp hk1 hd1, Nat.le_trans hR.2 hk1.size⟩, FR.kp hk1⟩ | exact ⟨⟨⟨B, cb, sts, rfl, hs1, hcp, hln, hct, hst⟩, fun h => absurd h (by decide)⟩, ⟨hR.1.kp hk1 hd1, Nat.le_trans hR.2 hk1.size⟩, FR.kp hk1⟩ | exact ⟨⟨rfl, ⟨B, cb, sts, rfl, hs1, hcp, hln, hct, hst⟩, fun h => absurd h (by decide)⟩, ⟨hR.1.kp hk1 hd1, Nat.le_trans hR.2 hk1.size⟩, FR.kp hk1⟩
    | 3, _, ho =>
      clear hsk
      cases ho
      have e3 : ev (.tmp 3) = .pointer (some ⟨d, 0, none⟩) := hs 3 (by kernel_rfl)
      go_simp
      first | exact ⟨rfl, hR, FR.refl _ _ _ _⟩ | exact ⟨⟨rfl, rfl⟩, hR, FR.refl _ _ _ _⟩ | exact ⟨⟨rfl, fun h => absurd h (by decide)⟩, hR, FR.refl _ _ _ _⟩ | exact ⟨⟨rfl, rfl, fun h => absurd h (by decide)⟩, hR, FR.refl _ _ _ _⟩
    | 4, _, ho =>
      clear hsk
      cases ho
      have e24 : ev (.tmp 24) = .pointer (some ⟨d, 0, none⟩) := hd 3 24 (by kernel_rfl)
      go_simp
      refine (rulesOf_c d _ hR.1.dr).mono ?_
      rintro e w1 ⟨a, b, g, rfl, a1, a2, a3, a4, a5, a6, hd1, hk1⟩
      first | exact ⟨⟨a, b, g, rfl, rulE_ok (by omega) (by omega) (by omega) (by omega)⟩, ⟨hR.1.kp hk1 hd1, Nat.le_trans hR.2 hk1.size⟩, FR.kp hk1⟩ | exact ⟨⟨rfl, ⟨a, b, g, rfl, rulE_ok (by omega) (by omega) (by omega) (by omega)⟩⟩, ⟨hR.1.kp hk1 hd1, Nat.le_trans hR.2 hk1.size⟩, FR.kp hk1⟩ | exact ⟨⟨⟨a, b, g, rfl, rulE_ok (by omega) (by omega) (by omega) (by omega)⟩, fun h => absurd h (by decide)⟩, ⟨hR.1.kp hk1 hd1, Nat.le_trans hR.2 hk1.size⟩, FR.kp hk1⟩ | exact ⟨⟨rfl, ⟨a, b, g, rfl, rulE_ok (by omega) (by omega) (by omega) (by omega)⟩, fun h => absurd h (by decide)⟩, ⟨hR.1.kp hk1 hd1, Nat.le_trans hR.2 hk1.size⟩, FR.kp hk1⟩
    | 5, _, ho =>
      clear hsk
      cases ho
      have e3 : ev (.tmp 3) = .pointer (some ⟨d, 0, none⟩) := hs 3 (by kernel_rfl)
      go_simp
      first | exact ⟨rfl, hR, FR.refl _ _ _ _⟩ | exact ⟨⟨rfl, rfl⟩, hR, FR.refl _ _ _ _⟩ | exact ⟨⟨rfl, fun h => absurd h (by decide)⟩, hR, FR.refl _ _ _ _⟩ | exact ⟨⟨rfl, rfl, fun h => absurd h (by decide)⟩, hR, FR.refl _ _ _ _⟩
    | 6, _, ho =>
      clear hsk
      cases ho
      have e4 : ev (.tmp 4) = .pointer (some ⟨w2.heap.size, 0, none⟩) := hs 4 (by kernel_rfl)
      have m4 := hR.1.box.cell
      go_simp
      first | exact ⟨rfl, hR, FR.refl _ _ _ _⟩ | exact ⟨⟨rfl, rfl⟩, hR, FR.refl _ _ _ _⟩ | exact ⟨⟨rfl, fun h => absurd h (by decide)⟩, hR, FR.refl _ _ _ _⟩ | exact ⟨⟨rfl, rfl, fun h => absurd h (by decide)⟩, hR, FR.refl _ _ _ _⟩
    | 7, _, ho =>
      clear hsk
      cases ho
      have e26 : ev (.tmp 26) = .pointer (some ⟨d, 0, none⟩) := hd 5 26 (by kernel_rfl)
      have e27 : ev (.tmp 27) = .agg #[I r, .slice A ws.length c] := hd 6 27 (by kernel_rfl)
      go_simp
      refine (pacesOf_c d r A c ws _ hR.1.dr hR.1.wings hm (by omega)).mono ?_
      rintro e w1 ⟨B, cb, ps, rfl, hs1, hcp, hd1, hk1, hln, hpb⟩
      first | exact ⟨⟨B, cb, ps, rfl, hs1, hcp, hln, hpb⟩, ⟨hR.1.kp hk1 hd1, Nat.le_trans hR.2 hk1.size⟩, FR.kp hk1⟩ | exact ⟨⟨rfl, ⟨B, cb, ps, rfl, hs1, hcp, hln, hpb⟩⟩, ⟨hR.1.kp hk1 hd1, Nat.le_trans hR.2 hk1.size⟩, FR.kp hk1⟩ | exact ⟨⟨⟨B, cb, ps, rfl, hs1, hcp, hln, hpb⟩, fun h => absurd h (by decide)⟩, ⟨hR.1.kp hk1 hd1, Nat.le_trans hR.2 hk1.size⟩, FR.kp hk1⟩ | exact ⟨⟨rfl, ⟨B, cb, ps, rfl, hs1, hcp, hln, hpb⟩, fun h => absurd h (by decide)⟩, ⟨hR.1.kp hk1 hd1, Nat.le_trans hR.2 hk1.size⟩, FR.kp hk1⟩
    | 8, _, ho =>
      clear hsk
      cases ho
      go_simp
      first | exact ⟨⟨_, rfl, hR.2, (by have := hR.1.dr.lt; intro e; injection e with e; omega), RuB.new _ _⟩, ⟨hR.1.alloc _, by have := hR.2; simp; omega⟩, FR.below ((Below.refl _ _).alloc (Nat.le_refl _) _)⟩ | exact ⟨⟨rfl, ⟨_, rfl, hR.2, (by have := hR.1.dr.lt; intro e; injection e with e; omega), RuB.new _ _⟩⟩, ⟨hR.1.alloc _, by have := hR.2; simp; omega⟩, FR.below ((Below.refl _ _).alloc (Nat.le_refl _) _)⟩ | exact ⟨⟨⟨_, rfl, hR.2, (by have := hR.1.dr.lt; intro e; injection e with e; omega), RuB.new _ _⟩, fun h => absurd h (by decide)⟩, ⟨hR.1.alloc _, by have := hR.2; simp; omega⟩, FR.below ((Below.refl _ _).alloc (Nat.le_refl _) _)⟩ | exact ⟨⟨rfl, ⟨_, rfl, hR.2, (by have := hR.1.dr.lt; intro e; injection e with e; omega), RuB.new _ _⟩, fun h => absurd h (by decide)⟩, ⟨hR.1.alloc _, by have := hR.2; simp; omega⟩, FR.below ((Below.refl _ _).alloc (Nat.le_refl _) _)⟩
    | 9, _, ho =>
      clear hsk
      cases ho
      obtain ⟨B23, c23, zs23, e23, hs23, hq23⟩ : ∃ (B : Option Addr) (c' : Nat) (zs : List Int), ev (.tmp 23) = .slice B zs.length c' ∧ SlI w' 3 B zs ∧ (QSt r ws) zs c' := hd 2 23 (by kernel_rfl)
      go_simp
      first | exact ⟨⟨B23, c23, zs23, rfl, hs23, hq23⟩, hR, FR.refl _ _ _ _⟩ | exact ⟨⟨rfl, ⟨B23, c23, zs23, rfl, hs23, hq23⟩⟩, hR, FR.refl _ _ _ _⟩ | exact ⟨⟨⟨B23, c23, zs23, rfl, hs23, hq23⟩, fun h => absurd h (by decide)⟩, hR, FR.refl _ _ _ _⟩ | exact ⟨⟨rfl, ⟨B23, c23, zs23, rfl, hs23, hq23⟩, fun h => absurd h (by decide)⟩, hR, FR.refl _ _ _ _⟩
    | 10, _, ho =>
      clear hsk
      cases ho
      obtain ⟨bx, e6, hb1, hb2, hb3⟩ : ∃ b, ev (.tmp 6) = .pointer (some ⟨b, 0, none⟩) ∧ (w2.heap.size + 1) ≤ b ∧ some b ≠ some d ∧ RuB (R0 (fun a b g : Int => rulE a b g = 0)) w' b := hd 8 6 (by kernel_rfl)
      obtain ⟨ra, rb, rg, e25, hrul⟩ : ∃ a b g : Int, ev (.tmp 25) = .agg #[I a, I b, I g] ∧ rulE a b g = 0 := hd 4 25 (by kernel_rfl)
      obtain ⟨x0, y0, z0, hz0, hbx⟩ := hb3
      have hcx := hbx.cell
      have hfx := hbx.free
      have hbd : d ≠ bx := fun e => hb2 (by rw [e])
      go_simp
      have hin : RuB (R0 (fun a b g : Int => rulE a b g = 0)) w' bx := ⟨x0, y0, z0, hz0, hbx⟩
      first | exact ⟨⟨rfl, fun t ht => (by cases ht; exact ⟨bx, e6, hb1, hb2, hin.put hrul⟩)⟩, ⟨((hR.1.set (p := ⟨bx, 0, none⟩) hbx (by decide) (by simp only []; omega) (by simp only []; omega) (by simp only []; omega) _).set (p := ⟨bx, 1, none⟩) (hbx.set_ 0 _) (by decide) (by simp only []; omega) (by simp only []; omega) (by simp only []; omega) _).set (p := ⟨bx, 2, none⟩) ((hbx.set_ 0 _).set_ 1 _) (by decide) (by simp only []; omega) (by simp only []; omega) (by simp only []; omega) _, by have := hR.2; simpa [World.setCell] using this⟩, FR.put hb1 hin hrul⟩ | exact ⟨fun t ht => (by cases ht; exact ⟨bx, e6, hb1, hb2, hin.put hrul⟩), ⟨((hR.1.set (p := ⟨bx, 0, none⟩) hbx (by decide) (by simp only []; omega) (by simp only []; omega) (by simp only []; omega) _).set (p := ⟨bx, 1, none⟩) (hbx.set_ 0 _) (by decide) (by simp only []; omega) (by simp only []; omega) (by simp only []; omega) _).set (p := ⟨bx, 2, none⟩) ((hbx.set_ 0 _).set_ 1 _) (by decide) (by simp only []; omega) (by simp only []; omega) (by simp only []; omega) _, by have := hR.2; simpa [World.setCell] using this⟩, FR.put hb1 hin hrul⟩
    | 11, _, ho =>
      clear hsk
      cases ho
      obtain ⟨B28, c28, zs28, e28, hs28, hq28⟩ : ∃ (B : Option Addr) (c' : Nat) (zs : List Int), ev (.tmp 28) = .slice B zs.length c' ∧ SlI w' 3 B zs ∧ (QPt ws) zs c' := hd 7 28 (by kernel_rfl)
      go_simp
      first | exact ⟨⟨B28, c28, zs28, rfl, hs28, hq28⟩, hR, FR.refl _ _ _ _⟩ | exact ⟨⟨rfl, ⟨B28, c28, zs28, rfl, hs28, hq28⟩⟩, hR, FR.refl _ _ _ _⟩ | exact ⟨⟨⟨B28, c28, zs28, rfl, hs28, hq28⟩, fun h => absurd h (by decide)⟩, hR, FR.refl _ _ _ _⟩ | exact ⟨⟨rfl, ⟨B28, c28, zs28, rfl, hs28, hq28⟩, fun h => absurd h (by decide)⟩, hR, FR.refl _ _ _ _⟩
    | n + 12, hi, _ => exact absurd hi (by simp)
  intro ρ wE hR hρ hne K hK
  obtain ⟨B, cb, sts, p9, hsl, hcapb, hlen, hcst, hst⟩ : ∃ (B : Option Addr) (c' : Nat) (zs : List Int), ρ 9 = .slice B zs.length c' ∧ SlI wE 3 B zs ∧ zs.length ≤ c' ∧ zs.length = ws.length ∧ cst r ws zs = 0 ∧ StM ws zs zs.length := hρ 9 (by simp)
  obtain ⟨q6, p8, hq6, hq6d, ra, rb, rg, hrul, x6⟩ : ∃ b, ρ 8 = .pointer (some ⟨b, 0, none⟩) ∧ (w2.heap.size + 1) ≤ b ∧ some b ≠ some d ∧ RuB (fun a b g : Int => rulE a b g = 0) wE b := hρ 10 (by simp)
  obtain ⟨C, cc, ps, p11, hpl, hcapp, hlenp, hpb⟩ : ∃ (B : Option Addr) (c' : Nat) (zs : List Int), ρ 11 = .slice B zs.length c' ∧ SlI wE 3 B zs ∧ zs.length ≤ c' ∧ zs.length = ws.length ∧ PcB ws zs zs.length := hρ 11 (by simp)
  show K (putAll _ _ ρ 12) _
  simp only [putAll, dOf, List.getElem?_toArray, List.getElem?_cons_zero, List.getElem?_cons_succ, Option.bind_some, Act.put, List.setIfInBounds_toArray, List.set_cons_zero, List.set_cons_succ]
  rw [p8, p9, p11]
  refine hK _ _ ?_
  change wpList _ _ _ [] _ _
  obtain ⟨L4, _⟩ := hR
  clear hK K p8 p9 p11 hρ hne hRd
  have V : LV r c ws sts cb := ⟨hm, hr1, hr2, hn1, by omega, hcap, hlen, hcapb, hcst, hst⟩
  clear hcst hst
  obtain ⟨k, hkn⟩ : ∃ k, k + 1 = ws.length := ⟨ws.length - 1, by omega⟩
  obtain ⟨b1, o1, rfl, _⟩ := SlW.some_ L4.wings (show k < ws.length by omega)
  obtain ⟨b2, o2, rfl, _⟩ := SlI.some_ hsl (show 0 < sts.length by omega)
  have c1 := V.lasts_ L4.wings hsl hrul
  have eLh : lasF r ws sts (his ws) = passed ws sts (his ws) k (r + (gW ws k).len) - gI sts 0 := by unfold lasF; rw [show ws.length - 1 = k by omega]
  have eLl : lasF r ws sts (los ws) = passed ws sts (los ws) k (r + (gW ws k).len) - gI sts 0 := by unfold lasF; rw [show ws.length - 1 = k by omega]
  rw [eLh, eLl] at c1
  have hst0 := V.start (show 0 < ws.length by omega)
  have hlk := V.made.at_ (show k < ws.length by omega)
  obtain ⟨_, l1, l2, _⟩ := hlk
  clear eLh eLl
  have TM := time_math V hlenp hpb hkn
  have hsm := V.val.smPs hlenp hpb
  generalize passed ws sts (his ws) k (r + (gW ws k).len) = pH at *
  generalize hpL : passed ws sts (los ws) k (r + (gW ws k).len) = pL at *
  clear hpL
  generalize hP : passed ws sts ps k (r + (gW ws k).len) = P at *
  clear hP
  obtain ⟨t1, t2, t3, t4, t5, t6⟩ := TM
  obtain ⟨LN, rfl⟩ : ∃ LN : Nat, pL = (LN : Int) := ⟨pL.toNat, by omega⟩
  have hc4 := L4.box.cell
  have hc6 := x6.cell
  have hkm : (ws.length : Int) - 1 = (k : Int) := by omega
  have hso : ∀ j m, j ≤ m → m < ws.length → gI sts j ≤ gI sts m := fun j m h1 h2 => V.val.sorted h1 h2
  have HN := Lib.hid hkn
  have HLn := Lib.hid hlen
  have HLp := Lib.hid hlenp
  have HSO := Lib.hid hso
  have HT5 := Lib.hid t5
  clear hlen hlenp hkn hso t5
  go_wp2_with fail
  refine c1.mono ?_
  rintro e w5 ⟨rfl, hb5⟩
  generalize hv : verd ra rb (pH - gI sts 0) ((LN : Int) - gI sts 0) = v at *
  have T5 : TiS d w2.heap.size r (some ⟨b1, o1, none⟩) c ws (some ⟨b2, o2, none⟩) sts C ps q6 #[I ra, I rb, I rg] w5.heap.size #[I (pH - gI sts 0), I ((LN : Int) - gI sts 0)] w (w5.alloc (.cells #[I (pH - gI sts 0), I ((LN : Int) - gI sts 0)] 27)) :=
    have hb5' := hb5
    ⟨(L4.grow hb5).alloc _, (Sl.below hsl hb5 (Nat.le_refl _)).alloc _, (Sl.below hpl hb5 (Nat.le_refl _)).alloc _, (x6.below hb5 x6.lt).alloc _, Bx.new _ _ _⟩
  have hvc : (v = 1 ∧ ra ≤ P - gI sts 0 ∧ P - gI sts 0 ≤ rb) ∨ (v = 2 ∧ ¬ (ra ≤ P - gI sts 0 ∧ P - gI sts 0 ≤ rb)) ∨ v = 3 := by
    by_cases z1 : ra ≤ pH - gI sts 0 ∧ (LN : Int) - gI sts 0 ≤ rb
    · rw [verd_sure z1.1 z1.2] at hv; exact .inl ⟨hv.symm, by omega, by omega⟩
    · by_cases z2 : rb < pH - gI sts 0 ∨ (LN : Int) - gI sts 0 < ra
      · rw [verd_never z1 z2] at hv; exact .inr (.inl ⟨hv.symm, by omega⟩)
      · rw [verd_open z1 z2] at hv; exact .inr (.inr hv.symm)
  have HV := Lib.hid hvc
  clear hvc
  clear c1 hc4 hc6 hb5 L4 hsl hpl x6 hv
  have hc4 := T5.1.box.cell
  go_wp2_with fail
  clear hc4
  generalize w5.heap.size = q9 at *
  refine wp_region_list_s (by kernel_rfl) (R := (TiS d w2.heap.size r (some ⟨b1, o1, none⟩) c ws (some ⟨b2, o2, none⟩) sts C ps q6 #[I ra, I rb, I rg] q9 #[I (pH - gI sts 0), I ((LN : Int) - gI sts 0)] w)) (F := FB) [] [] []
      [As.is _ _ (.pointer (some ⟨w2.heap.size, 0, none⟩)),
      As.is _ _ (I r),
      As.is _ _ (.pointer (some ⟨w2.heap.size, 1, none⟩)),
      As.is _ _ (.slice (some ⟨b1, o1, none⟩) ws.length c),
      As.is _ _ (I (k : Int)),
      As.is _ _ (.pointer (some ⟨b1, o1 + k * 4, none⟩)),
      As.is _ _ (.pointer (some ⟨b1, o1 + k * 4 + 1, none⟩)),
      As.is _ _ (I (gW ws k).len),
      As.is _ _ (I (r + (gW ws k).len)),
      As.is _ _ (I (r + (gW ws k).len))] 124 (by kernel_rfl) rfl (T5.grow (Below.refl _ _).drew) (by simp) (by simp) ?_ (fun _ => Below.refl _ _) ?_ ?_ ?_
  · intro i' hi' o' ho k' b' hg u w' hR hu
    match i', hi', ho with
    | 0, _, ho => cases ho; cases hg
    | 1, _, ho => cases ho; cases hg
    | 2, _, ho => cases ho; cases hg
    | 3, _, ho => cases ho; cases hg
    | 4, _, ho => cases ho; cases hg
    | 5, _, ho => cases ho; cases hg
    | 6, _, ho => cases ho; cases hg
    | 7, _, ho => cases ho; cases hg
    | 8, _, ho => cases ho; cases hg
    | 9, _, ho => cases ho; cases hg
    | n + 10, hi, _ => exact absurd hi (by simp)
  · intro i' hi' hsk; cases hsk
  · intro i' hi' hsk o' ho ev w' hR hc hf hg hs hd
    match i', hi', ho with
    | 0, _, ho =>
      clear hsk
      cases ho
      have e4 : ev (.tmp 4) = .pointer (some ⟨w2.heap.size, 0, none⟩) := hs 4 (by kernel_rfl)
      go_simp
      first | exact ⟨rfl, hR, Below.refl _ _⟩ | exact ⟨⟨rfl, rfl⟩, hR, Below.refl _ _⟩ | exact ⟨⟨rfl, fun h => absurd h (by decide)⟩, hR, Below.refl _ _⟩ | exact ⟨⟨rfl, rfl, fun h => absurd h (by decide)⟩, hR, Below.refl _ _⟩
    | 1, _, ho =>
      clear hsk
      cases ho
      have e41 : ev (.tmp 41) = .pointer (some ⟨w2.heap.size, 0, none⟩) := hd 0 41 (by kernel_rfl)
      have m4 := hR.1.box.cell
      go_simp
      first | exact ⟨rfl, hR, Below.refl _ _⟩ | exact ⟨⟨rfl, rfl⟩, hR, Below.refl _ _⟩ | exact ⟨⟨rfl, fun h => absurd h (by decide)⟩, hR, Below.refl _ _⟩ | exact ⟨⟨rfl, rfl, fun h => absurd h (by decide)⟩, hR, Below.refl _ _⟩
    | 2, _, ho =>
      clear hsk
      cases ho
      have e4 : ev (.tmp 4) = .pointer (some ⟨w2.heap.size, 0, none⟩) := hs 4 (by kernel_rfl)
      go_simp
      first | exact ⟨rfl, hR, Below.refl _ _⟩ | exact ⟨⟨rfl, rfl⟩, hR, Below.refl _ _⟩ | exact ⟨⟨rfl, fun h => absurd h (by decide)⟩, hR, Below.refl _ _⟩ | exact ⟨⟨rfl, rfl, fun h => absurd h (by decide)⟩, hR, Below.refl _ _⟩
    | 3, _, ho =>
      clear hsk
      cases ho
      have e43 : ev (.tmp 43) = .pointer (some ⟨w2.heap.size, 1, none⟩) := hd 2 43 (by kernel_rfl)
      have m4 := hR.1.box.cell
      go_simp
      first | exact ⟨rfl, hR, Below.refl _ _⟩ | exact ⟨⟨rfl, rfl⟩, hR, Below.refl _ _⟩ | exact ⟨⟨rfl, fun h => absurd h (by decide)⟩, hR, Below.refl _ _⟩ | exact ⟨⟨rfl, rfl, fun h => absurd h (by decide)⟩, hR, Below.refl _ _⟩
    | 4, _, ho =>
      clear hsk
      cases ho
      have e11 : ev (.tmp 11) = I (k : Int) := hs 11 (by kernel_rfl)
      go_simp
      first | exact ⟨rfl, hR, Below.refl _ _⟩ | exact ⟨⟨rfl, rfl⟩, hR, Below.refl _ _⟩ | exact ⟨⟨rfl, fun h => absurd h (by decide)⟩, hR, Below.refl _ _⟩ | exact ⟨⟨rfl, rfl, fun h => absurd h (by decide)⟩, hR, Below.refl _ _⟩
    | 5, _, ho =>
      clear hsk
      cases ho
      have e44 : ev (.tmp 44) = .slice (some ⟨b1, o1, none⟩) ws.length c := hd 3 44 (by kernel_rfl)
      have e45 : ev (.tmp 45) = I (k : Int) := hd 4 45 (by kernel_rfl)
      have hkl : (k : Int) < (ws.length : Int) := by omega
      go_simp
      first | exact ⟨rfl, hR, Below.refl _ _⟩ | exact ⟨⟨rfl, rfl⟩, hR, Below.refl _ _⟩ | exact ⟨⟨rfl, fun h => absurd h (by decide)⟩, hR, Below.refl _ _⟩ | exact ⟨⟨rfl, rfl, fun h => absurd h (by decide)⟩, hR, Below.refl _ _⟩
    | 6, _, ho =>
      clear hsk
      cases ho
      have e46 : ev (.tmp 46) = .pointer (some ⟨b1, o1 + k * 4, none⟩) := hd 5 46 (by kernel_rfl)
      go_simp
      first | exact ⟨rfl, hR, Below.refl _ _⟩ | exact ⟨⟨rfl, rfl⟩, hR, Below.refl _ _⟩ | exact ⟨⟨rfl, fun h => absurd h (by decide)⟩, hR, Below.refl _ _⟩ | exact ⟨⟨rfl, rfl, fun h => absurd h (by decide)⟩, hR, Below.refl _ _⟩
    | 7, _, ho =>
      clear hsk
      cases ho
      have e47 : ev (.tmp 47) = .pointer (some ⟨b1, o1 + k * 4 + 1, none⟩) := hd 6 47 (by kernel_rfl)
      have m6 := (SlW.cellG hR.1.wings (show k < ws.length by omega)).2.1
      go_simp
      first | exact ⟨rfl, hR, Below.refl _ _⟩ | exact ⟨⟨rfl, rfl⟩, hR, Below.refl _ _⟩ | exact ⟨⟨rfl, fun h => absurd h (by decide)⟩, hR, Below.refl _ _⟩ | exact ⟨⟨rfl, rfl, fun h => absurd h (by decide)⟩, hR, Below.refl _ _⟩
    | 8, _, ho =>
      clear hsk
      cases ho
      have e42 : ev (.tmp 42) = I r := hd 1 42 (by kernel_rfl)
      have e48 : ev (.tmp 48) = I (gW ws k).len := hd 7 48 (by kernel_rfl)
      have ew : IntKind.i64.wrap (r + (gW ws k).len) = r + (gW ws k).len := IntWalk.i64_in _ (by omega)
      go_simp
      first | exact ⟨rfl, hR, Below.refl _ _⟩ | exact ⟨⟨rfl, rfl⟩, hR, Below.refl _ _⟩ | exact ⟨⟨rfl, fun h => absurd h (by decide)⟩, hR, Below.refl _ _⟩ | exact ⟨⟨rfl, rfl, fun h => absurd h (by decide)⟩, hR, Below.refl _ _⟩
    | 9, _, ho =>
      clear hsk
      cases ho
      have e49 : ev (.tmp 49) = I (r + (gW ws k).len) := hd 8 49 (by kernel_rfl)
      go_simp
      first | exact ⟨rfl, hR, Below.refl _ _⟩ | exact ⟨⟨rfl, rfl⟩, hR, Below.refl _ _⟩ | exact ⟨⟨rfl, fun h => absurd h (by decide)⟩, hR, Below.refl _ _⟩ | exact ⟨⟨rfl, rfl, fun h => absurd h (by decide)⟩, hR, Below.refl _ _⟩
    | n + 10, hi, _ => exact absurd hi (by simp)
  intro ρ w6 T6 hρ hne K hK
  have p9 : ρ 9 = I (r + (gW ws k).len) := hρ 9 (by simp)
  show K (putAll _ _ ρ 10) _
  simp only [putAll, dOf, List.getElem?_toArray, List.getElem?_cons_zero, List.getElem?_cons_succ, Option.bind_some, Act.put, List.setIfInBounds_toArray, List.set_cons_zero, List.set_cons_succ]
  rw [p9]
  refine hK _ _ ?_
  change wpList _ _ _ [] _ _
  clear hK K p9 hρ hne T5
  go_wp2_with fail
  refine wp_region_list_s (by kernel_rfl) (R := (TiS d w2.heap.size r (some ⟨b1, o1, none⟩) c ws (some ⟨b2, o2, none⟩) sts C ps q6 #[I ra, I rb, I rg] q9 #[I (pH - gI sts 0), I ((LN : Int) - gI sts 0)] w)) (F := FB) [] [] []
      [As.is _ _ (.slice (some ⟨b2, o2, none⟩) sts.length cb),
      As.is _ _ (.pointer (some ⟨b2, o2, none⟩)),
      As.is _ _ (I (gI sts 0)),
      As.is _ _ (.pointer (some ⟨q9, 0, none⟩)),
      As.is _ _ (I (pH - gI sts 0)),
      As.is _ _ (I pH),
      As.is _ _ (I pH)] 124 (by kernel_rfl) rfl (T6.grow (Below.refl _ _).drew) (by simp) (by simp) ?_ (fun _ => Below.refl _ _) ?_ ?_ ?_
  · intro i' hi' o' ho k' b' hg u w' hR hu
    match i', hi', ho with
    | 0, _, ho => cases ho; cases hg
    | 1, _, ho => cases ho; cases hg
    | 2, _, ho => cases ho; cases hg
    | 3, _, ho => cases ho; cases hg
    | 4, _, ho => cases ho; cases hg
    | 5, _, ho => cases ho; cases hg
    | 6, _, ho => cases ho; cases hg
    | n + 7, hi, _ => exact absurd hi (by simp)
  · intro i' hi' hsk; cases hsk
  · intro i' hi' hsk o' ho ev w' hR hc hf hg hs hd
    match i', hi', ho with
    | 0, _, ho =>
      clear hsk
      cases ho
      have e5 : ev (.tmp 5) = .slice (some ⟨b2, o2, none⟩) sts.length cb := hs 5 (by kernel_rfl)
      go_simp
      first | exact ⟨rfl, hR, Below.refl _ _⟩ | exact ⟨⟨rfl, rfl⟩, hR, Below.refl _ _⟩ | exact ⟨⟨rfl, fun h => absurd h (by decide)⟩, hR, Below.refl _ _⟩ | exact ⟨⟨rfl, rfl, fun h => absurd h (by decide)⟩, hR, Below.refl _ _⟩
    | 1, _, ho =>
      clear hsk
      cases ho
      have e50 : ev (.tmp 50) = .slice (some ⟨b2, o2, none⟩) sts.length cb := hd 0 50 (by kernel_rfl)
      have hp0 : 0 < sts.length := by have := HLn.out; omega
      have hp0' : (0 : Int) < (sts.length : Int) := by omega
      go_simp
      first | exact ⟨rfl, hR, Below.refl _ _⟩ | exact ⟨⟨rfl, rfl⟩, hR, Below.refl _ _⟩ | exact ⟨⟨rfl, fun h => absurd h (by decide)⟩, hR, Below.refl _ _⟩ | exact ⟨⟨rfl, rfl, fun h => absurd h (by decide)⟩, hR, Below.refl _ _⟩
    | 2, _, ho =>
      clear hsk
      cases ho
      have e51 : ev (.tmp 51) = .pointer (some ⟨b2, o2, none⟩) := hd 1 51 (by kernel_rfl)
      have hp0 : 0 < sts.length := by have := HLn.out; omega
      have m6 := SlI.cellG hR.2.1 hp0
      simp only [Nat.add_zero] at m6
      go_simp
      first | exact ⟨rfl, hR, Below.refl _ _⟩ | exact ⟨⟨rfl, rfl⟩, hR, Below.refl _ _⟩ | exact ⟨⟨rfl, fun h => absurd h (by decide)⟩, hR, Below.refl _ _⟩ | exact ⟨⟨rfl, rfl, fun h => absurd h (by decide)⟩, hR, Below.refl _ _⟩
    | 3, _, ho =>
      clear hsk
      cases ho
      have e9 : ev (.tmp 9) = .pointer (some ⟨q9, 0, none⟩) := hs 9 (by kernel_rfl)
      go_simp
      first | exact ⟨rfl, hR, Below.refl _ _⟩ | exact ⟨⟨rfl, rfl⟩, hR, Below.refl _ _⟩ | exact ⟨⟨rfl, fun h => absurd h (by decide)⟩, hR, Below.refl _ _⟩ | exact ⟨⟨rfl, rfl, fun h => absurd h (by decide)⟩, hR, Below.refl _ _⟩
    | 4, _, ho =>
      clear hsk
      cases ho
      have e53 : ev (.tmp 53) = .pointer (some ⟨q9, 0, none⟩) := hd 3 53 (by kernel_rfl)
      have m9 := hR.2.2.2.2.cell
      go_simp
      first | exact ⟨rfl, hR, Below.refl _ _⟩ | exact ⟨⟨rfl, rfl⟩, hR, Below.refl _ _⟩ | exact ⟨⟨rfl, fun h => absurd h (by decide)⟩, hR, Below.refl _ _⟩ | exact ⟨⟨rfl, rfl, fun h => absurd h (by decide)⟩, hR, Below.refl _ _⟩
    | 5, _, ho =>
      clear hsk
      cases ho
      have e52 : ev (.tmp 52) = I (gI sts 0) := hd 2 52 (by kernel_rfl)
      have e54 : ev (.tmp 54) = I (pH - gI sts 0) := hd 4 54 (by kernel_rfl)
      have ew : IntKind.i64.wrap (gI sts 0 + (pH - gI sts 0)) = pH := by rw [IntWalk.i64_in _ (by omega)]; omega
      go_simp
      first | exact ⟨rfl, hR, Below.refl _ _⟩ | exact ⟨⟨rfl, rfl⟩, hR, Below.refl _ _⟩ | exact ⟨⟨rfl, fun h => absurd h (by decide)⟩, hR, Below.refl _ _⟩ | exact ⟨⟨rfl, rfl, fun h => absurd h (by decide)⟩, hR, Below.refl _ _⟩
    | 6, _, ho =>
      clear hsk
      cases ho
      have e55 : ev (.tmp 55) = I pH := hd 5 55 (by kernel_rfl)
      go_simp
      first | exact ⟨rfl, hR, Below.refl _ _⟩ | exact ⟨⟨rfl, rfl⟩, hR, Below.refl _ _⟩ | exact ⟨⟨rfl, fun h => absurd h (by decide)⟩, hR, Below.refl _ _⟩ | exact ⟨⟨rfl, rfl, fun h => absurd h (by decide)⟩, hR, Below.refl _ _⟩
    | n + 7, hi, _ => exact absurd hi (by simp)
  intro ρ w7 T7 hρ hne K hK
  have p6 : ρ 6 = I pH := hρ 6 (by simp)
  show K (putAll _ _ ρ 7) _
  simp only [putAll, dOf, List.getElem?_toArray, List.getElem?_cons_zero, List.getElem?_cons_succ, Option.bind_some, Act.put, List.setIfInBounds_toArray, List.set_cons_zero, List.set_cons_succ]
  rw [p6]
  refine hK _ _ ?_
  change wpList _ _ _ [] _ _
  clear hK K p6 hρ hne T6
  go_wp2_with fail
  refine wp_region_list_s (by kernel_rfl) (R := (TiS d w2.heap.size r (some ⟨b1, o1, none⟩) c ws (some ⟨b2, o2, none⟩) sts C ps q6 #[I ra, I rb, I rg] q9 #[I (pH - gI sts 0), I ((LN : Int) - gI sts 0)] w)) (F := FB) [] [] []
      [As.is _ _ (.agg #[I r, .slice (some ⟨b1, o1, none⟩) ws.length c]),
      As.is _ _ (.slice (some ⟨b2, o2, none⟩) sts.length cb),
      As.is _ _ (.slice C ps.length cc),
      As.is _ _ (.slice (some ⟨b2, o2, none⟩) sts.length cb),
      As.is _ _ (.pointer (some ⟨b2, o2, none⟩)),
      As.is _ _ (I (gI sts 0)),
      As.is _ _ (.pointer (some ⟨q9, 1, none⟩)),
      As.is _ _ (I ((LN : Int) - gI sts 0)),
      As.is _ _ (I (LN : Int)),
      asWalk _ ws sts ps LN 0,
      asWalk _ ws sts ps LN 0] 124 (by kernel_rfl) rfl (T7.grow (Below.refl _ _).drew) (by simp) (by simp) ?_ (fun _ => Below.refl _ _) ?_ ?_ ?_
  · intro i' hi' o' ho k' b' hg u w' hR hu
    match i', hi', ho with
    | 0, _, ho => cases ho; cases hg
    | 1, _, ho => cases ho; cases hg
    | 2, _, ho => cases ho; cases hg
    | 3, _, ho => cases ho; cases hg
    | 4, _, ho => cases ho; cases hg
    | 5, _, ho => cases ho; cases hg
    | 6, _, ho => cases ho; cases hg
    | 7, _, ho => cases ho; cases hg
    | 8, _, ho => cases ho; cases hg
    | 9, _, ho => cases ho; cases hg
    | 10, _, ho => cases ho; cases hg
    | n + 11, hi, _ => exact absurd hi (by simp)
  · intro i' hi' hsk; cases hsk
  · intro i' hi' hsk o' ho ev w' hR hc hf hg hs hd
    match i', hi', ho with
    | 0, _, ho =>
      clear hsk
      cases ho
      have e4 : ev (.tmp 4) = .pointer (some ⟨w2.heap.size, 0, none⟩) := hs 4 (by kernel_rfl)
      have m4 := hR.1.box.cell
      go_simp
      first | exact ⟨rfl, hR, Below.refl _ _⟩ | exact ⟨⟨rfl, rfl⟩, hR, Below.refl _ _⟩ | exact ⟨⟨rfl, fun h => absurd h (by decide)⟩, hR, Below.refl _ _⟩ | exact ⟨⟨rfl, rfl, fun h => absurd h (by decide)⟩, hR, Below.refl _ _⟩
    | 1, _, ho =>
      clear hsk
      cases ho
      have e5 : ev (.tmp 5) = .slice (some ⟨b2, o2, none⟩) sts.length cb := hs 5 (by kernel_rfl)
      go_simp
      first | exact ⟨rfl, hR, Below.refl _ _⟩ | exact ⟨⟨rfl, rfl⟩, hR, Below.refl _ _⟩ | exact ⟨⟨rfl, fun h => absurd h (by decide)⟩, hR, Below.refl _ _⟩ | exact ⟨⟨rfl, rfl, fun h => absurd h (by decide)⟩, hR, Below.refl _ _⟩
    | 2, _, ho =>
      clear hsk
      cases ho
      have e7 : ev (.tmp 7) = .slice C ps.length cc := hs 7 (by kernel_rfl)
      go_simp
      first | exact ⟨rfl, hR, Below.refl _ _⟩ | exact ⟨⟨rfl, rfl⟩, hR, Below.refl _ _⟩ | exact ⟨⟨rfl, fun h => absurd h (by decide)⟩, hR, Below.refl _ _⟩ | exact ⟨⟨rfl, rfl, fun h => absurd h (by decide)⟩, hR, Below.refl _ _⟩
    | 3, _, ho =>
      clear hsk
      cases ho
      have e5 : ev (.tmp 5) = .slice (some ⟨b2, o2, none⟩) sts.length cb := hs 5 (by kernel_rfl)
      go_simp
      first | exact ⟨rfl, hR, Below.refl _ _⟩ | exact ⟨⟨rfl, rfl⟩, hR, Below.refl _ _⟩ | exact ⟨⟨rfl, fun h => absurd h (by decide)⟩, hR, Below.refl _ _⟩ | exact ⟨⟨rfl, rfl, fun h => absurd h (by decide)⟩, hR, Below.refl _ _⟩
    | 4, _, ho =>
      clear hsk
      cases ho
      have e59 : ev (.tmp 59) = .slice (some ⟨b2, o2, none⟩) sts.length cb := hd 3 59 (by kernel_rfl)
      have hp0 : 0 < sts.length := by have := HLn.out; omega
      have hp0' : (0 : Int) < (sts.length : Int) := by omega
      go_simp
      first | exact ⟨rfl, hR, Below.refl _ _⟩ | exact ⟨⟨rfl, rfl⟩, hR, Below.refl _ _⟩ | exact ⟨⟨rfl, fun h => absurd h (by decide)⟩, hR, Below.refl _ _⟩ | exact ⟨⟨rfl, rfl, fun h => absurd h (by decide)⟩, hR, Below.refl _ _⟩
    | 5, _, ho =>
      clear hsk
      cases ho
      have e60 : ev (.tmp 60) = .pointer (some ⟨b2, o2, none⟩) := hd 4 60 (by kernel_rfl)
      have hp0 : 0 < sts.length := by have := HLn.out; omega
      have m6 := SlI.cellG hR.2.1 hp0
      simp only [Nat.add_zero] at m6
      go_simp
      first | exact ⟨rfl, hR, Below.refl _ _⟩ | exact ⟨⟨rfl, rfl⟩, hR, Below.refl _ _⟩ | exact ⟨⟨rfl, fun h => absurd h (by decide)⟩, hR, Below.refl _ _⟩ | exact ⟨⟨rfl, rfl, fun h => absurd h (by decide)⟩, hR, Below.refl _ _⟩
    | 6, _, ho =>
      clear hsk
      cases ho
      have e9 : ev (.tmp 9) = .pointer (some ⟨q9, 0, none⟩) := hs 9 (by kernel_rfl)
      go_simp
      first | exact ⟨rfl, hR, Below.refl _ _⟩ | exact ⟨⟨rfl, rfl⟩, hR, Below.refl _ _⟩ | exact ⟨⟨rfl, fun h => absurd h (by decide)⟩, hR, Below.refl _ _⟩ | exact ⟨⟨rfl, rfl, fun h => absurd h (by decide)⟩, hR, Below.refl _ _⟩
    | 7, _, ho =>
      clear hsk
      cases ho
      have e62 : ev (.tmp 62) = .pointer (some ⟨q9, 1, none⟩) := hd 6 62 (by kernel_rfl)
      have m9 := hR.2.2.2.2.cell
      go_simp
      first | exact ⟨rfl, hR, Below.refl _ _⟩ | exact ⟨⟨rfl, rfl⟩, hR, Below.refl _ _⟩ | exact ⟨⟨rfl, fun h => absurd h (by decide)⟩, hR, Below.refl _ _⟩ | exact ⟨⟨rfl, rfl, fun h => absurd h (by decide)⟩, hR, Below.refl _ _⟩
    | 8, _, ho =>
      clear hsk
      cases ho
      have e61 : ev (.tmp 61) = I (gI sts 0) := hd 5 61 (by kernel_rfl)
      have e63 : ev (.tmp 63) = I ((LN : Int) - gI sts 0) := hd 7 63 (by kernel_rfl)
      have ew : IntKind.i64.wrap (gI sts 0 + ((LN : Int) - gI sts 0)) = (LN : Int) := by rw [IntWalk.i64_in _ (by omega)]; omega
      go_simp
      first | exact ⟨rfl, hR, Below.refl _ _⟩ | exact ⟨⟨rfl, rfl⟩, hR, Below.refl _ _⟩ | exact ⟨⟨rfl, fun h => absurd h (by decide)⟩, hR, Below.refl _ _⟩ | exact ⟨⟨rfl, rfl, fun h => absurd h (by decide)⟩, hR, Below.refl _ _⟩
    | 9, _, ho =>
      clear hsk
      cases ho
      have e56 : ev (.tmp 56) = .agg #[I r, .slice (some ⟨b1, o1, none⟩) ws.length c] := hd 0 56 (by kernel_rfl)
      have e57 : ev (.tmp 57) = .slice (some ⟨b2, o2, none⟩) sts.length cb := hd 1 57 (by kernel_rfl)
      have e58 : ev (.tmp 58) = .slice C ps.length cc := hd 2 58 (by kernel_rfl)
      have e64 : ev (.tmp 64) = I (LN : Int) := hd 8 64 (by kernel_rfl)
      go_simp
      refine (walk_c r (some ⟨b1, o1, none⟩) (some ⟨b2, o2, none⟩) C c cb cc ws sts ps _ _ _ LN _ hR.1.wings hR.2.1 hR.2.2.1 (by omega) (by omega) HLn.out HLp.out hsm HSO.out (by omega)).mono ?_
      rintro e wz ⟨xs, V', rfl, ho, hxl, hrw, hwz⟩
      first | exact ⟨⟨xs, own_base ho (Nat.zero_le _), hxl, hrw⟩, hR.grow hwz, hwz⟩ | exact ⟨⟨rfl, ⟨xs, own_base ho (Nat.zero_le _), hxl, hrw⟩⟩, hR.grow hwz, hwz⟩ | exact ⟨⟨⟨xs, own_base ho (Nat.zero_le _), hxl, hrw⟩, fun h => absurd h (by decide)⟩, hR.grow hwz, hwz⟩ | exact ⟨⟨rfl, ⟨xs, own_base ho (Nat.zero_le _), hxl, hrw⟩, fun h => absurd h (by decide)⟩, hR.grow hwz, hwz⟩
    | 10, _, ho =>
      clear hsk
      cases ho
      obtain ⟨V14, e65, hwk⟩ : ∃ V, ev (.tmp 65) = V ∧ WkR ws sts ps LN 0 V w' := ⟨_, rfl, hd 9 65 (by kernel_rfl)⟩
      go_simp
      first | exact ⟨hwk, hR, Below.refl _ _⟩ | exact ⟨⟨rfl, hwk⟩, hR, Below.refl _ _⟩ | exact ⟨⟨hwk, fun h => absurd h (by decide)⟩, hR, Below.refl _ _⟩ | exact ⟨⟨rfl, hwk, fun h => absurd h (by decide)⟩, hR, Below.refl _ _⟩
    | n + 11, hi, _ => exact absurd hi (by simp)
  intro ρ w8 T8 hρ hne K hK
  have p10 : WkR ws sts ps LN 0 (ρ 10) w8 := hρ 10 (by simp)
  have p10' := p10.at_ (Nat.zero_le LN) (show k < ws.length by omega)
  obtain ⟨g, cg, _, _, _, eV, _, _⟩ := p10'
  rw [eV] at p10
  show K (putAll _ _ ρ 11) _
  simp only [putAll, dOf, List.getElem?_toArray, List.getElem?_cons_zero, List.getElem?_cons_succ, Option.bind_some, Act.put, List.setIfInBounds_toArray, List.set_cons_zero, List.set_cons_succ]
  rw [eV]
  refine hK _ _ ?_
  change wpList _ _ _ [] _ _
  clear hK K eV hρ hne T7

  have hp0 : 0 < sts.length := by have := HLn.out; omega
  go_wp2_with fail
  go_loopw [13] (fun i wr => ∃ n : Nat, i = .int .i64 n ∧ pH ≤ (n : Int) ∧ (n : Int) ≤ P ∧ wr = w8) (fun i _ => (P - intOf i).toNat)
  case atStart => exact ⟨pH.toNat, by rw [Int.toNat_of_nonneg (by omega)], by omega, by omega, rfl⟩
  case round =>
    obtain ⟨n, rfl, hn1', hn2', rfl⟩ := hrel
    have hnL : n ≤ LN := by omega
    obtain ⟨g', cg', b, o, c'', e1, m1, m2⟩ := p10.at_ hnL (show k < ws.length by omega)
    injection e1 with e1a _ e1c
    injection e1a with e1a
    injection e1a with e1a _
    subst e1a
    subst e1c
    have hnl : (n : Int) < ((LN + 1 : Nat) : Int) := by omega
    have hnl' : (n : Int) < (LN : Int) + 1 := by omega
    have hnl'' : n < LN + 1 := by omega
    have hkl : (k : Int) < (ws.length : Int) := by omega
    by_cases hlt : (n : Int) < P
    · have hv2 : rv ws sts ps (n : Int) k < r + (gW ws k).len := HT5.out _ hlt
      go_wp2_with fail
      go_roundw
      case rel => exact ⟨n + 1, by go_num, by omega, by omega, by first | trivial | rfl⟩
      case measure => simp [intOf]; omega
    · have hnP : (n : Int) = P := by omega
      subst hnP
      have hv2 : ¬ (rv ws sts ps (n : Int) k < r + (gW ws k).len) := by omega
      have m0 := SlI.cellG T8.2.1 hp0
      simp only [Nat.add_zero] at m0
      have m6 := T8.2.2.2.1.cell
      have hp0' : (0 : Int) < (sts.length : Int) := by omega
      have hB := T8.1.below
      have hfin : Calls Try.prog 14 #[] wr fun e w' => e = .returned (.bool true) ∧ Below w.heap.size w w' := (awake_c wr).mono fun e w' ⟨he, hb⟩ => ⟨he, hB.trans (hb.mono hB.size)⟩
      have hvc := HV.out
      clear HV
      by_cases ha : ra ≤ (n : Int) - gI sts 0
      · by_cases hb : (n : Int) - gI sts 0 ≤ rb
        · have hv3 : v = 1 ∨ v = 3 := by omega
          clear hvc
          rcases hv3 with rfl | rfl
          · go_wp2_with fail
            refine hfin.mono ?_
            rintro e w20 ⟨rfl, hB2⟩
            go_wp2
            go_ret
            exact ⟨rfl, hB2⟩
          · go_wp2_with fail
            refine hfin.mono ?_
            rintro e w20 ⟨rfl, hB2⟩
            go_wp2
            go_ret
            exact ⟨rfl, hB2⟩
        · have hv3 : v = 2 ∨ v = 3 := by omega
          clear hvc
          rcases hv3 with rfl | rfl
          · go_wp2_with fail
            refine hfin.mono ?_
            rintro e w20 ⟨rfl, hB2⟩
            go_wp2
            go_ret
            exact ⟨rfl, hB2⟩
          · go_wp2_with fail
            refine hfin.mono ?_
            rintro e w20 ⟨rfl, hB2⟩
            go_wp2
            go_ret
            exact ⟨rfl, hB2⟩
      · have hv3 : v = 2 ∨ v = 3 := by omega
        clear hvc
        rcases hv3 with rfl | rfl
        · go_wp2_with fail
          refine hfin.mono ?_
          rintro e w20 ⟨rfl, hB2⟩
          go_wp2
          go_ret
          exact ⟨rfl, hB2⟩
        · go_wp2_with fail
          refine hfin.mono ?_
          rintro e w20 ⟨rfl, hB2⟩
          go_wp2
          go_ret
          exact ⟨rfl, hB2⟩

namespace paradeTime
open Go.ChangeShapes Go.WideShapes Go.ChangeAt Go.RowKit

set_option maxRecDepth 100000 in
theorem lifted (os : Os) (started : os.Started) (H : Type) (enc : TypeId × Value → H) :
    ReturnsInHanded {} Try.checked os 11 .any (Rows.paradeTimeSpec.pre6 enc Try.prog Try.f11 Rows.paradeTimeRow.domain false) (Rows.paradeTimeSpec.post enc Try.prog Try.f11 false true false false) := by
  refine returnsInHanded_of_change (C := Try.checked) prog_own started (by kernel_rfl) Try.func11
    (ChangeSpec.witness6 (enc := enc) (C := Try.checked) false ⟨#[], #[.slice none 0 0], []⟩ 8 (by kernel_rfl) (by kernel_rfl) (by kernel_rfl) (by kernel_rfl)) ?_
  intro W base args ds gs before hval0 hW hcnd _
  have hval : ∀ (j : Nat) t v, Try.f11.params[j]? = some t → args[j]? = some v → Value.okWide Try.prog W .any base t v := hval0
  have hW' := hW
  obtain ⟨p, q, hA0, hV, rfl, hfz, hnd⟩ := hW
  have hA : DataW.TrodAll enc Try.prog W 0 (fun _ => true) true Try.f11.params.toList args.toList ds p := hA0
  rw [Try.params11] at hA hval
  obtain ⟨v0, vs0, d0, ds0, p0, q0, hargs, rfl, rfl, h0, r0⟩ := trodAll_cons hA
  obtain ⟨rfl, rfl, rfl⟩ := trodAll_nil r0
  obtain rfl : args = #[v0] := by cases args; simp_all
  obtain ⟨rfl, rfl⟩ := trodVars_none hV
  obtain ⟨a0, len0, cap0, rfl⟩ := okWide_slice Try.underlying25 (hval 0 25 v0 rfl rfl)
  have k0 := h0
  have lt0 : ∀ x ∈ p0, x.block < W.heap.size := by obtain ⟨m, hm⟩ := k0; exact DataW.trod_lt m _ _ _ hm
  obtain ⟨T, zs, rfl, hs, hm⟩ := ints_sl h0
  clear hA0 hval0
  refine (time_c a0 cap0 T zs W hs hm).mono fun e W' ⟨he, bel⟩ => ?_
  subst he
  exact ⟨_, rfl, _, _, _, [], _, [], hW', trodAll_mk1 (shut_bool Try.underlying4 _), (trodAll_cons_mk (Below.trod prog_laid (by kernel_rfl) (of_decide_eq_true (by kernel_rfl)) k0 bel lt0) trodAll_mk0), rfl, bel.frame _, fun h => by cases h⟩

theorem proved : Rows.ParadeTimeSaid :=
  OpenClaim.holds_of_wide 11 Try.f11 rfl rfl rfl rfl rfl rfl rfl ⟨rfl, rfl, rfl, rfl, rfl⟩ rfl rfl rfl rfl rfl (by kernel_rfl) Try.func11 (by kernel_rfl)
    (of_decide_eq_true (by kernel_rfl)) (by unfold Func.isWrapper; first | (rw [if_pos (by decide +kernel)]; kernel_rfl) | (rw [if_neg (by decide +kernel)]; exact ⟨rfl, rfl⟩))
    (fun os started H enc _ => lifted os started H enc)
end paradeTime
end Go.Proofs.Ytgdalimggamgmaa
