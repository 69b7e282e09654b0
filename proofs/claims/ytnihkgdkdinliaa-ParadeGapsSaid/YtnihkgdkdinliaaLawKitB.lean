/- The contracts on made schools; stores into boxes. Own work. -/
import Derived.Test.YtnihkgdkdinliaaLawKit
namespace Go.Proofs.Ytnihkgdkdinliaa
open Go.RowKit
set_option linter.unusedVariables false
set_option linter.unusedSimpArgs false

section
variable {r : Int} {c : Nat} {ws : List Wg} {sts : List Int} {cb : Nat} {k : Nat} {t : Int} {A B : Option Addr} {w : World}

theorem LV.where_ (V : LV r c ws sts cb) (h1 : SlW w 29 A ws) (h2 : SlI w 3 B sts) (hk : k < ws.length) (a1 : gI sts k ≤ t) (a2 : t ≤ 100000) :
    Calls Try.prog 30 #[.agg #[I r, .slice A ws.length c], .slice B sts.length cb, I (k : Int), I t] w fun e w' => e = .returned (.tuple #[Sp (front ws sts (los ws) t k) (front ws sts (his ws) t k), I 0]) ∧ Below w.heap.size w w' := by
  have h := where_c r A B c cb ws sts 29 3 w h1 h2 V.fit V.max.1 V.cap V.max.2 V.capb (k : Int) t
  rw [V.mom hk a1 a2, V.whLo hk a1 a2, V.whHi hk a1 a2] at h
  exact h

theorem LV.passes_ (V : LV r c ws sts cb) (h1 : SlW w 29 A ws) (h2 : SlI w 3 B sts) (hk : k < ws.length) (a1 : 0 ≤ t) (a2 : t ≤ 100000) :
    Calls Try.prog 32 #[.agg #[I r, .slice A ws.length c], .slice B sts.length cb, I (k : Int), I t] w fun e w' => e = .returned (.tuple #[Sp (passed ws sts (his ws) k t) (passed ws sts (los ws) k t), I 0]) ∧ Below w.heap.size w w' := by
  have h := passesP_c r A B c cb ws sts 29 3 w h1 h2 V.fit V.max.1 V.cap V.max.2 V.capb (k : Int) t
  rw [V.paE hk a1 a2, V.paLo hk a1 a2, V.paHi hk a1 a2] at h
  exact h

theorem LV.gap_ (V : LV r c ws sts cb) (h1 : SlW w 29 A ws) (h2 : SlI w 3 B sts) (hk : k < ws.length) (h0 : k ≠ 0) (a1 : gI sts k ≤ t) (a2 : t ≤ 100000) :
    Calls Try.prog 40 #[.agg #[I r, .slice A ws.length c], .slice B sts.length cb, I (k : Int), I t] w fun e w' => e = .returned (.tuple #[Sp (gapF ws sts (los ws) (gW ws k).hi t k) (gapF ws sts (his ws) (gW ws k).lo t k), I 0]) ∧ Below w.heap.size w w' := by
  have h := gapP_c r A B c cb ws sts 29 3 w h1 h2 V.fit V.max.1 V.cap V.max.2 V.capb (k : Int) t
  rw [V.gaE hk h0 a1 a2, V.gaLo hk h0 a1 a2, V.gaHi hk h0 a1 a2] at h
  exact h

/-- How late a place of the avenue is passed. -/
theorem LV.pbd (V : LV r c ws sts cb) (hk : k < ws.length) (a1 : 0 ≤ t) (a2 : t ≤ 3000) :
    gI sts k ≤ passed ws sts (his ws) k t ∧ passed ws sts (his ws) k t ≤ passed ws sts (los ws) k t ∧ passed ws sts (los ws) k t ≤ 9300 := by
  have hv := V.val
  have b1 := passed_bd (ws := ws) (sts := sts) (ps := los ws) (S := 5600) (D := 80) (place := t) (i := k) (fun j hj => by
    obtain ⟨_, c1, c2, c3, c4, c5, c6⟩ := V.made.at_ (show j < ws.length by omega)
    have := V.start (show j < ws.length by omega)
    have := (hv.los1 (show j < ws.length by omega)).1
    omega) a1 (by omega)
  have b2 := (passed_self (ws := ws) (sts := sts) (ps := his ws) (i := k) (place := t) fun j hj => by have := hv.los1 (show j < ws.length by omega); omega).1 k (Nat.le_refl _)
  have b3 := passed_more (ws := ws) (sts := sts) (ps := los ws) (ps' := his ws) (i := k) (place := t) fun j hj => by have := hv.los1 (show j < ws.length by omega); omega
  have := V.n2
  omega
end

section
variable {d q : Nat} {r : Int} {A : Option Addr} {c : Nat} {ws : List Wg} {w0 w : World}
/-- A store into another box. -/
theorem LK.set (h : LK d q r A c ws w0 w) {p : Addr} {T : TypeId} {cs : Array Value} (hb : Bx w p.block T cs) (hT : T ≠ 29) (hn : w0.heap.size ≤ p.block) (hd : d ≠ p.block) (hq : q ≠ p.block) (u : Value) : LK d q r A c ws w0 (w.setCell p u) :=
  ⟨h.dr.far hd u, h.box.far hq u, h.wings.setCell hb (fun e => hT e.symm) u, h.below.setCell hn u, h.dn, h.qn⟩
end

section
variable (R : World → Prop) (d : Nat) (hRd : ∀ w, R w → Dr w d)
/-- A new box. -/
def asNew (n0 : Nat) (T : TypeId) (cs : Array Value) (hT : T ≠ 84) : As R (DF d) :=
  ⟨fun v w => ∃ b, v = .pointer (some ⟨b, 0, none⟩) ∧ n0 ≤ b ∧ Bx w b T cs, fun v w w' h _ hk ⟨b, e, hn, hb⟩ => ⟨b, e, hn, bx_last R d hRd hT h hk hb⟩⟩
end
end Go.Proofs.Ytnihkgdkdinliaa
