/- Boxes that get what they are made for, of any type; how long the parade lasts. Own work. -/
import Derived.Test.YtnihkgdkdinliaaLawKitC
import Derived.Test.YtnihkgdkdinliaaRulesOf
import Derived.Test.YtnihkgdkdinliaaPacesOf
import Derived.Test.YtnihkgdkdinliaaWalk
namespace Go.Proofs.Ytnihkgdkdinliaa
open Go.RowKit
set_option linter.unusedVariables false
set_option linter.unusedSimpArgs false

/-- Block b is a box of rules, and they are so. -/
def RuB (P : Int → Int → Int → Prop) (w : World) (b : Nat) : Prop := ∃ x y z : Int, P x y z ∧ Bx w b 54 #[I x, I y, I z]
def R0 (P : Int → Int → Int → Prop) (x y z : Int) : Prop := (x = 0 ∧ y = 0 ∧ z = 0) ∨ P x y z
def FR (row : Option Nat) (n0 : Nat) (P : Int → Int → Int → Prop) (w w' : World) : Prop :=
  w.heap.size ≤ w'.heap.size ∧ ∀ b, b < w.heap.size → some b ≠ row → w'.heap[b]? = w.heap[b]? ∨ (n0 ≤ b ∧ RuB (R0 P) w b ∧ RuB P w' b)
theorem FR.refl (row : Option Nat) (n0 : Nat) (P : Int → Int → Int → Prop) (w : World) : FR row n0 P w w := ⟨Nat.le_refl _, fun _ _ _ => .inl rfl⟩
theorem FR.kp {row : Option Nat} {n0 : Nat} {P : Int → Int → Int → Prop} {w w' : World} (h : w.grownBy w' row) : FR row n0 P w w' := ⟨h.size, fun b hb hne => .inl (h.block b hb hne)⟩
theorem FR.below {row : Option Nat} {n0 : Nat} {P : Int → Int → Int → Prop} {w w' : World} (h : Below w.heap.size w w') : FR row n0 P w w' := ⟨h.size, fun b hb _ => .inl (h.block b hb)⟩
theorem RuB.lt {P : Int → Int → Int → Prop} {w : World} {b : Nat} (h : RuB P w b) : b < w.heap.size := by obtain ⟨_, _, _, _, h⟩ := h; exact h.lt
theorem RuB.now {P : Int → Int → Int → Prop} {w : World} {b : Nat} (h : RuB P w b) : RuB (R0 P) w b := by obtain ⟨x, y, z, h1, h2⟩ := h; exact ⟨x, y, z, .inr h1, h2⟩
theorem RuB.fs0 {row : Option Nat} {n0 : Nat} {P : Int → Int → Int → Prop} {w w' : World} {b : Nat} (h : RuB (R0 P) w b) (hb : some b ≠ row) (hf : FR row n0 P w w') : RuB (R0 P) w' b := by
  rcases hf.2 b h.lt hb with e | ⟨_, _, e⟩
  · obtain ⟨x, y, z, h1, h2⟩ := h; exact ⟨x, y, z, h1, e.trans h2⟩
  · exact e.now
theorem RuB.fs1 {row : Option Nat} {n0 : Nat} {P : Int → Int → Int → Prop} {w w' : World} {b : Nat} (h : RuB P w b) (hb : some b ≠ row) (hf : FR row n0 P w w') : RuB P w' b := by
  rcases hf.2 b h.lt hb with e | ⟨_, _, e⟩
  · obtain ⟨x, y, z, h1, h2⟩ := h; exact ⟨x, y, z, h1, e.trans h2⟩
  · exact e
theorem RuB.put {P : Int → Int → Int → Prop} {w : World} {b : Nat} {x y z : Int} (h : RuB (R0 P) w b) (hp : P x y z) : RuB P (((w.setCell ⟨b, 0, none⟩ (I x)).setCell ⟨b, 1, none⟩ (I y)).setCell ⟨b, 2, none⟩ (I z)) b := by
  obtain ⟨x0, y0, z0, _, hb⟩ := h
  exact ⟨x, y, z, hp, ((hb.set_ 0 (I x)).set_ 1 (I y)).set_ 2 (I z)⟩
theorem FR.put {row : Option Nat} {n0 : Nat} {P : Int → Int → Int → Prop} {w : World} {b : Nat} {x y z : Int} (hn : n0 ≤ b) (h : RuB (R0 P) w b) (hp : P x y z) : FR row n0 P w (((w.setCell ⟨b, 0, none⟩ (I x)).setCell ⟨b, 1, none⟩ (I y)).setCell ⟨b, 2, none⟩ (I z)) := by
  refine ⟨by simp [World.setCell], fun b' hb' _ => ?_⟩
  by_cases e : b' = b
  · subst e; exact .inr ⟨hn, h, h.put hp⟩
  · exact .inl (((Below.heap_setCell _ _ _ _ e).trans (Below.heap_setCell _ _ _ _ e)).trans (Below.heap_setCell _ _ _ _ e))
/-- A slice of numbers stays. -/
theorem SlI.fr {d n0 : Nat} {P : Int → Int → Int → Prop} {w w' : World} {B : Option Addr} {zs : List Int} (h : SlI w 3 B zs) (hd : Dr w d) (hf : FR (some d) n0 P w w') : SlI w' 3 B zs := by
  rcases h with h | ⟨b, o, cs, fz, hA, hh, hc⟩
  · exact .inl h
  · refine .inr ⟨b, o, cs, fz, hA, ?_, hc⟩
    have hne : some b ≠ some d := by
      intro e
      injection e with e
      subst e
      obtain ⟨x, hx, _⟩ := hd
      rw [hh] at hx
      injection hx with hx
      injection hx with _ ht
      exact absurd ht (by decide)
    rcases hf.2 b (lt_of_heap hh) hne with e | ⟨_, ⟨x, y, z, _, hb⟩, _⟩
    · exact e.trans hh
    · unfold Bx at hb
      rw [hh] at hb
      injection hb with hb
      injection hb with _ ht
      exact absurd ht (by decide)

section
variable (R : World → Prop) (d : Nat) (hRd : ∀ w, R w → Dr w d) (n0 : Nat) (P : Int → Int → Int → Prop)
def asRu0 : As R (FR (some d) n0 P) :=
  ⟨fun v w => ∃ b, v = .pointer (some ⟨b, 0, none⟩) ∧ n0 ≤ b ∧ some b ≠ some d ∧ RuB (R0 P) w b, fun v w w' _ _ hf ⟨b, e, h1, h2, h3⟩ => ⟨b, e, h1, h2, h3.fs0 h2 hf⟩⟩
def asRu1 : As R (FR (some d) n0 P) :=
  ⟨fun v w => ∃ b, v = .pointer (some ⟨b, 0, none⟩) ∧ n0 ≤ b ∧ some b ≠ some d ∧ RuB P w b, fun v w w' _ _ hf ⟨b, e, h1, h2, h3⟩ => ⟨b, e, h1, h2, h3.fs1 h2 hf⟩⟩
/-- A slice of some numbers, which are so. -/
def asSome (Q : List Int → Nat → Prop) : As R (FR (some d) n0 P) :=
  ⟨fun v w => ∃ B c zs, v = .slice B zs.length c ∧ SlI w 3 B zs ∧ Q zs c, fun v w w' hr _ hf h => by obtain ⟨B, c, zs, e, h1, h2⟩ := h; exact ⟨B, c, zs, e, SlI.fr h1 (hRd w hr) hf, h2⟩⟩
end
theorem RuB.new (P : Int → Int → Int → Prop) (w : World) : RuB (R0 P) (w.alloc (.cells #[I 0, I 0, I 0] 54)) w.heap.size := ⟨0, 0, 0, .inl ⟨rfl, rfl, rfl⟩, Bx.new _ _ _⟩

section
variable {r : Int} {c : Nat} {ws : List Wg} {sts : List Int} {cb : Nat} {A B : Option Addr} {w : World}
theorem LV.lasts_ (V : LV r c ws sts cb) (h1 : SlW w 29 A ws) (h2 : SlI w 3 B sts) {a b g : Int} (hr : rulE a b g = 0) :
    Calls Try.prog 38 #[.agg #[I r, .slice A ws.length c], .slice B sts.length cb, .agg #[I a, I b, I g]] w fun e w' => e = .returned (.tuple #[I (verd a b (lasF r ws sts (his ws)) (lasF r ws sts (los ws))), Sp (lasF r ws sts (his ws)) (lasF r ws sts (los ws)), I 0]) ∧ Below w.heap.size w w' := by
  have h := lastsP_c r A B c cb ws sts 29 3 w h1 h2 V.fit V.max.1 V.cap V.max.2 V.capb a b g
  have e : Go.Proofs.Ytnihkgdkdinliaa.laE r ws sts a b g = 0 := (laE_ok V.ok).trans hr
  unfold laV laLo laHi at h
  rw [if_pos e, if_pos e, if_pos e, e] at h
  exact h
end

/-- True paces lie between both ends, and the parade lasts so long. -/
theorem time_math {r : Int} {c : Nat} {ws : List Wg} {sts ps : List Int} {cb : Nat} (V : LV r c ws sts cb) (hl : ps.length = ws.length) (hp : PcB ws ps ps.length) {k : Nat} (hk : k + 1 = ws.length) :
    passed ws sts (his ws) k (r + (gW ws k).len) ≤ passed ws sts ps k (r + (gW ws k).len) ∧ passed ws sts ps k (r + (gW ws k).len) ≤ passed ws sts (los ws) k (r + (gW ws k).len) ∧ gI sts 0 ≤ passed ws sts (his ws) k (r + (gW ws k).len) ∧ passed ws sts (los ws) k (r + (gW ws k).len) ≤ 9300 ∧
    (∀ t : Int, t < passed ws sts ps k (r + (gW ws k).len) → rv ws sts ps t k < r + (gW ws k).len) ∧ r + (gW ws k).len ≤ rv ws sts ps (passed ws sts ps k (r + (gW ws k).len)) k := by
  have hv := V.val
  have hr1 := V.r1
  have hr2 := V.r2
  obtain ⟨_, m1, m2, _⟩ := V.made.at_ (show k < ws.length by omega)
  have hb := V.pbd (k := k) (by omega) (t := r + (gW ws k).len) (by omega) (by omega)
  have hpp : ∀ j, j ≤ k → gI (los ws) j ≤ gI ps j ∧ gI ps j ≤ gI (his ws) j := fun j hj => by
    have := hp j (by omega)
    rw [gI_los _ _ (by omega), gI_his _ _ (by omega)]
    exact this
  have h1 : ∀ j, j ≤ k → 1 ≤ gI ps j := fun j hj => by have := hpp j hj; have := hv.los1 (show j < ws.length by omega); omega
  have hs := passed_self (ws := ws) (sts := sts) (place := r + (gW ws k).len) h1
  have h0 := hv.sorted (show 0 ≤ k by omega) (show k < ws.length by omega)
  refine ⟨passed_more fun j hj => ⟨h1 j hj, (hpp j hj).2⟩, passed_more fun j hj => ⟨(hv.los1 (by omega)).1, (hpp j hj).1⟩, by omega, hb.2.2, fun t ht => ?_, ?_⟩
  · unfold rv
    split
    · rename_i hst
      exact hv.before (by omega) h1 hst ht
    · omega
  · unfold rv
    rw [if_pos (hs.1 k (Nat.le_refl _))]
    exact hs.2
theorem VSt.smPs {r : Int} {ws : List Wg} {sts ps : List Int} (h : VSt r ws sts) (hl : ps.length = ws.length) (hp : PcB ws ps ps.length) : Sm ws sts ps (ws.length - 1) := by
  have hn := h.n1
  have h8 := h.n2
  have hlen := h.len
  refine ⟨by omega, by omega, by omega, by omega, fun k hk => ?_⟩
  have := hp k (by omega)
  obtain ⟨_, a1, a2, a3, a4, a5, a6, a7⟩ := h.all k (by omega)
  have := h.bd k (by omega)
  omega
end Go.Proofs.Ytnihkgdkdinliaa
