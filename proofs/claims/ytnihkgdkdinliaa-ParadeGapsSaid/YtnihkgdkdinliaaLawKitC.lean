/- Regions in which a span is put into a new box. Own work. -/
import Derived.Test.YtnihkgdkdinliaaLawKitB
import Derived.Test.YtnihkgdkdinliaaRegionD
namespace Go.Proofs.Ytnihkgdkdinliaa
open Go.RowKit
set_option linter.unusedVariables false
set_option linter.unusedSimpArgs false

/-- Block b is a span's box, and its ends are so. -/
def SpB (P : Int → Int → Prop) (w : World) (b : Nat) : Prop := ∃ x y : Int, P x y ∧ Bx w b 27 #[I x, I y]
/-- So, or not yet. -/
def P0 (P : Int → Int → Prop) (x y : Int) : Prop := (x = 0 ∧ y = 0) ∨ P x y
/-- What was there stays, but for the drum, and for a span's box from n0 on that gets what it is made for. -/
def FS (row : Option Nat) (n0 : Nat) (P : Int → Int → Prop) (w w' : World) : Prop :=
  w.heap.size ≤ w'.heap.size ∧ ∀ b, b < w.heap.size → some b ≠ row → w'.heap[b]? = w.heap[b]? ∨ (n0 ≤ b ∧ SpB (P0 P) w b ∧ SpB P w' b)

theorem FS.refl (row : Option Nat) (n0 : Nat) (P : Int → Int → Prop) (w : World) : FS row n0 P w w := ⟨Nat.le_refl _, fun _ _ _ => .inl rfl⟩
theorem FS.kp {row : Option Nat} {n0 : Nat} {P : Int → Int → Prop} {w w' : World} (h : w.grownBy w' row) : FS row n0 P w w' := ⟨h.size, fun b hb hne => .inl (h.block b hb hne)⟩
theorem FS.below {row : Option Nat} {n0 : Nat} {P : Int → Int → Prop} {w w' : World} (h : Below w.heap.size w w') : FS row n0 P w w' := ⟨h.size, fun b hb _ => .inl (h.block b hb)⟩
theorem SpB.lt {P : Int → Int → Prop} {w : World} {b : Nat} (h : SpB P w b) : b < w.heap.size := by obtain ⟨_, _, _, h⟩ := h; exact h.lt
theorem SpB.now {P : Int → Int → Prop} {w : World} {b : Nat} (h : SpB P w b) : SpB (P0 P) w b := by obtain ⟨x, y, h1, h2⟩ := h; exact ⟨x, y, .inr h1, h2⟩
theorem SpB.fs0 {row : Option Nat} {n0 : Nat} {P : Int → Int → Prop} {w w' : World} {b : Nat} (h : SpB (P0 P) w b) (hb : some b ≠ row) (hf : FS row n0 P w w') : SpB (P0 P) w' b := by
  rcases hf.2 b h.lt hb with e | ⟨_, _, e⟩
  · obtain ⟨x, y, h1, h2⟩ := h; exact ⟨x, y, h1, e.trans h2⟩
  · exact e.now
theorem SpB.fs1 {row : Option Nat} {n0 : Nat} {P : Int → Int → Prop} {w w' : World} {b : Nat} (h : SpB P w b) (hb : some b ≠ row) (hf : FS row n0 P w w') : SpB P w' b := by
  rcases hf.2 b h.lt hb with e | ⟨_, _, e⟩
  · obtain ⟨x, y, h1, h2⟩ := h; exact ⟨x, y, h1, e.trans h2⟩
  · exact e
/-- The store. -/
theorem SpB.put {P : Int → Int → Prop} {w : World} {b : Nat} {x y : Int} (h : SpB (P0 P) w b) (hp : P x y) : SpB P ((w.setCell ⟨b, 0, none⟩ (I x)).setCell ⟨b, 1, none⟩ (I y)) b := by
  obtain ⟨x0, y0, _, hb⟩ := h
  exact ⟨x, y, hp, (hb.set_ 0 (I x)).set_ 1 (I y)⟩
theorem FS.put {row : Option Nat} {n0 : Nat} {P : Int → Int → Prop} {w : World} {b : Nat} {x y : Int} (hn : n0 ≤ b) (h : SpB (P0 P) w b) (hp : P x y) : FS row n0 P w ((w.setCell ⟨b, 0, none⟩ (I x)).setCell ⟨b, 1, none⟩ (I y)) := by
  refine ⟨by simp [World.setCell], fun b' hb' _ => ?_⟩
  by_cases e : b' = b
  · subst e; exact .inr ⟨hn, h, h.put hp⟩
  · exact .inl ((Below.heap_setCell _ _ _ _ e).trans (Below.heap_setCell _ _ _ _ e))

section
variable (R : World → Prop) (row : Option Nat) (n0 : Nat) (P : Int → Int → Prop)
def asSp0 : As R (FS row n0 P) :=
  ⟨fun v w => ∃ b, v = .pointer (some ⟨b, 0, none⟩) ∧ n0 ≤ b ∧ some b ≠ row ∧ SpB (P0 P) w b, fun v w w' _ _ hf ⟨b, e, h1, h2, h3⟩ => ⟨b, e, h1, h2, h3.fs0 h2 hf⟩⟩
def asSp1 : As R (FS row n0 P) :=
  ⟨fun v w => ∃ b, v = .pointer (some ⟨b, 0, none⟩) ∧ n0 ≤ b ∧ some b ≠ row ∧ SpB P w b, fun v w w' _ _ hf ⟨b, e, h1, h2, h3⟩ => ⟨b, e, h1, h2, h3.fs1 h2 hf⟩⟩
end
theorem SpB.new (P : Int → Int → Prop) (w : World) : SpB (P0 P) (w.alloc (.cells #[I 0, I 0] 27)) w.heap.size := ⟨0, 0, .inl ⟨rfl, rfl⟩, Bx.new _ _ _⟩
theorem below_put {B : Nat} {a w : World} (h : Below B a w) {b : Nat} (hb : B ≤ b) (u v : Value) : Below B a ((w.setCell ⟨b, 0, none⟩ u).setCell ⟨b, 1, none⟩ v) :=
  (h.setCell (p := ⟨b, 0, none⟩) hb u).setCell (p := ⟨b, 1, none⟩) hb v
end Go.Proofs.Ytnihkgdkdinliaa
