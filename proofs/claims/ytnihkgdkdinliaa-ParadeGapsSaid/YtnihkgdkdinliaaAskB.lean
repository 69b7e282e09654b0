/- What is asked with rules. Own work. -/
import Derived.Test.YtnihkgdkdinliaaAsk
import Derived.Test.YtnihkgdkdinliaaRulesOf
namespace Go.Proofs.Ytnihkgdkdinliaa
open Go.RowKit
set_option linter.unusedVariables false
set_option linter.unusedSimpArgs false

/-- Row i asks with rules. -/
structure QL (b16 b17 b18 i : Nat) (x : Qu) (a b g : Int) (w : World) : Prop where
  f : QF b16 b17 i x [] w
  t : b18 < w.heap.size
  ca : w.cell? ⟨b18, i * 3, none⟩ = some (I a)
  cb : w.cell? ⟨b18, i * 3 + 1, none⟩ = some (I b)
  cg : w.cell? ⟨b18, i * 3 + 2, none⟩ = some (I g)
theorem QL.grow {b16 b17 b18 i : Nat} {x : Qu} {a b g : Int} {w w' : World} (h : QL b16 b17 b18 i x a b g w) (hb : Below w.heap.size w w') : QL b16 b17 b18 i x a b g w' :=
  ⟨h.f.grow hb, Nat.lt_of_lt_of_le h.t hb.size, (hb.cell (p := ⟨b18, i * 3, none⟩) h.t).trans h.ca, (hb.cell (p := ⟨b18, i * 3 + 1, none⟩) h.t).trans h.cb, (hb.cell (p := ⟨b18, i * 3 + 2, none⟩) h.t).trans h.cg⟩

/-- The rows, and rules. -/
structure QT (x0 x1 : Qu) (b16 b17 b18 : Nat) (ss ls rs : Array Value) (w0 w : World) : Prop where
  q : QS x0 x1 b16 b17 ss ls [] w0 w
  r : Bx w b18 54 rs
theorem QT.grow {x0 x1 : Qu} {b16 b17 b18 : Nat} {ss ls rs : Array Value} {w0 w w' : World} (h : QT x0 x1 b16 b17 b18 ss ls rs w0 w) (hb : Below w.heap.size w w') : QT x0 x1 b16 b17 b18 ss ls rs w0 w' := ⟨h.q.grow hb, h.r.below hb h.r.lt⟩

theorem lasts_row {x0 x1 : Qu} {b16 b17 b18 : Nat} {a b g a' b' g' : Int} {w0 w : World} {i : Nat} (hi : i < 3)
    (h : QT x0 x1 b16 b17 b18 #[I x0.r, .slice x0.A x0.ws.length x0.c, I x1.r, .slice x1.A x1.ws.length x1.c, I x1.r, .slice x1.A x1.ws.length x1.c] #[.slice x0.B x0.sts.length x0.cb, .slice x1.B x1.sts.length x1.cb, .slice x1.B x1.sts.length x1.cb] #[I a, I b, I g, I a', I b', I g', I a, I b, I g] w0 w) :
    ∃ (x : Qu) (u v z : Int), QL b16 b17 b18 i x u v z w := by
  have hcs := h.q.s.cell
  have hcl := h.q.l.cell
  have hcr := h.r.cell
  match i, hi with
  | 0, _ => exact ⟨x0, a, b, g, ⟨h.q.o0, h.q.s.lt, h.q.l.lt, hcs 0, hcs 1, hcl 0, by simp⟩, h.r.lt, hcr 0, hcr 1, hcr 2⟩
  | 1, _ => exact ⟨x1, a', b', g', ⟨h.q.o1, h.q.s.lt, h.q.l.lt, hcs 2, hcs 3, hcl 1, by simp⟩, h.r.lt, hcr 3, hcr 4, hcr 5⟩
  | 2, _ => exact ⟨x1, a, b, g, ⟨h.q.o1, h.q.s.lt, h.q.l.lt, hcs 4, hcs 5, hcl 2, by simp⟩, h.r.lt, hcr 6, hcr 7, hcr 8⟩

section
variable {x : Qu} {w : World}
theorem Qu.ok.lastsP (h : x.ok w) (a b g : Int) : Calls Try.prog 38 #[.agg #[I x.r, .slice x.A x.ws.length x.c], .slice x.B x.sts.length x.cb, .agg #[I a, I b, I g]] w fun e w' => e = .returned (.tuple #[I (laV x.r x.ws x.sts a b g), Sp (laLo x.r x.ws x.sts a b g) (laHi x.r x.ws x.sts a b g), I (laE x.r x.ws x.sts a b g)]) ∧ Below w.heap.size w w' :=
  lastsP_c x.r x.A x.B x.c x.cb x.ws x.sts x.T1 x.T2 w h.h1 h.h2 h.fit h.l1 h.c1 h.l2 h.c2 a b g
theorem Qu.ok.lastsR (h : x.ok w) (a b g : Int) : Calls Try.prog 35 #[.agg #[I x.r, .slice x.A x.ws.length x.c], .slice x.B x.sts.length x.cb, .agg #[I a, I b, I g]] w fun e w' => e = .returned (.tuple #[I (laV x.r x.ws x.sts a b g), Sp (laLo x.r x.ws x.sts a b g) (laHi x.r x.ws x.sts a b g), I (laE x.r x.ws x.sts a b g)]) ∧ Below w.heap.size w w' :=
  lastsR_c x.r x.A x.B x.c x.cb x.ws x.sts x.T1 x.T2 w h.h1 h.h2 h.fit h.l1 h.c1 h.l2 h.c2 a b g
end

/-- Numbers lie between some. -/
theorem some_bounds (zs : List Int) : ∃ lo hi : Int, ∀ z ∈ zs, lo ≤ z ∧ z ≤ hi := by
  induction zs with
  | nil => exact ⟨0, 0, by simp⟩
  | cons z l ih =>
    obtain ⟨lo, hi, h⟩ := ih
    refine ⟨min lo z, max hi z, fun y hy => ?_⟩
    rcases List.mem_cons.1 hy with rfl | hy
    · omega
    · have := h y hy; omega
/-- Any of four numbers, whichever. -/
theorem any4_c (d : Nat) (b : Nat) (x y z u : Int) (w : World) (hd : Dr w d) (hb : Bx w b 3 #[I x, I y, I z, I u]) :
    Calls Try.prog 37 #[.pointer (some ⟨d, 0, none⟩), .slice (some ⟨b, 0, none⟩) 4 4] w fun e w' => (∃ v : Int, e = .returned (I v)) ∧ Dr w' d ∧ w.grownBy w' (some d) := by
  obtain ⟨lo, hi, h⟩ := some_bounds [x, y, z, u]
  exact (any_c d _ 4 3 [x, y, z, u] lo hi _ hd (Sl.ofBx hb) (by decide) (by simp) (by simp) h).mono fun e w' ⟨v, he, _, _, h1, h2⟩ => ⟨⟨v, he⟩, h1, h2⟩

section
variable (R : World → Prop) (d : Nat) (hRd : ∀ w, R w → Dr w d)
/-- A row of any four numbers. -/
def asFour : As R (DF d) :=
  ⟨fun v w => ∃ k x y z u, v = .slice (some ⟨k, 0, none⟩) 4 4 ∧ Bx w k 3 #[I x, I y, I z, I u], fun v w w' h _ hk ⟨k, x, y, z, u, e, hb⟩ => ⟨k, x, y, z, u, e, bx_last R d hRd (by decide) h hk hb⟩⟩
end
/-- A literal slice, where only blocks are made. -/
def asLit (R : World → Prop) (T : TypeId) (cs : Array Value) (n m : Nat) : As R FB :=
  ⟨fun v w => ∃ b, v = .slice (some ⟨b, 0, none⟩) n m ∧ Bx w b T cs, fun v w w' _ _ hk ⟨b, e, hb⟩ => ⟨b, e, hb.below hk hb.lt⟩⟩
end Go.Proofs.Ytnihkgdkdinliaa
