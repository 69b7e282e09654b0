/- What is asked of the program and of the reference alike: a school, starts and numbers. Own work. -/
import Derived.Test.YtnihkgdkdinliaaLawKitC
import Derived.Test.YtnihkgdkdinliaaLong
import Derived.Test.YtnihkgdkdinliaaOpen
namespace Go.Proofs.Ytnihkgdkdinliaa
open Go.RowKit
set_option linter.unusedVariables false
set_option linter.unusedSimpArgs false

/-- A school and starts, where they lie. -/
structure Qu where
  r : Int
  A : Option Addr
  c : Nat
  ws : List Wg
  T1 : TypeId
  B : Option Addr
  cb : Nat
  sts : List Int
  T2 : TypeId
/-- As a value. -/
def Qu.sv (x : Qu) : Value := .slice x.A x.ws.length x.c
def Qu.lv (x : Qu) : Value := .slice x.B x.sts.length x.cb
structure Qu.ok (x : Qu) (w : World) : Prop where
  h1 : SlW w x.T1 x.A x.ws
  fit : Fit x.ws
  l1 : x.ws.length ≤ maxLen
  c1 : x.ws.length ≤ x.c
  h2 : SlI w x.T2 x.B x.sts
  l2 : x.sts.length ≤ maxLen
  c2 : x.sts.length ≤ x.cb
theorem Qu.ok.grow {x : Qu} {w w' : World} (h : x.ok w) (hb : Below w.heap.size w w') : x.ok w' :=
  ⟨h.h1.below hb (Nat.le_refl _), h.fit, h.l1, h.c1, Sl.below h.h2 hb (Nat.le_refl _), h.l2, h.c2⟩

/-- The rows of what is asked: schools, starts, and rows of numbers. -/
structure QS (x0 x1 : Qu) (b17 b18 : Nat) (ss ls : Array Value) (bs : List (Nat × Array Value)) (w0 w : World) : Prop where
  o0 : x0.ok w
  o1 : x1.ok w
  s : Bx w b17 24 ss
  l : Bx w b18 25 ls
  n : ∀ p ∈ bs, Bx w p.1 3 p.2
  below : Below w0.heap.size w0 w
theorem QS.grow {x0 x1 : Qu} {b17 b18 : Nat} {ss ls : Array Value} {bs : List (Nat × Array Value)} {w0 w w' : World} (h : QS x0 x1 b17 b18 ss ls bs w0 w) (hb : Below w.heap.size w w') : QS x0 x1 b17 b18 ss ls bs w0 w' :=
  ⟨h.o0.grow hb, h.o1.grow hb, h.s.below hb h.s.lt, h.l.below hb h.l.lt, fun p hp => (h.n p hp).below hb (h.n p hp).lt, h.below.trans (hb.mono h.below.size)⟩

/-- What row i asks. -/
structure QF (b17 b18 i : Nat) (x : Qu) (bs : List (Nat × Int)) (w : World) : Prop where
  ok : x.ok w
  t17 : b17 < w.heap.size
  t18 : b18 < w.heap.size
  cr : w.cell? ⟨b17, i * 2, none⟩ = some (I x.r)
  cs : w.cell? ⟨b17, i * 2 + 1, none⟩ = some (.slice x.A x.ws.length x.c)
  cl : w.cell? ⟨b18, i, none⟩ = some (.slice x.B x.sts.length x.cb)
  cn : ∀ p ∈ bs, p.1 < w.heap.size ∧ w.cell? ⟨p.1, i, none⟩ = some (I p.2)
theorem QF.grow {b17 b18 i : Nat} {x : Qu} {bs : List (Nat × Int)} {w w' : World} (h : QF b17 b18 i x bs w) (hb : Below w.heap.size w w') : QF b17 b18 i x bs w' :=
  ⟨h.ok.grow hb, Nat.lt_of_lt_of_le h.t17 hb.size, Nat.lt_of_lt_of_le h.t18 hb.size, (hb.cell (p := ⟨b17, i * 2, none⟩) h.t17).trans h.cr, (hb.cell (p := ⟨b17, i * 2 + 1, none⟩) h.t17).trans h.cs, (hb.cell (p := ⟨b18, i, none⟩) h.t18).trans h.cl,
    fun p hp => ⟨Nat.lt_of_lt_of_le (h.cn p hp).1 hb.size, (hb.cell (p := ⟨p.1, i, none⟩) (h.cn p hp).1).trans (h.cn p hp).2⟩⟩

section
variable {x : Qu} {w : World}
theorem Qu.ok.whereP (h : x.ok w) (wing t : Int) : Calls Try.prog 30 #[.agg #[I x.r, .slice x.A x.ws.length x.c], .slice x.B x.sts.length x.cb, I wing, I t] w fun e w' => e = .returned (.tuple #[Sp (whLo x.r x.ws x.sts wing t) (whHi x.r x.ws x.sts wing t), I (mom x.r x.ws x.sts wing t)]) ∧ Below w.heap.size w w' :=
  where_c x.r x.A x.B x.c x.cb x.ws x.sts x.T1 x.T2 w h.h1 h.h2 h.fit h.l1 h.c1 h.l2 h.c2 wing t
theorem Qu.ok.whereR (h : x.ok w) (wing t : Int) : Calls Try.prog 31 #[.agg #[I x.r, .slice x.A x.ws.length x.c], .slice x.B x.sts.length x.cb, I wing, I t] w fun e w' => e = .returned (.tuple #[Sp (whLo x.r x.ws x.sts wing t) (whHi x.r x.ws x.sts wing t), I (mom x.r x.ws x.sts wing t)]) ∧ Below w.heap.size w w' :=
  whereR_c x.r x.A x.B x.c x.cb x.ws x.sts x.T1 x.T2 w h.h1 h.h2 h.fit h.l1 h.c1 h.l2 h.c2 wing t
theorem Qu.ok.passesP (h : x.ok w) (wing t : Int) : Calls Try.prog 32 #[.agg #[I x.r, .slice x.A x.ws.length x.c], .slice x.B x.sts.length x.cb, I wing, I t] w fun e w' => e = .returned (.tuple #[Sp (paLo x.r x.ws x.sts wing t) (paHi x.r x.ws x.sts wing t), I (paE x.r x.ws x.sts wing t)]) ∧ Below w.heap.size w w' :=
  passesP_c x.r x.A x.B x.c x.cb x.ws x.sts x.T1 x.T2 w h.h1 h.h2 h.fit h.l1 h.c1 h.l2 h.c2 wing t
theorem Qu.ok.passesR (h : x.ok w) (wing t : Int) : Calls Try.prog 33 #[.agg #[I x.r, .slice x.A x.ws.length x.c], .slice x.B x.sts.length x.cb, I wing, I t] w fun e w' => e = .returned (.tuple #[Sp (paLo x.r x.ws x.sts wing t) (paHi x.r x.ws x.sts wing t), I (paE x.r x.ws x.sts wing t)]) ∧ Below w.heap.size w w' :=
  passesR_c x.r x.A x.B x.c x.cb x.ws x.sts x.T1 x.T2 w h.h1 h.h2 h.fit h.l1 h.c1 h.l2 h.c2 wing t
end

section
variable (R : World → Prop) (d : Nat) (hRd : ∀ w, R w → Dr w d)
/-- A row of four numbers, the second of which is any. -/
def asRow4 (a b c : Int) : As R (DF d) :=
  ⟨fun v w => ∃ k y, v = .slice (some ⟨k, 0, none⟩) 4 4 ∧ Bx w k 3 #[I a, I y, I b, I c], fun v w w' h _ hk ⟨k, y, e, hb⟩ => ⟨k, y, e, bx_last R d hRd (by decide) h hk hb⟩⟩
end
end Go.Proofs.Ytnihkgdkdinliaa
