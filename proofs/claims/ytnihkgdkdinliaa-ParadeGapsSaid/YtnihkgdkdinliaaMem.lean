/- Support: what a slice reads as, what a drum's block holds, what is kept from world to world. Own work; imports no translation. -/
import Derived.WalkKit
import Derived.ProofKit
import Derived.Below
import Derived.Lib.Hide
import Derived.Deep.QuietTactic
import Derived.BigQuiet
import Derived.Deep.Draws
namespace Go.Proofs.Ytnihkgdkdinliaa
open Go.RowKit

/-- An int as a Go value. -/
abbrev I (n : Int) : Value := .int .i64 n

/-- A slice's address reads as these cells, in a block of element type T. -/
def Sl (w : World) (T : TypeId) (A : Option Addr) (xs : List Value) : Prop :=
  xs = [] ∨ ∃ b o cs fz, A = some ⟨b, o, none⟩ ∧ w.heap[b]? = some (.cells cs T fz) ∧ ∀ j u, xs[j]? = some u → cs[o + j]? = some u

theorem lt_of_heap {w : World} {b : Nat} {o : Obj} (h : w.heap[b]? = some o) : b < w.heap.size :=
  (Array.getElem?_eq_some_iff.1 h).1

theorem Sl.nil (w : World) (T : TypeId) (A : Option Addr) : Sl w T A [] := .inl rfl

theorem Sl.below {w w' : World} {T : TypeId} {A : Option Addr} {xs : List Value} {B : Nat} (h : Sl w T A xs) (hb : Below B w w') (hB : w.heap.size ≤ B) : Sl w' T A xs := by
  rcases h with h | ⟨b, o, cs, fz, hA, hh, hc⟩
  · exact .inl h
  · exact .inr ⟨b, o, cs, fz, hA, by rw [hb.block b (Nat.lt_of_lt_of_le (lt_of_heap hh) hB)]; exact hh, hc⟩

theorem Sl.drew {w : World} {T : TypeId} {A : Option Addr} {xs : List Value} (h : Sl w T A xs) : Sl w.drew T A xs := h
theorem Sl.drewN {w : World} {T : TypeId} {A : Option Addr} {xs : List Value} (h : Sl w T A xs) (n : Nat) : Sl (w.drewN n) T A xs := h
theorem Sl.alloc {w : World} {T : TypeId} {A : Option Addr} {xs : List Value} (h : Sl w T A xs) (o : Obj) : Sl (w.alloc o) T A xs :=
  h.below ((Below.refl w.heap.size w).alloc (Nat.le_refl _) o) (Nat.le_refl _)

/-- A store into a block of another element type leaves the slice. -/
theorem Sl.setCell {w : World} {T T' : TypeId} {A : Option Addr} {xs : List Value} {p : Addr} {cs : Array Value} {fz : Nat × Nat} (h : Sl w T A xs) (hp : w.heap[p.block]? = some (.cells cs T' fz)) (hne : T ≠ T') (u : Value) : Sl (w.setCell p u) T A xs := by
  rcases h with h | ⟨b, o, cs1, fz1, hA, hh, hc⟩
  · exact .inl h
  · refine .inr ⟨b, o, cs1, fz1, hA, ?_, hc⟩
    rw [Below.heap_setCell]
    · exact hh
    · rintro rfl
      rw [hh] at hp
      injection hp with hp
      injection hp with _ hT
      exact hne hT

/-- A store into a block that was not there leaves the slice. -/
theorem Sl.setNew {w w0 : World} {T : TypeId} {A : Option Addr} {xs : List Value} {p : Addr} (h0 : Sl w0 T A xs) (hp : w0.heap.size ≤ p.block) (hk : ∀ k, k < w0.heap.size → w.heap[k]? = w0.heap[k]?) (u : Value) : Sl (w.setCell p u) T A xs := by
  rcases h0 with h0 | ⟨b, o, cs1, fz1, hA, hh, hc⟩
  · exact .inl h0
  · refine .inr ⟨b, o, cs1, fz1, hA, ?_, hc⟩
    have hlt := lt_of_heap hh
    rw [Below.heap_setCell _ _ _ _ (by omega), hk b hlt]
    exact hh

/-- The cell of the slice's place k. -/
theorem Sl.at_ {w : World} {T : TypeId} {A : Option Addr} {xs : List Value} {k : Nat} (h : Sl w T A xs) (hk : k < xs.length) :
    ∃ b o, A = some ⟨b, o, none⟩ ∧ b < w.heap.size ∧ w.cell? ⟨b, o + k, none⟩ = some xs[k] := by
  rcases h with rfl | ⟨b, o, cs, fz, hA, hh, hc⟩
  · exact absurd hk (by simp)
  · refine ⟨b, o, hA, lt_of_heap hh, ?_⟩
    have := hc k _ (List.getElem?_eq_getElem hk)
    simp [World.cell?, hh, this]

/-- All cells of a slice whose address is known. -/
theorem Sl.cells {w : World} {T : TypeId} {b o : Nat} {xs : List Value} (h : Sl w T (some ⟨b, o, none⟩) xs) {k : Nat} {u : Value} (hk : xs[k]? = some u) : w.cell? ⟨b, o + k, none⟩ = some u := by
  rcases h with rfl | ⟨b', o', cs, fz, hA, hh, hc⟩
  · simp at hk
  · injection hA with hA
    injection hA with hb ho
    subst hb ho
    simp [World.cell?, hh, hc k u hk]

/-- The slice of ints. -/
abbrev SlI (w : World) (T : TypeId) (A : Option Addr) (zs : List Int) : Prop := Sl w T A (zs.map I)

theorem SlI.at_ {w : World} {T : TypeId} {A : Option Addr} {zs : List Int} {k : Nat} (h : SlI w T A zs) (hk : k < zs.length) :
    ∃ b o, A = some ⟨b, o, none⟩ ∧ b < w.heap.size ∧ w.cell? ⟨b, o + k, none⟩ = some (I zs[k]) := by
  obtain ⟨b, o, hA, hlt, hc⟩ := Sl.at_ (k := k) h (by simpa using hk)
  exact ⟨b, o, hA, hlt, by simpa using hc⟩

theorem SlI.cells {w : World} {T : TypeId} {b o : Nat} {zs : List Int} (h : SlI w T (some ⟨b, o, none⟩) zs) {k : Nat} (hk : k < zs.length) : w.cell? ⟨b, o + k, none⟩ = some (I zs[k]) :=
  Sl.cells h (by simp [hk])

/-- A wing as plain data. -/
structure Wg where
  name : ByteArray
  len : Int
  lo : Int
  hi : Int

def Wg.cells (g : Wg) : List Value := [.string g.name, I g.len, I g.lo, I g.hi]
def Wg.val (g : Wg) : Value := .agg #[.string g.name, I g.len, I g.lo, I g.hi]

/-- The slice of wings. -/
abbrev SlW (w : World) (T : TypeId) (A : Option Addr) (ws : List Wg) : Prop := Sl w T A (ws.flatMap Wg.cells)

theorem length_wings (ws : List Wg) : (ws.flatMap Wg.cells).length = 4 * ws.length := by
  induction ws with
  | nil => rfl
  | cons a l ih => simp [Wg.cells, ih]; omega

theorem wing_at (ws : List Wg) (k j : Nat) (hj : j < 4) : (ws.flatMap Wg.cells)[4 * k + j]? = (ws[k]?).bind fun g => g.cells[j]? := by
  induction ws generalizing k with
  | nil => simp
  | cons a l ih =>
    cases k with
    | zero =>
      simp only [List.flatMap_cons, Nat.mul_zero, Nat.zero_add, List.getElem?_cons_zero, Option.bind_some]
      rw [List.getElem?_append_left (by simp [Wg.cells]; omega)]
    | succ k =>
      simp only [List.flatMap_cons, List.getElem?_cons_succ]
      rw [List.getElem?_append_right (by simp [Wg.cells]; omega)]
      have : 4 * (k + 1) + j - a.cells.length = 4 * k + j := by simp [Wg.cells]; omega
      rw [this, ih]

/-- The four cells of wing k. -/
theorem SlW.cells {w : World} {T : TypeId} {b o : Nat} {ws : List Wg} (h : SlW w T (some ⟨b, o, none⟩) ws) {k : Nat} (hk : k < ws.length) :
    w.cell? ⟨b, o + k * 4, none⟩ = some (.string ws[k].name) ∧ w.cell? ⟨b, o + k * 4 + 1, none⟩ = some (I ws[k].len) ∧
    w.cell? ⟨b, o + k * 4 + 2, none⟩ = some (I ws[k].lo) ∧ w.cell? ⟨b, o + k * 4 + 3, none⟩ = some (I ws[k].hi) := by
  have hg : ws[k]? = some ws[k] := List.getElem?_eq_getElem hk
  have e : ∀ j, j < 4 → ∀ u, ws[k].cells[j]? = some u → w.cell? ⟨b, o + (k * 4 + j), none⟩ = some u := by
    intro j hj u hu
    exact Sl.cells h (by rw [Nat.mul_comm k 4, wing_at ws k j hj, hg]; exact hu)
  exact ⟨e 0 (by omega) _ rfl, e 1 (by omega) _ rfl, e 2 (by omega) _ rfl, e 3 (by omega) _ rfl⟩

theorem SlW.some_ {w : World} {T : TypeId} {A : Option Addr} {ws : List Wg} (h : SlW w T A ws) {k : Nat} (hk : k < ws.length) : ∃ b o, A = some ⟨b, o, none⟩ ∧ b < w.heap.size := by
  obtain ⟨b, o, hA, hlt, _⟩ := Sl.at_ (k := 0) h (by rw [length_wings]; omega)
  exact ⟨b, o, hA, hlt⟩

theorem SlI.some_ {w : World} {T : TypeId} {A : Option Addr} {zs : List Int} (h : SlI w T A zs) {k : Nat} (hk : k < zs.length) : ∃ b o, A = some ⟨b, o, none⟩ ∧ b < w.heap.size := by
  obtain ⟨b, o, hA, hlt, _⟩ := h.at_ hk
  exact ⟨b, o, hA, hlt⟩

theorem kp_trans {w w1 w2 : World} {row : Option Nat} (h : w.grownBy w1 row) (k : w1.grownBy w2 row) : w.grownBy w2 row :=
  ⟨k.os.trans h.os, k.tape.trans h.tape, k.output.trans h.output, Nat.le_trans h.size k.size, fun i hi hne => (k.block i (Nat.lt_of_lt_of_le hi h.size) hne).trans (h.block i hi hne)⟩
theorem kp_of_below {w w1 : World} {row : Option Nat} {B : Nat} (h : Below B w w1) (hB : w.heap.size ≤ B) : w.grownBy w1 row :=
  ⟨h.os, h.tape, h.output, h.size, fun i hi _ => h.block i (Nat.lt_of_lt_of_le hi hB)⟩
theorem kp_none {w w1 : World} {row : Option Nat} (h : w.grownBy w1 none) : w.grownBy w1 row := ⟨h.os, h.tape, h.output, h.size, fun k hk _ => h.block k hk (by simp)⟩
theorem kp_drewN {w w1 : World} {row : Option Nat} (h : w.grownBy w1 row) (n : Nat) : w.grownBy (w1.drewN n) row := ⟨h.os, h.tape, h.output, h.size, h.block⟩
theorem kp_drew {w w1 : World} {row : Option Nat} (h : w.grownBy w1 row) : w.grownBy w1.drew row := ⟨h.os, h.tape, h.output, h.size, h.block⟩
theorem kp_alloc {w w1 : World} {row : Option Nat} (h : w.grownBy w1 row) (o : Obj) : w.grownBy (w1.alloc o) row := kp_trans h (World.grownBy_alloc _ _ _)
theorem kp_setCell (w : World) (d : Nat) (o : Nat) (v : Value) : w.grownBy (w.setCell ⟨d, o, none⟩ v) (some d) :=
  ⟨rfl, rfl, rfl, by simp [World.setCell], fun k _ hne => Below.heap_setCell _ _ _ _ (by rintro rfl; exact hne rfl)⟩
theorem kp_setNew {w w1 : World} {row : Option Nat} (h : w.grownBy w1 row) {p : Addr} (hp : w.heap.size ≤ p.block) (v : Value) : w.grownBy (w1.setCell p v) row :=
  ⟨h.os, h.tape, h.output, by simpa [World.setCell] using h.size, fun k hk hne => (Below.heap_setCell _ _ _ _ (by omega)).trans (h.block k hk hne)⟩
theorem below_of_kp {w0 w w1 : World} {d B : Nat} (h : Below B w0 w) (hk : w.grownBy w1 (some d)) (hd : B ≤ d) (hB : B ≤ w.heap.size) : Below B w0 w1 :=
  h.grown hk hB (fun k e => by cases e; exact hd)

theorem below_drewN {B : Nat} {a w : World} (h : Below B a w) (n : Nat) : Below B a (w.drewN n) := ⟨h.os, h.tape, h.output, h.size, h.block⟩

/-- A box is known whole: its cells, none frozen. -/
def Bx (w : World) (k : Nat) (T : TypeId) (cs : Array Value) : Prop := w.heap[k]? = some (.cells cs T (0, 0))
theorem Bx.cell {w : World} {k : Nat} {T : TypeId} {cs : Array Value} (h : Bx w k T cs) : ∀ j, w.cell? ⟨k, j, none⟩ = cs[j]? := by
  intro j; unfold Bx at h; simp [World.cell?, h]
theorem Bx.free {w : World} {k : Nat} {T : TypeId} {cs : Array Value} (h : Bx w k T cs) : ∀ j, w.frozen? ⟨k, j, none⟩ = false := by
  intro j; unfold Bx at h; simp [World.frozen?, h]
theorem Bx.lt {w : World} {k : Nat} {T : TypeId} {cs : Array Value} (h : Bx w k T cs) : k < w.heap.size := lt_of_heap h
theorem Bx.new (w : World) (T : TypeId) (cs : Array Value) : Bx (w.alloc (.cells cs T)) w.heap.size T cs := heap_alloc_new w _
theorem Bx.new' (w : World) (T : TypeId) (cs : Array Value) (k : Nat) (h : k = w.heap.size) : Bx (w.alloc (.cells cs T)) k T cs := by subst h; exact Bx.new w T cs
theorem Bx.alloc {w : World} {k : Nat} {T : TypeId} {cs : Array Value} (h : Bx w k T cs) (o : Obj) : Bx (w.alloc o) k T cs := (Below.heap_alloc w o k h.lt).trans h
theorem Bx.kp {w w' : World} {k d : Nat} {T : TypeId} {cs : Array Value} (h : Bx w k T cs) (hk : w.grownBy w' (some d)) (hne : k ≠ d) : Bx w' k T cs :=
  (hk.block k h.lt (fun e => hne (by injection e))).trans h
theorem Bx.below {w w' : World} {k B : Nat} {T : TypeId} {cs : Array Value} (h : Bx w k T cs) (hb : Below B w w') (hk : k < B) : Bx w' k T cs := (hb.block k hk).trans h
theorem Bx.drewN {w : World} {k : Nat} {T : TypeId} {cs : Array Value} (h : Bx w k T cs) (n : Nat) : Bx (w.drewN n) k T cs := h
theorem Bx.set_ {w : World} {k : Nat} {T : TypeId} {cs : Array Value} (h : Bx w k T cs) (i : Nat) (u : Value) : Bx (w.setCell ⟨k, i, none⟩ u) k T (cs.setIfInBounds i u) := by
  unfold Bx at h ⊢
  simp [World.setCell, Array.getElem?_modify, h]
theorem Bx.far {w : World} {k : Nat} {T : TypeId} {cs : Array Value} (h : Bx w k T cs) {p : Addr} (hp : k ≠ p.block) (u : Value) : Bx (w.setCell p u) k T cs := (Below.heap_setCell w p u k hp).trans h

theorem Sl.ofBx {w : World} {k : Nat} {T : TypeId} {cs : Array Value} (h : Bx w k T cs) : Sl w T (some ⟨k, 0, none⟩) cs.toList :=
  .inr ⟨k, 0, cs, (0, 0), rfl, h, fun j u hu => by simpa using hu⟩

theorem Bx.grown {w w' : World} {b : Nat} {T : TypeId} {cs : Array Value} {row : Option Nat} (h : Bx w b T cs) (hk : w.grownBy w' row) (hne : some b ≠ row) : Bx w' b T cs := (hk.block b h.lt hne).trans h
theorem Bx.news {w : World} {b : Nat} {T : TypeId} {cs : List Value} (h : Bx w b T cs.toArray) : ∀ j u, cs[j]? = some u → w.cell? ((⟨b, 0, none⟩ : Addr).add j) = some u := by
  intro j u hu
  have : (⟨b, 0, none⟩ : Addr).add j = ⟨b, j, none⟩ := by unfold Addr.add; split <;> simp_all
  rw [this, h.cell]
  simpa using hu
theorem own_ne {w : World} {base : Nat} {e : TypeId} {size n : Nat} {v : Value} {xs : List Value} {b : Nat} {T : TypeId} {cs : Array Value} (h : w.ownsRow base e size v n xs) (hb : Bx w b T cs) (hne : e ≠ T) : some b ≠ v.ownBlock := by
  rcases h.2 with ⟨rfl, _⟩ | ⟨g, cap, cur, rfl, _, hh, _⟩
  · simp [Value.ownBlock]
  · intro he
    have : b = g := by simpa [Value.ownBlock] using he
    subst this
    unfold Bx at hb
    rw [hh] at hb
    injection hb with hb
    injection hb with _ ht
    exact hne ht
theorem kp_own {w w1 w2 : World} {base : Nat} {e : TypeId} {size n : Nat} {v : Value} {xs : List Value} {row : Option Nat} (h : w.grownBy w1 row) (ho : w1.ownsRow base e size v n xs) (hb : w.heap.size ≤ base) (hk : w1.grownBy w2 v.ownBlock) : w.grownBy w2 row :=
  ⟨hk.os.trans h.os, hk.tape.trans h.tape, hk.output.trans h.output, Nat.le_trans h.size hk.size, fun i hi hne => by
    rw [hk.block i (Nat.lt_of_lt_of_le hi h.size) (fun he => by have := (ho.lt i he.symm).1; omega), h.block i hi hne]⟩
theorem below_own {w w1 w2 : World} {base B : Nat} {e : TypeId} {size n : Nat} {v : Value} {xs : List Value} (h : Below B w w1) (ho : w1.ownsRow base e size v n xs) (hb : B ≤ base) (hB : B ≤ w1.heap.size) (hk : w1.grownBy w2 v.ownBlock) : Below B w w2 :=
  h.grown hk hB (fun k hk' => Nat.le_trans hb (ho.lt k hk').1)

theorem Sl.ofOwn {w : World} {base : Nat} {e : TypeId} {size : Nat} {v : Value} {n : Nat} {xs : List Value} (h : w.ownsRow base e size v n xs) : ∃ A c, v = .slice A n c ∧ Sl w e A xs := by
  rcases h.2 with ⟨rfl, rfl⟩ | ⟨g, cap, cur, rfl, _, hg, _, _, _, ht⟩
  · exact ⟨none, 0, rfl, .inl (List.eq_nil_of_length_eq_zero (by simpa using h.1))⟩
  · refine ⟨_, cap, rfl, .inr ⟨g, 0, cur, (0, 0), rfl, hg, fun j u hu => ?_⟩⟩
    rw [← ht, List.getElem?_take] at hu
    split at hu
    · simpa using hu
    · cases hu

theorem Sl.ofOwn2 {w : World} {base : Nat} {e : TypeId} {size : Nat} {v : Value} {n : Nat} {xs : List Value} (h : w.ownsRow base e size v n xs) : ∃ A c, v = .slice A n c ∧ Sl w e A xs ∧ n ≤ c := by
  rcases h.2 with ⟨rfl, rfl⟩ | ⟨g, cap, cur, rfl, hq⟩
  · exact ⟨none, 0, rfl, .inl (List.eq_nil_of_length_eq_zero (by simpa using h.1)), by omega⟩
  · obtain ⟨A, c, e1, e2⟩ := Sl.ofOwn h
    cases e1
    exact ⟨_, _, rfl, e2, by omega⟩

theorem ret_bool {a b : Bool} (h : a = b) : Ending.returned (.bool a) = .returned (.bool b) := by rw [h]
theorem ret_int {a b : Int} (h : a = b) : Ending.returned (I a) = .returned (I b) := by rw [h]

end Go.Proofs.Ytnihkgdkdinliaa
