/- What ParadeChecks asks of the program and of the reference alike; copies in boxes. Own work. -/
import Derived.Test.YtnihkgdkdinliaaCopies
import Derived.Test.YtnihkgdkdinliaaAskB
import Derived.Test.YtnihkgdkdinliaaTrueN
import Derived.Test.YtnihkgdkdinliaaLeast
import Derived.Test.YtnihkgdkdinliaaLong
namespace Go.Proofs.Ytnihkgdkdinliaa
open Go.RowKit Go.ChangeShapes Go.WideShapes Go.ChangeAt Go.Deep Go.Joins
set_option linter.unusedVariables false
set_option linter.unusedSimpArgs false
set_option linter.constructorNameAsVariable false

/-- The least starts that are handed out, and the error. -/
def lsE (r : Int) (ws : List Wg) : Int := if chk r ws ≠ 0 then chk r ws else match lstF ws ws.length [] with | none => 2 | some _ => 0
def lsL (r : Int) (ws : List Wg) : List Int := if chk r ws ≠ 0 then [] else match lstF ws ws.length [] with | none => [] | some l => l
theorem lstF_len (ws : List Wg) : ∀ n acc l, lstF ws n acc = some l → l.length = acc.length + n := by
  intro n
  induction n with
  | zero => intro acc l h; cases h; rfl
  | succ n ih =>
    intro acc l h
    unfold lstF at h
    split at h
    · cases h
    · have := ih _ _ h; simp at this; omega
theorem lsL_len (r : Int) (ws : List Wg) : (lsL r ws).length ≤ ws.length := by
  unfold lsL
  split
  · simp
  · split
    · simp
    · rename_i l h
      have := lstF_len ws _ _ _ h
      simp at this; omega
theorem LeastPost.ls {r : Int} {ws : List Wg} {w w' : World} {e : Ending} (h : LeastPost r ws w e w') :
    ∃ B d, e = .returned (.tuple #[.slice B (lsL r ws).length d, I (lsE r ws)]) ∧ SlI w' 3 B (lsL r ws) ∧ Below w.heap.size w w' := by
  obtain ⟨hb, h⟩ := h
  unfold lsL lsE
  split at h
  · rename_i hc
    rw [if_pos hc, if_pos hc]
    exact ⟨none, 0, h, .inl rfl, hb⟩
  · rename_i hc
    rw [if_neg hc, if_neg hc]
    split at h
    · rename_i hl
      rw [hl]
      exact ⟨none, 0, h, .inl rfl, hb⟩
    · rename_i l hl
      rw [hl]
      obtain ⟨B, d, e1, e2⟩ := h
      exact ⟨B, d, e1, e2, hb⟩

/-- Few wings and starts; a slice without an address is nil. -/
def Qu.few (x : Qu) : Prop := OkS x.A x.ws.length x.c ∧ OkS x.B x.sts.length x.cb ∧ x.ws.length ≤ 15 ∧ x.sts.length ≤ 20
/-- The rows of what is asked. -/
structure CQ (xs : Nat → Qu) (b18 b19 : Nat) (w0 w : World) : Prop where
  t18 : b18 < w.heap.size
  t19 : b19 < w.heap.size
  ok : ∀ j, j < 5 → (xs j).ok w
  few : ∀ j, j < 5 → (xs j).few
  cr : ∀ j, j < 5 → w.cell? ⟨b18, j * 2, none⟩ = some (I (xs j).r)
  cs : ∀ j, j < 5 → w.cell? ⟨b18, j * 2 + 1, none⟩ = some (.slice (xs j).A (xs j).ws.length (xs j).c)
  cl : ∀ j, j < 5 → w.cell? ⟨b19, j, none⟩ = some (.slice (xs j).B (xs j).sts.length (xs j).cb)
  below : Below w0.heap.size w0 w
theorem CQ.grow {xs : Nat → Qu} {b18 b19 : Nat} {w0 w w' : World} (h : CQ xs b18 b19 w0 w) (hb : Below w.heap.size w w') : CQ xs b18 b19 w0 w' :=
  ⟨Nat.lt_of_lt_of_le h.t18 hb.size, Nat.lt_of_lt_of_le h.t19 hb.size, fun j hj => (h.ok j hj).grow hb, h.few,
    fun j hj => (hb.cell (p := ⟨b18, j * 2, none⟩) h.t18).trans (h.cr j hj), fun j hj => (hb.cell (p := ⟨b18, j * 2 + 1, none⟩) h.t18).trans (h.cs j hj), fun j hj => (hb.cell (p := ⟨b19, j, none⟩) h.t19).trans (h.cl j hj), h.below.trans (hb.mono h.below.size)⟩

section
variable {x : Qu} {w : World}
theorem Qu.ok.own (h : x.ok w) (f : x.few) : Calls Try.prog 18 #[.agg #[I x.r, .slice x.A x.ws.length x.c]] w fun e w' => ∃ A' c', e = .returned (.agg #[I x.r, .slice A' x.ws.length c']) ∧ SlW w' 29 A' x.ws ∧ x.ws.length ≤ c' ∧ Below w.heap.size w w' := by
  refine (ownSchool2_c x.r x.A x.c x.ws x.T1 w h.h1 f.1 (by have := f.2.2.1; omega)).mono ?_
  rintro e w' ⟨v, rfl, ho, hb⟩
  obtain ⟨A', c', rfl, h1, h2⟩ := Sl.ofOwn2 ho
  exact ⟨A', c', rfl, h1, h2, hb⟩
theorem Qu.ok.ints (h : x.ok w) (f : x.few) : Calls Try.prog 19 #[.slice x.B x.sts.length x.cb] w fun e w' => ∃ B' c', e = .returned (.slice B' x.sts.length c') ∧ SlI w' 3 B' x.sts ∧ x.sts.length ≤ c' ∧ Below w.heap.size w w' := by
  refine (ints2_c x.B x.cb x.sts x.T2 w h.h2 f.2.1 (by have := f.2.2.2; omega)).mono ?_
  rintro e w' ⟨v, rfl, ho, hb⟩
  obtain ⟨A', c', rfl, h1, h2⟩ := Sl.ofOwn2 ho
  exact ⟨A', c', rfl, h1, h2, hb⟩
end

/-- Block b is a box of a school whose wings are these. -/
def ScB (r : Int) (ws : List Wg) (w : World) (b : Nat) : Prop := ∃ A' c', Bx w b 24 #[I r, .slice A' ws.length c'] ∧ SlW w 29 A' ws ∧ ws.length ≤ c'
def Sc0 (r : Int) (ws : List Wg) (w : World) (b : Nat) : Prop := Bx w b 24 #[I 0, .slice none 0 0] ∨ ScB r ws w b
/-- What was there stays, but for a school's box from n0 on that gets what it is made for. -/
def FC (r : Int) (ws : List Wg) (n0 : Nat) (w w' : World) : Prop :=
  w.heap.size ≤ w'.heap.size ∧ ∀ b, b < w.heap.size → w'.heap[b]? = w.heap[b]? ∨ (n0 ≤ b ∧ Sc0 r ws w b ∧ ScB r ws w' b)
section
variable {r : Int} {ws : List Wg} {n0 : Nat} {w w' : World}
theorem FC.refl (r : Int) (ws : List Wg) (n0 : Nat) (w : World) : FC r ws n0 w w := ⟨Nat.le_refl _, fun _ _ => .inl rfl⟩
theorem FC.below (h : Below w.heap.size w w') : FC r ws n0 w w' := ⟨h.size, fun b hb => .inl (h.block b hb)⟩
theorem Sc0.typ {b : Nat} (h : Sc0 r ws w b) : ∃ cs, Bx w b 24 cs := by
  rcases h with h | ⟨_, _, h, _⟩
  · exact ⟨_, h⟩
  · exact ⟨_, h⟩
/-- A slice of another type stays. -/
theorem Sl.fc {T : TypeId} {A : Option Addr} {xs : List Value} (h : Sl w T A xs) (hT : T ≠ 24) (hf : FC r ws n0 w w') : Sl w' T A xs := by
  rcases h with h | ⟨b, o, cs, fz, hA, hh, hc⟩
  · exact .inl h
  · refine .inr ⟨b, o, cs, fz, hA, ?_, hc⟩
    rcases hf.2 b (lt_of_heap hh) with e | ⟨_, hs, _⟩
    · exact e.trans hh
    · obtain ⟨cs', hs⟩ := hs.typ
      unfold Bx at hs
      rw [hh] at hs
      injection hs with hs
      injection hs with _ ht
      exact absurd ht hT
theorem ScB.lt {b : Nat} (h : ScB r ws w b) : b < w.heap.size := by obtain ⟨_, _, h, _⟩ := h; exact h.lt
theorem ScB.fc {b : Nat} (h : ScB r ws w b) (hf : FC r ws n0 w w') : ScB r ws w' b := by
  rcases hf.2 b h.lt with e | ⟨_, _, hs⟩
  · obtain ⟨A', c', h1, h2, h3⟩ := h
    exact ⟨A', c', e.trans h1, Sl.fc h2 (by decide) hf, h3⟩
  · exact hs
theorem Sc0.fc {b : Nat} (h : Sc0 r ws w b) (hf : FC r ws n0 w w') : Sc0 r ws w' b := by
  rcases h with h | h
  · rcases hf.2 b h.lt with e | ⟨_, _, hs⟩
    · exact .inl (e.trans h)
    · exact .inr hs
  · exact .inr (h.fc hf)
/-- The store. -/
theorem Sc0.put {b : Nat} {A' : Option Addr} {c' : Nat} (h : Sc0 r ws w b) (h2 : SlW w 29 A' ws) (h3 : ws.length ≤ c') :
    ScB r ws ((w.setCell ⟨b, 0, none⟩ (I r)).setCell ⟨b, 1, none⟩ (.slice A' ws.length c')) b := by
  obtain ⟨cs, hb⟩ := h.typ
  obtain ⟨u0, u1, rfl⟩ : ∃ u0 u1, cs = #[u0, u1] := by
    rcases h with h | ⟨_, _, h, _⟩ <;>
    · unfold Bx at h hb
      rw [h] at hb
      injection hb with hb
      injection hb with hb
      exact ⟨_, _, hb.symm⟩
  have hbx := (hb.set_ 0 (I r)).set_ 1 (.slice A' ws.length c')
  have e : ((#[u0, u1] : Array Value).setIfInBounds 0 (I r)).setIfInBounds 1 (.slice A' ws.length c') = #[I r, .slice A' ws.length c'] := rfl
  rw [e] at hbx
  exact ⟨A', c', hbx, (h2.setCell (p := ⟨b, 0, none⟩) hb (by decide) _).setCell (p := ⟨b, 1, none⟩) (hb.set_ 0 (I r)) (by decide) _, h3⟩
theorem FC.put {b : Nat} {A' : Option Addr} {c' : Nat} (hn : n0 ≤ b) (h : Sc0 r ws w b) (h2 : SlW w 29 A' ws) (h3 : ws.length ≤ c') : FC r ws n0 w ((w.setCell ⟨b, 0, none⟩ (I r)).setCell ⟨b, 1, none⟩ (.slice A' ws.length c')) := by
  refine ⟨by simp [World.setCell], fun b' hb' => ?_⟩
  by_cases e : b' = b
  · subst e; exact .inr ⟨hn, h, h.put h2 h3⟩
  · exact .inl ((Below.heap_setCell _ _ _ _ e).trans (Below.heap_setCell _ _ _ _ e))
end
section
variable (R : World → Prop) (r : Int) (ws : List Wg) (n0 : Nat)
def asSc0 : As R (FC r ws n0) := ⟨fun v w => ∃ b, v = .pointer (some ⟨b, 0, none⟩) ∧ n0 ≤ b ∧ Sc0 r ws w b, fun v w w' _ _ hf ⟨b, e, h1, h2⟩ => ⟨b, e, h1, h2.fc hf⟩⟩
def asSc1 : As R (FC r ws n0) := ⟨fun v w => ∃ b, v = .pointer (some ⟨b, 0, none⟩) ∧ n0 ≤ b ∧ ScB r ws w b, fun v w w' _ _ hf ⟨b, e, h1, h2⟩ => ⟨b, e, h1, h2.fc hf⟩⟩
def asOwn : As R (FC r ws n0) := ⟨fun v w => ∃ A' c', v = .agg #[I r, .slice A' ws.length c'] ∧ SlW w 29 A' ws ∧ ws.length ≤ c', fun v w w' _ _ hf ⟨A', c', e, h1, h2⟩ => ⟨A', c', e, Sl.fc h1 (by decide) hf, h2⟩⟩
def asNums (zs : List Int) : As R (FC r ws n0) := ⟨fun v w => ∃ B' c', v = .slice B' zs.length c' ∧ SlI w 3 B' zs ∧ zs.length ≤ c', fun v w w' _ _ hf ⟨A', c', e, h1, h2⟩ => ⟨A', c', e, Sl.fc h1 (by decide) hf, h2⟩⟩
end

/-- A wing is stored. -/
theorem WB.putAll {w : World} {b : Nat} {us : List Wg} (h : WB w b us) {i : Nat} (hi : i < us.length) (g : Wg) :
    WB ((((w.setCell ⟨b, i * 4, none⟩ (.string g.name)).setCell ⟨b, i * 4 + 1, none⟩ (I g.len)).setCell ⟨b, i * 4 + 2, none⟩ (I g.lo)).setCell ⟨b, i * 4 + 3, none⟩ (I g.hi)) b (us.set i g) := by
  obtain ⟨cs, fz, hb, h2, hc⟩ := h
  refine ⟨(((cs.setIfInBounds (i * 4) (.string g.name)).setIfInBounds (i * 4 + 1) (I g.len)).setIfInBounds (i * 4 + 2) (I g.lo)).setIfInBounds (i * 4 + 3) (I g.hi), fz, by simp [World.setCell, Array.getElem?_modify, hb], h2, fun j u hu => ?_⟩
  have hlen : i * 4 + 3 < cs.size := by
    have := hc (4 * i + 3) _ (by rw [wing_at us i 3 (by omega), List.getElem?_eq_getElem hi]; rfl)
    have := (Array.getElem?_eq_some_iff.1 this).1
    omega
  have hj : j < 4 * us.length := by
    have := (List.getElem?_eq_some_iff.1 hu).1
    rw [length_wings] at this
    simpa using this
  obtain ⟨k, m, hm, rfl⟩ : ∃ k m, m < 4 ∧ j = 4 * k + m := ⟨j / 4, j % 4, by omega, by omega⟩
  have hk : k < us.length := by omega
  rw [wing_at _ _ _ hm] at hu
  have hold := hc (4 * k + m)
  rw [wing_at _ _ _ hm, List.getElem?_eq_getElem hk] at hold
  rw [List.getElem?_set] at hu
  simp only [Array.getElem?_setIfInBounds, Array.size_setIfInBounds]
  by_cases e : i = k
  · subst e
    simp only [hi, if_true, Option.bind_some] at hu
    match m, hm with
    | 0, _ => simp [Wg.cells] at hu; subst hu; rw [if_neg (by omega), if_neg (by omega), if_neg (by omega), if_pos (by omega), if_pos (by omega)]
    | 1, _ => simp [Wg.cells] at hu; subst hu; rw [if_neg (by omega), if_neg (by omega), if_pos (by omega), if_pos (by omega)]
    | 2, _ => simp [Wg.cells] at hu; subst hu; rw [if_neg (by omega), if_pos (by omega), if_pos (by omega)]
    | 3, _ => simp [Wg.cells] at hu; subst hu; rw [if_pos (by omega), if_pos (by omega)]
  · rw [if_neg e, List.getElem?_eq_getElem hk] at hu
    rw [if_neg (by omega), if_neg (by omega), if_neg (by omega), if_neg (by omega)]
    exact hold u hu
/-- Wings, one of which is another one. -/
def Spo (w : World) (q : Nat) (ws : List Wg) (g : Wg) : Prop := ∃ i, i < ws.length ∧ WB w q (ws.set i g)

/-- A slice that came in has an address, or is nil. -/
theorem ints_ok {H : Type} {enc : TypeId × Value → H} {W : World} {base : Nat} {held : Bool} {a : Option Addr} {len cap : Nat} {d : DataW H} {p : List MemPlace}
    (h : DataW.Trod enc Try.prog W base (fun _ => true) held 25 (.slice a len cap) d p) : OkS a len cap := by
  obtain ⟨fuel, hf⟩ := h
  rcases open_ints Try.underlying25 Try.underlying3 (by kernel_rfl) hf with ⟨hcs, _⟩ | ⟨x, l, c, zs, hcs, _, hl, _⟩
  · simp [Value.cells] at hcs; intro _; omega
  · simp [Value.cells] at hcs; rintro rfl; simp at hcs
set_option maxRecDepth 100000 in
theorem wings_ok {H : Type} {enc : TypeId × Value → H} {W : World} {base : Nat} {held : Bool} {r0 : Reach} {b0 : Nat} {r : Int} {a : Option Addr} {len cap : Nat} {d : DataW H} {p : List MemPlace}
    (hv : Value.okWide Try.prog W r0 b0 24 (.agg #[I r, .slice a len cap])) (h : DataW.Trod enc Try.prog W base (fun _ => true) held 24 (.agg #[I r, .slice a len cap]) d p) : OkS a len cap := by
  obtain ⟨v0, v1, y0, y1, n, he, _, _, h0, h1⟩ := open_agg2 Try.underlying24 (by kernel_rfl) (by kernel_rfl) hv h
  have e1 : v1 = .slice a len cap := by
    injection he with he
    simp at he
    exact he.2.symm
  subst e1
  rcases open_slice Try.underlying22 h1 with ⟨hcs, _⟩ | ⟨ad, l, c, m, n, D, Pl, hcs, _⟩
  · simp at hcs; intro _; omega
  · simp at hcs; rintro rfl; simp at hcs
set_option maxRecDepth 100000 in
/-- A wing that came in. -/
theorem wing_sl {H : Type} {enc : TypeId × Value → H} {W : World} {base : Nat} {held : Bool} {r0 : Reach} {b0 : Nat} {v : Value} {d : DataW H} {p : List MemPlace}
    (hv : Value.okWide Try.prog W r0 b0 29 v) (h : DataW.Trod enc Try.prog W base (fun _ => true) held 29 v d p) : ∃ g : Wg, v = .agg #[.string g.name, I g.len, I g.lo, I g.hi] ∧ g.name.size ≤ maxLen := by
  obtain ⟨cs, rfl, hsz⟩ := okWide_struct Try.underlying29 hv
  obtain ⟨fuel, hf⟩ := h
  obtain ⟨g, e, hg⟩ := wing_cells hf
  refine ⟨g, ?_, hg⟩
  cases cs
  simp [Value.cells, Wg.cells] at e
  rw [e]
/-- Some bool came back; if it is false, there are at most 15 wings. -/
def LongPost (ws : List Wg) (w : World) (e : Ending) (w' : World) : Prop := ∃ b : Bool, e = .returned (.bool b) ∧ (b = false → ws.length ≤ 15) ∧ Below w.heap.size w w'

set_option maxHeartbeats 1000000 in
theorem long15_c (r : Int) (A : Option Addr) (c : Nat) (ws : List Wg) (T1 : TypeId) (w : World) (h1 : SlW w T1 A ws) (hf : Fit ws) (hl1 : ws.length ≤ maxLen) :
    Calls Try.prog 13 #[.agg #[I r, .slice A ws.length c]] w (LongPost ws w) := by
  unfold maxLen at hl1
  have hb0 := Bx.new w 24 #[I r, .slice A ws.length c]
  have hW0 : Below w.heap.size w (w.alloc (.cells #[I r, .slice A ws.length c] 24)) := (Below.refl _ _).alloc (Nat.le_refl _) _
  have hcb := hb0.cell
  go_enter Try.func13, Try.ntmps13
  go_wp2
  go_loop [3] (fun i => ∃ k : Nat, i = .int .i64 k ∧ k ≤ ws.length) (fun i => ws.length - (intOf i).toNat)
  case atStart => exact ⟨0, rfl, Nat.zero_le _⟩
  case round =>
    obtain ⟨k, rfl, hk⟩ := hrel
    by_cases hlt : k < ws.length
    · obtain ⟨b1, o1, rfl, _⟩ := SlW.some_ h1 hlt
      have hc := (SlW.cellG (h1.below hW0 (Nat.le_refl _)) hlt).1
      have hsz : (gW ws k).name.size ≤ maxLen := hf _ (by rw [gW_lt hlt]; exact List.getElem_mem hlt)
      unfold maxLen at hsz
      go_wp2
      · go_ret
        exact ⟨_, rfl, (fun h => by cases h), hW0⟩
      · go_round
        case rel => exact ⟨k + 1, by go_num, by omega⟩
        case measure => simp [intOf]; omega
    · go_wp2
      go_ret
      exact ⟨_, rfl, (fun h => by have := of_decide_eq_false h; omega), hW0⟩
end Go.Proofs.Ytnihkgdkdinliaa
