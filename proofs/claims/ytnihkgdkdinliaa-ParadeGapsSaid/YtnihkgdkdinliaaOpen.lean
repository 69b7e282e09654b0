/- A school that came in, opened. Own work. -/
import Derived.Test.YtnihkgdkdinliaaLawKitC
import Derived.Deep.Slices
import Derived.Lib.SmallJoins
namespace Go.Proofs.Ytnihkgdkdinliaa
open Go.RowKit Go.ChangeShapes Go.WideShapes Go.ChangeAt Go.Deep Go.Joins
set_option linter.unusedVariables false
set_option linter.unusedSimpArgs false
set_option linter.constructorNameAsVariable false

section
variable {H : Type} {enc : TypeId × Value → H} {W : World} {base : Nat} {spare : Nat → Bool} {held : Bool}

theorem some_of_len {α : Type} {xs : List α} {n i : Nat} (h : xs.length = n) (hi : i < n) : ∃ x, xs[i]? = some x := ⟨xs[i]'(by omega), List.getElem?_eq_getElem (by omega)⟩

set_option maxRecDepth 100000 in
theorem span_cells {n : Nat} {a b : Value} {x : DataW H × List MemPlace} (h : DataW.trod enc Try.prog W base spare held n 27 [a, b] = some x) : ∃ lo hi : Int, a = I lo ∧ b = I hi := by
  obtain ⟨xs, m, _, _, _, hlen, hf⟩ := DataW.trod_struct Try.underlying27 h
  have k : Try.prog.cellsOf 3 = 1 := by kernel_rfl
  obtain ⟨x0, e0⟩ := some_of_len hlen (i := 0) (by decide)
  obtain ⟨x1, e1⟩ := some_of_len hlen (i := 1) (by decide)
  have h0 : DataW.trod enc Try.prog W base spare held m 3 ((([a, b] : List Value).drop 0).take (Try.prog.cellsOf 3)) = xs[0]? := by have := hf 0 _ rfl; exact this
  have h1 : DataW.trod enc Try.prog W base spare held m 3 ((([a, b] : List Value).drop 1).take (Try.prog.cellsOf 3)) = xs[1]? := by have := hf 1 _ rfl; exact this
  rw [e0] at h0
  rw [e1] at h1
  rw [k] at h0 h1
  obtain ⟨lo, hl, _⟩ := DataW.trod_int Try.underlying3 h0
  obtain ⟨hi, hh, _⟩ := DataW.trod_int Try.underlying3 h1
  simp at hl hh
  exact ⟨lo, hi, hl, hh⟩

set_option maxRecDepth 100000 in
theorem wing_cells {n : Nat} {cs : List Value} {x : DataW H × List MemPlace} (h : DataW.trod enc Try.prog W base spare held n 29 cs = some x) : ∃ g : Wg, cs = g.cells ∧ g.name.size ≤ maxLen := by
  obtain ⟨xs, m, _, _, hcl, hlen, hf⟩ := DataW.trod_struct Try.underlying29 h
  have k : Try.prog.cellsOf 3 = 1 := by kernel_rfl
  have ks : Try.prog.cellsOf 9 = 1 := by kernel_rfl
  have kp : Try.prog.cellsOf 27 = 2 := by kernel_rfl
  have kw : Try.prog.cellsOf 29 = 4 := by kernel_rfl
  rw [kw] at hcl
  match cs, hcl with
  | [c0, c1, c2, c3], _ =>
    obtain ⟨x0, e0⟩ := some_of_len hlen (i := 0) (by decide)
    obtain ⟨x1, e1⟩ := some_of_len hlen (i := 1) (by decide)
    obtain ⟨x2, e2⟩ := some_of_len hlen (i := 2) (by decide)
    have h0 : DataW.trod enc Try.prog W base spare held m 9 ((([c0, c1, c2, c3] : List Value).drop 0).take (Try.prog.cellsOf 9)) = xs[0]? := by have := hf 0 _ rfl; exact this
    have h1 : DataW.trod enc Try.prog W base spare held m 3 ((([c0, c1, c2, c3] : List Value).drop 1).take (Try.prog.cellsOf 3)) = xs[1]? := by have := hf 1 _ rfl; exact this
    have h2 : DataW.trod enc Try.prog W base spare held m 27 ((([c0, c1, c2, c3] : List Value).drop 2).take (Try.prog.cellsOf 27)) = xs[2]? := by have := hf 2 _ rfl; exact this
    rw [e0] at h0
    rw [e1] at h1
    rw [e2] at h2
    rw [ks] at h0
    rw [k] at h1
    rw [kp] at h2
    obtain ⟨s, hs, _, hm⟩ := DataW.trod_string Try.underlying9 h0
    obtain ⟨l, hl, _⟩ := DataW.trod_int Try.underlying3 h1
    obtain ⟨lo, hi, e3, e4⟩ := span_cells h2
    simp at hs hl
    subst hs hl e3 e4
    exact ⟨⟨s, l, lo, hi⟩, rfl, hm⟩

set_option maxRecDepth 100000 in
theorem wings_sl {a : Option Addr} {len cap : Nat} {x : DataW H × List MemPlace} {fuel : Nat} (hsp : ∀ b, spare b = true) (h : DataW.trod enc Try.prog W base spare held fuel 22 [.slice a len cap] = some x) :
    ∃ (T : TypeId) (ws : List Wg), len = ws.length ∧ SlW W T a ws ∧ (∀ g ∈ ws, g.name.size ≤ maxLen) ∧ ws.length ≤ maxLen ∧ ws.length ≤ cap := by
  have kw : Try.prog.cellsOf 29 = 4 := by kernel_rfl
  rcases open_slice Try.underlying22 h with ⟨hcs, _⟩ | ⟨ad, l, c, m, n, D, Pl, hcs, hb, hl, hm, hmm, hx, hi⟩
  · simp at hcs
    obtain ⟨rfl, rfl, rfl⟩ := hcs
    exact ⟨0, [], rfl, .inl rfl, by simp, by simp, by simp⟩
  · simp at hcs
    obtain ⟨rfl, rfl, rfl⟩ := hcs
    have hw : ∀ i, i < len → ∃ g : Wg, g.name.size ≤ maxLen ∧ ∀ j u, g.cells[j]? = some u → W.cell? (ad.add (i * 4 + j)) = some u := by
      intro i hil
      obtain ⟨cs, hcells, ht⟩ := hi i (by rw [hmm]; split <;> omega)
      obtain ⟨g, rfl, hg⟩ := wing_cells ht
      rw [kw] at hcells
      obtain ⟨_, hcl, hat⟩ := World.cells?_some hcells
      refine ⟨g, hg, fun j u hu => ?_⟩
      have hj : j < 4 := by
        have := (List.getElem?_eq_some_iff.1 hu).1
        simpa [Wg.cells] using this
      rw [← Go.Deep.add_add, hat j hj, hu]
    have hex : ∀ k, k ≤ len → ∃ ws : List Wg, ws.length = k ∧ (∀ g ∈ ws, g.name.size ≤ maxLen) ∧ ∀ i u, (ws.flatMap Wg.cells)[i]? = some u → W.cell? (ad.add i) = some u := by
      intro k
      induction k with
      | zero => intro _; exact ⟨[], rfl, by simp, by simp⟩
      | succ k ih =>
        intro hk
        obtain ⟨ws, h1, h2, h3⟩ := ih (by omega)
        obtain ⟨g, h4, h5⟩ := hw k (by omega)
        refine ⟨ws ++ [g], by simp [h1], ?_, ?_⟩
        · intro g' hg'
          rcases List.mem_append.1 hg' with h | h
          · exact h2 g' h
          · obtain rfl : g' = g := by simpa using h
            exact h4
        · intro i u hu
          rw [List.flatMap_append] at hu
          by_cases hil : i < (ws.flatMap Wg.cells).length
          · rw [List.getElem?_append_left hil] at hu; exact h3 i u hu
          · rw [List.getElem?_append_right (by omega), length_wings, h1] at hu
            rw [length_wings, h1] at hil
            have := h5 (i - 4 * k) u (by simpa using hu)
            rw [show k * 4 + (i - 4 * k) = i by omega] at this
            exact this
    obtain ⟨ws, h1, h2, h3⟩ := hex len (Nat.le_refl _)
    obtain ⟨T, hT⟩ := sl_of_cells h3
    exact ⟨T, ws, h1.symm, hT, h2, by omega, by omega⟩

set_option maxRecDepth 100000 in
/-- A school that came in. -/
theorem school_sl {r0 : Reach} {b0 : Nat} {v : Value} {d : DataW H} {p : List MemPlace} (hv : Value.okWide Try.prog W r0 b0 24 v) (h : DataW.Trod enc Try.prog W base (fun _ => true) held 24 v d p) :
    ∃ (r : Int) (A : Option Addr) (c : Nat) (T : TypeId) (ws : List Wg), v = .agg #[I r, .slice A ws.length c] ∧ SlW W T A ws ∧ Fit ws ∧ ws.length ≤ maxLen ∧ ws.length ≤ c ∧ (Lit.int .i64 r).wf = true := by
  obtain ⟨v0, v1, y0, y1, n, rfl, _, _, h0, h1⟩ := open_agg2 Try.underlying24 (by kernel_rfl) (by kernel_rfl) hv h
  obtain ⟨r, hr, _, hw⟩ := DataW.trod_int Try.underlying3 h0
  simp at hr
  subst hr
  have hsl : ∃ a len cap, v1 = .slice a len cap := by
    rcases open_slice Try.underlying22 h1 with ⟨hcs, _⟩ | ⟨ad, l, c, m, n, D, Pl, hcs, _⟩
    · simp at hcs; exact ⟨_, _, _, hcs⟩
    · simp at hcs; exact ⟨_, _, _, hcs⟩
  obtain ⟨a, len, cap, rfl⟩ := hsl
  obtain ⟨T, ws, rfl, h2, h3, h4, h5⟩ := wings_sl (fun _ => rfl) h1
  exact ⟨r, a, cap, T, ws, rfl, h2, h3, h4, h5, hw⟩
end

/-- A slice of numbers that came in, and its room. -/
theorem ints_cap {H : Type} {enc : TypeId × Value → H} {W : World} {base : Nat} {held : Bool} {a : Option Addr} {len cap : Nat} {d : DataW H} {p : List MemPlace}
    (h : DataW.Trod enc Try.prog W base (fun _ => true) held 25 (.slice a len cap) d p) : len ≤ cap := by
  obtain ⟨fuel, hf⟩ := h
  rcases open_ints Try.underlying25 Try.underlying3 (by kernel_rfl) hf with ⟨hcs, _⟩ | ⟨x, l, c, zs, hcs, _, hl, _⟩
  · simp [Value.cells] at hcs; omega
  · simp [Value.cells] at hcs; omega
end Go.Proofs.Ytnihkgdkdinliaa
