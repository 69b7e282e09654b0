/- The engine, part 19: from what a law's function meets to what the law says: all cells that came in are only read. Own work; imports no translation. -/
import Derived.Test.YtncaneioenanjaaEr
import Derived.OpenShut
import Derived.ShutString
import Derived.ChangeOld
import Derived.ChangeSlices
namespace Go.Proofs.Ytncaneioenanjaa
open Go.RowKit Go.ChangeShapes Go.WideShapes
set_option linter.unusedVariables false
set_option linter.unusedSimpArgs false

/-- All cells are as they are. -/
def Gh.all (W : World) : Gh := ⟨fun _ => none, fun _ _ => none, fun b o => W.cell? ⟨b, o, none⟩⟩
theorem Inv.all (W : World) : Inv (Gh.all W) ⟨[], []⟩ W :=
  ⟨fun b B cs h => by simp [Gh.all] at h, fun t n s0 B s c h => by simp at h, fun b o u h => h, fun b B h => by simp [Gh.all] at h, fun t n v h => by simp [Gh.all] at h,
    fun b b' B h => by simp [Gh.all] at h, fun t t' n n' s0 s0' B s s' c c' h => by simp at h, fun b B t n s0 s c h => by simp [Gh.all] at h⟩
theorem Gro.below {G : Gh} {W W' : World} {G' : Gh} {S' : St} (hG : ∀ B, ¬ Owned G ⟨[], []⟩ B) (h : Gro G ⟨[], []⟩ W G' S' W') : Below W.heap.size W W' :=
  ⟨h.os, h.tape, h.output, h.size, fun k hk => (h.fr k hk (hG k)).1⟩

/-- A function that meets 'true' is a law. -/
theorem Meets.law {P : Program} {f : FuncId} {xs : List AV} {us : Array Value} {W : World} (h : Meets P f xs [] fun v _ => v = .bool true) (hv : VL (Gh.all W) xs us) :
    Calls P f us W fun e W' => e = .returned (.bool true) ∧ Below W.heap.size W W' := by
  obtain ⟨v, c', hc, rfl⟩ := h
  refine (hc.calls (Gh.all W) W us (Inv.all W) hv).mono ?_
  rintro e W' ⟨u, G', bx, lv, rfl, hu, _, hg⟩
  refine ⟨by rw [hu.inv_bool], hg.below fun B => ?_⟩
  rintro (⟨b, hb⟩ | ⟨t, n, s0, s, c, h1, _⟩)
  · simp [Gh.all] at hb
  · simp at h1

/-- A list of numbers that came in. -/
theorem ints_vr {P : Program} {H : Type} {enc : TypeId × Value → H} {W : World} {base : Nat} {held : Bool} {a : Option Addr} {len cap : Nat} {d : DataW H} {p : List MemPlace} {t e : TypeId} (ht : P.underlying t = some (.slice e)) (he : P.underlying e = some (.int .i64)) (hc : P.cellsOf e = 1)
    (h : DataW.Trod enc P W base (fun _ => true) held t (.slice a len cap) d p) : ∃ zs : List Int, (∀ z ∈ zs, (Lit.int .i64 z).wf = true) ∧ zs.length ≤ maxLen ∧ VR (Gh.all W) (.sl (zs.map fun z => .int .i64 z) none) (.slice a len cap) := by
  obtain ⟨fuel, hf⟩ := h
  rcases open_ints ht he hc hf with ⟨hcs, _⟩ | ⟨x, l, c, zs, hcs, _, hl, hm, hz, _, hcell, hwz⟩
  · simp [Value.cells] at hcs
    obtain ⟨rfl, rfl, rfl⟩ := hcs
    exact ⟨[], by simp, by simp, .sl0 _ _⟩
  · simp [Value.cells] at hcs
    obtain ⟨rfl, rfl, rfl⟩ := hcs
    simp at hz
    have hlen : (zs.take len).length = len := by simp; omega
    refine ⟨zs.take len, fun z hz' => hwz z (List.mem_of_mem_take hz'), by rw [hlen]; omega, ?_⟩
    by_cases h0 : len = 0
    · subst h0
      simp only [List.take_zero, List.map_nil]
      exact .sl0 _ _
    · have hx : ∃ b o, x = ⟨b, o, none⟩ := by
        have h1 := hcell 0 (by omega)
        obtain ⟨b, o, sp⟩ := x
        cases sp with
        | none => exact ⟨b, o, rfl⟩
        | some s =>
          exfalso
          unfold World.cell? at h1
          simp only [Addr.add] at h1
          split at h1 <;> simp_all
      obtain ⟨b, o, rfl⟩ := hx
      have hlm : ((zs.take len).map fun z => AV.int .i64 z).length = len := by rw [List.length_map, hlen]
      have hcl : ∀ i, i < len → W.cell? ⟨b, o + i, none⟩ = some (.int .i64 (zs.getD i 0)) := fun i hi => by
        have h1 := hcell i (by omega)
        have ej : ((⟨b, o, none⟩ : Addr).add i) = ⟨b, o + i, none⟩ := by unfold Addr.add; split <;> simp_all
        rw [ej] at h1
        exact h1
      have hel : ∀ (i : Nat) y, ((zs.take len).map fun z => AV.int .i64 z)[i]? = some y → i < len ∧ y = .int .i64 (zs.getD i 0) := fun i y hy => by
        rw [List.getElem?_map, Option.map_eq_some_iff] at hy
        obtain ⟨z, hz1, rfl⟩ := hy
        have hi : i < (zs.take len).length := (List.getElem?_eq_some_iff.1 hz1).1
        rw [hlen] at hi
        refine ⟨hi, ?_⟩
        rw [List.getElem?_take, if_pos hi] at hz1
        rw [List.getD_eq_getElem?_getD, hz1]
        rfl
      have key := VR.sl (G := Gh.all W) ((zs.take len).map fun z => AV.int .i64 z) 1 b o cap (fun j => .int .i64 (zs.getD j 0)) (by rw [hlm]; exact hl) (fun i y hy => by rw [(hel i y hy).2]; rfl)
        (fun i y j x hy hx => by
          obtain ⟨hi, rfl⟩ := hel i y hy
          simp only [AV.cells] at hx
          have hj : j = 0 := by
            have := (List.getElem?_eq_some_iff.1 hx).1
            simp at this; exact this
          subst hj
          simp only [Nat.mul_one, Nat.add_zero]
          exact hcl i hi)
        (fun i y j x hy hx => by
          obtain ⟨hi, rfl⟩ := hel i y hy
          simp only [AV.cells] at hx
          have hj : j = 0 := by
            have := (List.getElem?_eq_some_iff.1 hx).1
            simp at this; exact this
          subst hj
          simp only [List.getElem?_cons_zero, Option.some.injEq] at hx
          subst hx
          simp only [Nat.mul_one, Nat.add_zero]
          exact .int _ _)
      rw [hlm] at key
      exact key
end Go.Proofs.Ytncaneioenanjaa
