/- The frame of the law FloatBends: from what its function meets, for every list of numbers, to what it says. Own work. -/
import Derived.ProofKit
import Derived.Test.YtncaneioenanjaaRows
import Derived.Test.YtncaneioenanjaaEv
namespace Go.Proofs.Ytncaneioenanjaa
open Go.RowKit Go.ChangeShapes Go.WideShapes Go.ChangeAt
set_option linter.unusedVariables false
set_option linter.unusedSimpArgs false

/-- A list of numbers. -/
def nums (zs : List Int) : AV := .sl (zs.map fun z => .int .i64 z) none
theorem prog_own : ownKnob Try.prog.godebug = none := by kernel_rfl
theorem prog_laid : laidOutB Try.prog = true := by kernel_rfl

namespace floatBends
set_option maxRecDepth 100000 in
theorem lifted (hM : ∀ zs : List Int, (∀ z ∈ zs, (Lit.int .i64 z).wf = true) → zs.length ≤ maxLen → Does Try.prog 7 [nums zs] [] fun v _ => v = .bool true) (os : Os) (started : os.Started) (H : Type) (enc : TypeId × Value → H) :
    ReturnsInHanded {} Try.checked os 7 .any (Rows.floatBendsSpec.pre6 enc Try.prog Try.f7 Rows.floatBendsRow.domain false) (Rows.floatBendsSpec.post enc Try.prog Try.f7 false true false false) := by
  refine returnsInHanded_of_change (C := Try.checked) prog_own started (by kernel_rfl) Try.func7
    (ChangeSpec.witness6 (enc := enc) (C := Try.checked) false ⟨#[], #[.slice none 0 0], []⟩ 8 (by kernel_rfl) (by kernel_rfl) (by kernel_rfl) (by kernel_rfl)) ?_
  intro W base args ds gs before hval0 hW hcnd _
  have hval : ∀ (j : Nat) t v, Try.f7.params[j]? = some t → args[j]? = some v → Value.okWide Try.prog W .any base t v := hval0
  have hW' := hW
  obtain ⟨p, q, hA0, hV, rfl, hfz, hnd⟩ := hW
  have hA : DataW.TrodAll enc Try.prog W 0 (fun _ => true) true Try.f7.params.toList args.toList ds p := hA0
  rw [Try.params7] at hA hval
  obtain ⟨v0, vs0, d0, ds0, p0, q0, hargs, rfl, rfl, h0, r0⟩ := trodAll_cons hA
  obtain ⟨rfl, rfl, rfl⟩ := trodAll_nil r0
  obtain rfl : args = #[v0] := by cases args; simp_all
  obtain ⟨rfl, rfl⟩ := trodVars_none hV
  obtain ⟨a0, len0, cap0, rfl⟩ := okWide_slice Try.underlying22 (hval 0 22 v0 rfl rfl)
  have k0 := h0
  have lt0 : ∀ x ∈ p0, x.block < W.heap.size := by obtain ⟨m, hm⟩ := k0; exact DataW.trod_lt m _ _ _ hm
  obtain ⟨zs, hwf, hlen, hvr⟩ := ints_vr Try.underlying22 Try.underlying3 (by kernel_rfl) h0
  clear hA0 hval0
  refine ((hM zs hwf hlen).law (us := #[.slice a0 len0 cap0]) ⟨rfl, fun i x u hx hu => ?_⟩).mono fun e W' ⟨he, bel⟩ => ?_
  · cases i with
    | zero => simp at hx hu; subst hx; subst hu; exact hvr
    | succ i => simp at hx
  subst he
  exact ⟨_, rfl, _, _, _, [], _, [], hW', trodAll_mk1 (shut_bool Try.underlying4 _), (trodAll_cons_mk (Below.trod prog_laid (by kernel_rfl) (of_decide_eq_true (by kernel_rfl)) k0 bel lt0) trodAll_mk0), rfl, bel.frame _, fun h => by cases h⟩

theorem frame (hM : ∀ zs : List Int, (∀ z ∈ zs, (Lit.int .i64 z).wf = true) → zs.length ≤ maxLen → Does Try.prog 7 [nums zs] [] fun v _ => v = .bool true) : Rows.FloatBendsSaid :=
  OpenClaim.holds_of_wide 7 Try.f7 rfl rfl rfl rfl rfl rfl rfl ⟨rfl, rfl, rfl, rfl, rfl⟩ rfl rfl rfl rfl rfl (by kernel_rfl) Try.func7 (by kernel_rfl)
    (of_decide_eq_true (by kernel_rfl)) (by unfold Func.isWrapper; first | (rw [if_pos (by decide +kernel)]; kernel_rfl) | (rw [if_neg (by decide +kernel)]; exact ⟨rfl, rfl⟩))
    (fun os started H enc _ => lifted hM os started H enc)
end floatBends
end Go.Proofs.Ytncaneioenanjaa
