/- long: whichever it says. Own work. -/
import Derived.Test.YtnihkgdkdinliaaLawKitC
namespace Go.Proofs.Ytnihkgdkdinliaa
open Go.RowKit
set_option linter.unusedVariables false
set_option linter.unusedSimpArgs false

/-- Some bool came back, and nothing that was there has turned. -/
def SomeB (w : World) (e : Ending) (w' : World) : Prop := ∃ b : Bool, e = .returned (.bool b) ∧ Below w.heap.size w w'

set_option maxHeartbeats 1000000 in
theorem long_c (r : Int) (A : Option Addr) (c : Nat) (ws : List Wg) (T1 : TypeId) (w : World) (h1 : SlW w T1 A ws) (hf : Fit ws) (hl1 : ws.length ≤ maxLen) :
    Calls Try.prog 13 #[.agg #[I r, .slice A ws.length c]] w (SomeB w) := by
  unfold maxLen at hl1
  have hb0 := Bx.new w 24 #[I r, .slice A ws.length c]
  have hW0 : Below w.heap.size w (w.alloc (.cells #[I r, .slice A ws.length c] 24)) := (Below.refl _ _).alloc (Nat.le_refl _) _
  have hcb := hb0.cell
  go_enter Try.func13, Try.ntmps13
  go_wp2
  go_loop [3] (fun i => ∃ k : Nat, i = .int .i64 k ∧ k ≤ ws.length) (fun i => ws.length - (intOf i).toNat)
  case atStart => exact ⟨0, rfl, Nat.zero_le _⟩
  case round =>
    obtain ⟨k, rfl, hk⟩ := hrel
    by_cases hlt : k < ws.length
    · obtain ⟨b1, o1, rfl, _⟩ := SlW.some_ h1 hlt
      have hc := (SlW.cellG (h1.below hW0 (Nat.le_refl _)) hlt).1
      have hsz : (gW ws k).name.size ≤ maxLen := hf _ (by rw [gW_lt hlt]; exact List.getElem_mem hlt)
      unfold maxLen at hsz
      go_wp2
      · go_ret
        exact ⟨_, rfl, hW0⟩
      · go_round
        case rel => exact ⟨k + 1, by go_num, by omega⟩
        case measure => simp [intOf]; omega
    · go_wp2
      go_ret
      exact ⟨_, rfl, hW0⟩
end Go.Proofs.Ytnihkgdkdinliaa
