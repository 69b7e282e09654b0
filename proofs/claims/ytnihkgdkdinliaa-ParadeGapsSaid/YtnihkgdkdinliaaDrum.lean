/- The drum: its methods return numbers within bounds and change its own block alone. -/
import Derived.Test.YtnihkgdkdinliaaRows
import Derived.Test.YtnihkgdkdinliaaMem
import Derived.OpenShut
namespace Go.Proofs.Ytnihkgdkdinliaa
open Go.RowKit
set_option linter.unusedVariables false

/-- Block d is a drum's. -/
def Dr (w : World) (d : Nat) : Prop := ∃ x : Int, w.heap[d]? = some (.cells #[.int .u64 x] 84 (0, 0)) ∧ (Lit.int .u64 x).wf = true

theorem Dr.lt {w : World} {d : Nat} (h : Dr w d) : d < w.heap.size := by obtain ⟨x, hx, _⟩ := h; exact lt_of_heap hx
theorem Dr.alloc {w : World} {d : Nat} (h : Dr w d) (o : Obj) : Dr (w.alloc o) d := by
  obtain ⟨x, hx, hw⟩ := h
  exact ⟨x, (Below.heap_alloc w o d (lt_of_heap hx)).trans hx, hw⟩
theorem Dr.below {w w' : World} {d B : Nat} (h : Dr w d) (hb : Below B w w') (hB : d < B) : Dr w' d := by
  obtain ⟨x, hx, hw⟩ := h
  exact ⟨x, (hb.block d hB).trans hx, hw⟩
theorem Dr.far {w : World} {d : Nat} (h : Dr w d) {p : Addr} (hp : d ≠ p.block) (u : Value) : Dr (w.setCell p u) d := by
  obtain ⟨x, hx, hw⟩ := h
  exact ⟨x, (Below.heap_setCell w p u d hp).trans hx, hw⟩
theorem Dr.drew {w : World} {d : Nat} (h : Dr w d) : Dr w.drew d := h
theorem Dr.drewN {w : World} {d : Nat} (h : Dr w d) (n : Nat) : Dr (w.drewN n) d := h

/-- A number came back; the drum's block alone has turned. -/
def Rolled (lo hi : Int) (d : Nat) (w : World) (e : Ending) (w' : World) : Prop :=
  ∃ r : Int, e = .returned (I r) ∧ lo ≤ r ∧ r ≤ hi ∧ Dr w' d ∧ w.grownBy w' (some d)

def Hitten (d : Nat) (w : World) (e : Ending) (w' : World) : Prop :=
  ∃ r : Int, e = .returned (.int .u64 r) ∧ 0 ≤ r ∧ r < 18446744073709551616 ∧ Dr w' d ∧ w.grownBy w' (some d)

theorem dr_set {w : World} {d : Nat} {x y : Int} (h : w.heap[d]? = some (.cells #[.int .u64 x] 84 (0, 0))) (hy : (Lit.int .u64 y).wf = true) : Dr (w.setCell ⟨d, 0, none⟩ (.int .u64 y)) d :=
  ⟨y, by simp only [World.setCell, Array.getElem?_modify, h]; rfl, hy⟩

theorem bits_u64 (op : BinOp) (x y : Int) : 0 ≤ bits op .u64 x y ∧ bits op .u64 x y < 18446744073709551616 := by
  have := bounds_u64 (wf_bits op .u64 x y)
  exact ⟨this.1, Int.lt_of_le_of_lt this.2 (by decide)⟩

theorem mod_in (r n : Int) (h0 : 0 ≤ r) (h : 2 ≤ n) (h2 : n ≤ 9223372036854775807) : 0 ≤ wrap64 (r / 2 % n) ∧ wrap64 (r / 2 % n) ≤ n - 1 := by
  have h3 := Int.emod_nonneg (r / 2) (show n ≠ 0 by omega)
  have h4 := Int.emod_lt_of_pos (r / 2) (show 0 < n by omega)
  rw [IntWalk.wrap64_in _ ⟨by omega, by omega⟩]
  omega

set_option maxHeartbeats 400000 in
theorem hit_c (d : Nat) (w : World) (hd : Dr w d) :
    Calls Try.prog 62 #[.pointer (some ⟨d, 0, none⟩)] w (Hitten d w) := by
  obtain ⟨x, hx, hw⟩ := hd
  have hc : w.cell? ⟨d, 0, none⟩ = some (.int .u64 x) := by simp [World.cell?, hx]
  have hf : w.frozen? ⟨d, 0, none⟩ = false := by simp [World.frozen?, hx]
  go_enter Try.func62, Try.ntmps62
  go_wp2
  go_ret
  refine ⟨_, rfl, ?_, ?_, dr_set hx (wf_wrap _ _), kp_setCell _ _ _ _⟩
  · exact (bits_u64 _ _ _).1
  · exact (bits_u64 _ _ _).2

set_option maxHeartbeats 400000 in
theorem roll_c (d : Nat) (n m : Int) (w : World) (hd : Dr w d) (h1 : -9223372036854775808 ≤ n) (h2 : n ≤ 9223372036854775807) (h3 : 0 ≤ m) (h4 : n - 1 ≤ m) :
    Calls Try.prog 29 #[.pointer (some ⟨d, 0, none⟩), I n] w (Rolled 0 m d w) := by
  by_cases hn : n < 2
  · go_enter Try.func29, Try.ntmps29
    go_wp2
    go_ret
    exact ⟨0, rfl, Int.le_refl _, h3, hd, World.grownBy.refl _ _⟩
  · have hn' : 2 ≤ n := by omega
    go_enter Try.func29, Try.ntmps29
    go_wp2_with (go_at_call 62; refine (hit_c _ _ hd).mono ?_; rintro e w1 ⟨r, rfl, hr1, hr2, hd1, hk1⟩)
    go_ret
    have hb := mod_in r n hr1 hn' h2
    exact ⟨_, rfl, hb.1, by omega, hd1, hk1⟩

set_option maxHeartbeats 400000 in
theorem mid_c (d : Nat) (a b m : Int) (w : World) (hd : Dr w d) (h1 : -1152921504606846976 ≤ a) (h2 : a ≤ 1152921504606846976) (h3 : -1152921504606846976 ≤ b) (h4 : b ≤ 1152921504606846976) (h5 : a ≤ m) (h6 : b ≤ m) (h7 : m ≤ 1152921504606846976) :
    Calls Try.prog 45 #[.pointer (some ⟨d, 0, none⟩), I a, I b] w (Rolled a m d w) := by
  go_enter Try.func45, Try.ntmps45
  go_wp2_with (go_at_call 29; refine (roll_c _ _ (m - a) _ hd (by omega) (by omega) (by omega) (by omega)).mono ?_; rintro e w1 ⟨r, rfl, hr1, hr2, hd1, hk1⟩)
  go_ret
  exact ⟨_, rfl, by omega, by omega, hd1, hk1⟩

theorem rare_c (d : Nat) (n : Int) (w : World) (hd : Dr w d) (h1 : -9223372036854775808 ≤ n) (h2 : n ≤ 9223372036854775807) :
    Calls Try.prog 36 #[.pointer (some ⟨d, 0, none⟩), I n] w fun e w' => (∃ t : Bool, e = .returned (.bool t)) ∧ Dr w' d ∧ w.grownBy w' (some d) := by
  go_enter Try.func36, Try.ntmps36
  go_wp2_with (go_at_call 29; refine (roll_c _ _ (max 0 (n - 1)) _ hd h1 h2 (by omega) (by omega)).mono ?_; rintro e w1 ⟨r, rfl, hr1, hr2, hd1, hk1⟩)
  go_ret
  exact ⟨⟨_, rfl⟩, hd1, hk1⟩
end Go.Proofs.Ytnihkgdkdinliaa
