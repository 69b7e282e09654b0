/- Part 6 of what the law needs: own work, put together. -/
import Derived.ProofKit
import Derived.Test.YtjpoganponbdlaaRows
import Derived.Test.YtjpoganponbdlaaFloatBal4
section
namespace Go.Proofs.Ytjpoganponbdlaa
open Go.RowKit
set_option linter.unusedVariables false
set_option linter.unusedSimpArgs false
set_option maxRecDepth 10000
set_option maxHeartbeats 4000000

theorem pwithin_p (N : Nat) (n lo hi : Int) : p_float_within N n lo hi = some (decide (lo ≤ n) && decide (n ≤ hi)) := by
  unfold p_float_within
  by_cases h : n ≥ lo
  · have h' : lo ≤ n := h
    simp [h, h']
  · have h' : ¬ lo ≤ n := h
    simp [h, h']
theorem pwithin_t (N : Nat) (n lo hi : Int) (h1 : lo ≤ n) (h2 : n ≤ hi) : p_float_within N n lo hi = some true := by
  rw [pwithin_p]; simp [h1, h2]
theorem pcheckSpan_t (N : Nat) (x : T_api_Span) (m : Int) (h1 : 0 ≤ x.Lo) (h2 : x.Lo ≤ x.Hi) (h3 : x.Hi ≤ m) : p_float_checkSpan N x m = some 0 := by
  unfold p_float_checkSpan
  rw [letJ_eq, pwithin_t N _ _ _ h1 (by omega), Option.bind_some]
  simp only [Bool.not_true, cond_false]
  rw [pwithin_t N _ _ _ (by omega) h3]
  simp [show ¬ x.Lo > x.Hi by omega]
theorem pcheckLoad_t (N : Nat) (f : T_api_Float) (l : T_api_Load) (h : LdOk f.Front f.Rear l) : p_float_checkLoad N f l = some 0 := by
  obtain ⟨a1, a2, k1, k2, k3, t1, t2, t3, d1, d2, w1, w2, w3⟩ := h
  unfold p_float_checkLoad
  simp only [letJ_eq, pwithin_t N _ _ _ a1 a2, pcheckSpan_t N _ _ k1 k2 k3, pcheckSpan_t N _ _ t1 t2 t3, pwithin_t N _ _ _ d1 d2, pwithin_t N _ _ _ w1 w2, Option.bind_some, Bool.not_true, cond_false, bne_self_eq_false]
  by_cases hw : l.Watts > 0
  · rcases w3 with h0 | h0 | h0
    · omega
    · simp [hw, h0]
    · simp [hw, h0]
  · simp [hw]
theorem pcheckFrame_t (N : Nat) (f : T_api_Float) (h : FlOk f) : p_float_checkFrame N f = some 0 := by
  have := h.f1; have := h.f2; have := h.f3
  unfold p_float_checkFrame
  simp only [letJ_eq, pwithin_t N _ _ _ h.l1 h.l2, pwithin_t N _ _ _ h.w1 h.w2, pwithin_t N _ _ _ h.f1 (show f.Front ≤ f.Length by omega), pwithin_t N _ _ _ (show 0 ≤ f.Rear by omega) h.f3, pwithin_t N _ _ _ h.t1 h.t2, pwithin_t N _ _ _ h.k1 h.k2, pwithin_t N _ _ _ h.m1 h.m2, pwithin_t N _ _ _ h.h1 h.h2, Option.bind_some, Bool.not_true, cond_false, show decide (f.Front ≥ f.Rear) = false from decide_eq_false (by omega)]
theorem pCheck_t (N : Nat) (f : T_api_Float) (h : FlOk f) (hN : 30 < N) : p_float_Check N f = some 0 := by
  have hn := h.n
  unfold p_float_Check
  simp only [letJ_eq, pcheckFrame_t N f h, Option.bind_some, bne_self_eq_false, cond_false, show decide (((f.Loads.length : Nat) : Int) > 20) = false from decide_eq_false (by omega)]
  refine for1 f.Loads _ (some 0) ?_ ?_ N 0 (by omega) (by omega)
  · intro rec
    rw [len_dec, cond_false]
  · intro rec i x hx
    obtain ⟨e1, e2, e3, e4⟩ := lt_dec hx
    rw [e1, cond_true, e2, Option.bind_some, pcheckLoad_t N f x (h.all x e3), Option.bind_some, nat_add1 i (by omega)]
    rfl
def HuOk (h : T_api_Hurdle) : Prop :=
  (h.Kind = 1 ∧ 0 ≤ h.A ∧ h.A < h.B ∧ h.B ≤ 20000) ∨ (h.Kind = 2 ∧ 0 ≤ h.A ∧ h.A ≤ 2000 ∧ h.B = 0) ∨ (h.Kind = 3 ∧ 0 ≤ h.A ∧ h.A ≤ 10000000 ∧ 0 ≤ h.B ∧ h.B ≤ 10000000)
theorem pcheckHurdle_t (N : Nat) (h : T_api_Hurdle) (hh : HuOk h) : p_float_checkHurdle N h = some 0 := by
  unfold p_float_checkHurdle
  rcases hh with ⟨k, a, b, c⟩ | ⟨k, a, b, c⟩ | ⟨k, a, b, c, e⟩
  · rw [k, show ((1 : Int) == 1) = true from rfl, cond_true]
    unfold p_float_checkBend
    simp only [letJ_eq, pwithin_t N _ _ _ a (show h.A ≤ 20000 by omega), pwithin_t N _ _ _ (show 0 ≤ h.B by omega) c, Option.bind_some, Bool.not_true, cond_false, show decide (h.A ≥ h.B) = false from decide_eq_false (by omega)]
  · rw [k, show ((2 : Int) == 1) = false from rfl, cond_false, show ((2 : Int) == 2) = true from rfl, cond_true]
    unfold p_float_checkWire
    simp only [c, pwithin_t N _ _ _ a b, Option.bind_some, Bool.not_true, cond_false, bne_self_eq_false]
  · rw [k, show ((3 : Int) == 1) = false from rfl, cond_false, show ((3 : Int) == 2) = false from rfl, cond_false, show ((3 : Int) == 3) = true from rfl, cond_true]
    unfold p_float_checkBridge
    simp only [letJ_eq, pwithin_t N _ _ _ a b, pwithin_t N _ _ _ c e, Option.bind_some, Bool.not_true, cond_false]
theorem pCheckRoute_t (N : Nat) (hs : List T_api_Hurdle) (hn : hs.length ≤ 40) (hh : ∀ h ∈ hs, HuOk h) (hN : 50 < N) : p_float_CheckRoute N hs = some 0 := by
  unfold p_float_CheckRoute
  simp only [letJ_eq, show decide (((hs.length : Nat) : Int) > 40) = false from decide_eq_false (by omega), cond_false]
  refine for1 hs _ (some 0) ?_ ?_ N 0 (by omega) (by omega)
  · intro rec
    rw [len_dec, cond_false]
  · intro rec i x hx
    obtain ⟨e1, e2, e3, e4⟩ := lt_dec hx
    rw [e1, cond_true, e2, Option.bind_some, pcheckHurdle_t N x (hh x e3), Option.bind_some, nat_add1 i (by omega)]
    rfl
theorem pcheckBoth_t (N : Nat) (f : T_api_Float) (hf : FlOk f) (hs : List T_api_Hurdle) (hn : hs.length ≤ 40) (hh : ∀ h ∈ hs, HuOk h) (hN : 50 < N) : p_float_checkBoth N f hs = some 0 := by
  unfold p_float_checkBoth
  rw [pCheck_t N f hf (by omega), Option.bind_some, pCheckRoute_t N hs hn hh hN]
  rfl
def blF (f : T_api_Float) (p k : Int) : T_api_Float := ⟨f.Length, f.Width, f.Front, f.Rear, f.Turn, f.Kilos, f.Middle, f.High, f.Loads ++ [⟨p, ⟨k, k⟩, ⟨0, 0⟩, 1, 0⟩]⟩
theorem ballasted_p (N : Nat) (f : T_api_Float) (p k : Int) (hn : f.Loads.length ≤ 20) : p_float_ballasted N f p k = some (blF f p k) := by
  unfold p_float_ballasted p_slices_Clone_api_Load_api_Load
  rw [pushI_ok (by simp; omega), Option.bind_some, List.nil_append, pushI_ok (by simp; omega), Option.bind_some]
  rfl
theorem with_p (N : Nat) (f : T_api_Float) (p k : Int) (hn : f.Loads.length ≤ 20) : p_bateriaref02_With N f p k = some (blF f p k) := by
  unfold p_bateriaref02_With
  rw [pushI_ok (by simp; omega), Option.bind_some, List.nil_append, pushI_ok (by simp; omega), Option.bind_some]
  rfl
theorem blF_ok (f : T_api_Float) (h : FlOk f) (hn : f.Loads.length ≤ 19) (p k : Int) (p1 : f.Front ≤ p) (p2 : p ≤ f.Rear) (k1 : 0 ≤ k) (k2 : k ≤ 100000) : FlOk (blF f p k) :=
  ⟨h.l1, h.l2, h.w1, h.w2, h.f1, h.f2, h.f3, h.t1, h.t2, h.k1, h.k2, h.m1, h.m2, h.h1, h.h2, by show (f.Loads ++ [_]).length ≤ 20; simp; omega, by
    intro l hl
    rcases List.mem_append.1 hl with hl | hl
    · exact h.all l hl
    · have : l = ⟨p, ⟨k, k⟩, ⟨0, 0⟩, 1, 0⟩ := by simpa using hl
      subst this
      exact ⟨p1, p2, k1, Int.le_refl _, k2, Int.le_refl _, Int.le_refl _, by show (0 : Int) ≤ 2000; omega, by show (1 : Int) ≤ 1; omega, by show (1 : Int) ≤ 4; omega, Int.le_refl _, by show (0 : Int) ≤ 1000000; omega, .inl rfl⟩⟩
end Go.Proofs.Ytjpoganponbdlaa
end
section
namespace Go.Proofs.Ytjpoganponbdlaa
open Go.RowKit
set_option linter.unusedVariables false
set_option linter.unusedSimpArgs false
set_option maxRecDepth 10000
set_option maxHeartbeats 4000000

theorem sumsB : ∀ (ls : List T_api_Load), (∀ l ∈ ls, 0 ≤ l.Kilos.Lo ∧ l.Kilos.Lo ≤ l.Kilos.Hi ∧ l.Kilos.Hi ≤ 900) → 0 ≤ (ls.map fun l => l.Kilos.Lo).sum ∧ (ls.map fun l => l.Kilos.Lo).sum ≤ (ls.map fun l => l.Kilos.Hi).sum ∧ (ls.map fun l => l.Kilos.Hi).sum ≤ 900 * (ls.length : Int)
  | [], _ => by simp
  | l :: ls, h => by
    have a := h l (by simp)
    have b := sumsB ls fun x hx => h x (by simp [hx])
    simp only [List.map_cons, List.sum_cons, List.length_cons]
    omega
theorem momLB (g : T_api_Load → Int) (p d : Int) : ∀ (ls : List T_api_Load), (∀ l ∈ ls, 0 ≤ g l ∧ g l ≤ 900 ∧ 0 ≤ l.At - p ∧ l.At - p ≤ d) → 0 ≤ momL g p ls ∧ momL g p ls ≤ 900 * d * (ls.length : Int)
  | [], _ => by simp [momL]
  | l :: ls, h => by
    obtain ⟨a, b, c, e⟩ := h l (by simp)
    have i := momLB g p d ls fun x hx => h x (by simp [hx])
    have m := mulB a b c e
    simp only [momL, List.map_cons, List.sum_cons, List.length_cons] at i ⊢
    rw [show ((ls.length + 1 : Nat) : Int) = (ls.length : Int) + 1 from rfl, Int.mul_add, Int.mul_one]
    omega
theorem momRB (g : T_api_Load → Int) (p d : Int) : ∀ (ls : List T_api_Load), (∀ l ∈ ls, 0 ≤ g l ∧ g l ≤ 900 ∧ 0 ≤ p - l.At ∧ p - l.At ≤ d) → 0 ≤ momR g p ls ∧ momR g p ls ≤ 900 * d * (ls.length : Int)
  | [], _ => by simp [momR]
  | l :: ls, h => by
    obtain ⟨a, b, c, e⟩ := h l (by simp)
    have i := momRB g p d ls fun x hx => h x (by simp [hx])
    have m := mulB a b c e
    simp only [momR, List.map_cons, List.sum_cons, List.length_cons] at i ⊢
    rw [show ((ls.length + 1 : Nat) : Int) = (ls.length : Int) + 1 from rfl, Int.mul_add, Int.mul_one]
    omega
theorem momL_le (g k : T_api_Load → Int) (p : Int) : ∀ (ls : List T_api_Load), (∀ l ∈ ls, g l ≤ k l ∧ 0 ≤ l.At - p) → momL g p ls ≤ momL k p ls
  | [], _ => Int.le_refl _
  | l :: ls, h => by
    obtain ⟨a, b⟩ := h l (by simp)
    have i := momL_le g k p ls fun x hx => h x (by simp [hx])
    have m := Int.mul_le_mul_of_nonneg_right a b
    simp only [momL, List.map_cons, List.sum_cons] at i ⊢
    omega
theorem du {a b d : Int} (hd : 0 < d) (h : a ≤ b) : a / d ≤ -(-b / d) := by
  have h1 := Int.ediv_mul_le a (show d ≠ 0 by omega)
  have h2 := Int.ediv_mul_le (-b) (show d ≠ 0 by omega)
  have q : a / d * d ≤ -(-b / d) * d := by
    rw [Int.neg_mul]
    omega
  exact Int.le_of_mul_le_mul_right q hd
section
variable (N : Nat) (hN : 50 < N) (f : T_api_Float) (h : FlMade f 5)
include hN h
theorem total_r : ∃ x, p_bateriaref02_Total N f = some (x, 0) ∧ 0 ≤ x.Lo ∧ x.Lo ≤ x.Hi ∧ x.Hi ≤ 9500 := by
  have hk := h.k; have hk0 := h.ok.k1; have hk1 := h.ok.k2; have hn := h.n
  have hs := sumsB f.Loads fun l hl => ⟨(h.ok.all l hl).k1, (h.ok.all l hl).k2, h.a l hl⟩
  obtain ⟨e1, e2⟩ := truth_p N f h.ok.n (by omega)
  refine ⟨⟨f.Kilos + (los f).sum, f.Kilos + (his f).sum⟩, ?_, ?_, ?_, ?_⟩
  · unfold p_bateriaref02_Total
    rw [rCheck_t N f h.ok (by omega), Option.bind_some, bne_self_eq_false, cond_false, e1, Option.bind_some, weighs_p N f _ 100000 (Int.le_refl _) hk0 hk1 (fun x hx => by
      obtain ⟨l, hl, rfl⟩ := List.mem_map.1 hx
      have a := h.ok.all l hl
      exact ⟨a.k1, Int.le_trans a.k2 a.k3⟩) (by simp [los]; omega) (by omega), Option.bind_some, e2, Option.bind_some, weighs_p N f _ 100000 (Int.le_refl _) hk0 hk1 (fun x hx => by
      obtain ⟨l, hl, rfl⟩ := List.mem_map.1 hx
      have a := h.ok.all l hl
      exact ⟨Int.le_trans a.k1 a.k2, a.k3⟩) (by simp [his]; omega) (by omega), Option.bind_some]
  · show 0 ≤ f.Kilos + (los f).sum
    unfold los; omega
  · show f.Kilos + (los f).sum ≤ f.Kilos + (his f).sum
    unfold los his; omega
  · show f.Kilos + (his f).sum ≤ 9500
    unfold his; omega
theorem height_r : ∃ x, p_bateriaref02_Height N f = some (x, 0) ∧ 0 ≤ x.Lo ∧ x.Lo ≤ x.Hi ∧ x.Hi ≤ 2000 := by
  have hn := h.n
  obtain ⟨e1, e2⟩ := truth_p N f h.ok.n (by omega)
  have b1 := talL_le (tlos f) f.High 2000 h.ok.h2 fun x hx => by
    obtain ⟨l, hl, rfl⟩ := List.mem_map.1 hx
    have a := h.ok.all l hl
    exact Int.le_trans a.t2 a.t3
  have b2 := talL_le (this f) f.High 2000 h.ok.h2 fun x hx => by
    obtain ⟨l, hl, rfl⟩ := List.mem_map.1 hx
    exact (h.ok.all l hl).t3
  have h0 := h.ok.h1
  refine ⟨⟨talL (tlos f) f.High, talL (this f) f.High⟩, ?_, ?_, talL_mono f.Loads _ _ (Int.le_refl _) fun l hl => (h.ok.all l hl).t2, b2.2⟩
  · unfold p_bateriaref02_Height
    rw [rCheck_t N f h.ok (by omega), Option.bind_some, bne_self_eq_false, cond_false, e1, Option.bind_some, tall_p N f _ (by simp [tlos]; omega) (by omega), Option.bind_some, e2, Option.bind_some, tall_p N f _ (by simp [this]; omega) (by omega), Option.bind_some]
  · show 0 ≤ talL (tlos f) f.High
    omega
theorem axles_r : ∃ x y, p_bateriaref02_Axles N f = some (x, y, 0) ∧ -6000000 ≤ y.Lo ∧ y.Lo ≤ y.Hi ∧ y.Hi ≤ 6004500 := by
  have hn := h.n
  have hk := h.k; have hk0 := h.ok.k1; have hl := h.l; have := h.ok.f1; have := h.ok.f2; have := h.ok.f3; have := h.ok.m1; have := h.ok.m2
  obtain ⟨e1, e2⟩ := truth_p N f h.ok.n (by omega)
  have gl : ∀ l ∈ f.Loads, 0 ≤ l.Kilos.Lo ∧ l.Kilos.Lo ≤ 900 ∧ 0 ≤ l.Kilos.Hi ∧ l.Kilos.Hi ≤ 900 ∧ l.Kilos.Lo ≤ l.Kilos.Hi ∧ 0 ≤ l.At - f.Front ∧ l.At - f.Front ≤ f.Rear - f.Front ∧ 0 ≤ f.Rear - l.At ∧ f.Rear - l.At ≤ f.Rear - f.Front := fun l hl => by
    have a := h.ok.all l hl
    have := a.k1; have := a.k2; have := h.a l hl; have := a.a1; have := a.a2
    omega
  have c1 := carries_p N f h.ok (fun l => l.Kilos.Lo) (fun l hl => by have := gl l hl; show 0 ≤ l.Kilos.Lo ∧ l.Kilos.Lo ≤ 100000; omega) (tlos f) (by omega)
  have c2 := carries_p N f h.ok (fun l => l.Kilos.Hi) (fun l hl => by have := gl l hl; show 0 ≤ l.Kilos.Hi ∧ l.Kilos.Hi ≤ 100000; omega) (Go.Proofs.Ytjpoganponbdlaa.this f) (by omega)
  have q1 := mulS (A := 5000) (B := 1200) hk0 hk (show -1200 ≤ f.Rear - f.Middle by omega) (show f.Rear - f.Middle ≤ 1200 by omega)
  have q2 := mulS (A := 5000) (B := 1200) hk0 hk (show -1200 ≤ f.Middle - f.Front by omega) (show f.Middle - f.Front ≤ 1200 by omega)
  have r1 := momRB (fun l => l.Kilos.Lo) f.Rear (f.Rear - f.Front) f.Loads fun l hl => by have := gl l hl; show 0 ≤ l.Kilos.Lo ∧ l.Kilos.Lo ≤ 900 ∧ _; omega
  have r2 := momRB (fun l => l.Kilos.Hi) f.Rear (f.Rear - f.Front) f.Loads fun l hl => by have := gl l hl; show 0 ≤ l.Kilos.Hi ∧ l.Kilos.Hi ≤ 900 ∧ _; omega
  have l1 := momLB (fun l => l.Kilos.Lo) f.Front (f.Rear - f.Front) f.Loads fun l hl => by have := gl l hl; show 0 ≤ l.Kilos.Lo ∧ l.Kilos.Lo ≤ 900 ∧ _; omega
  have l2 := momLB (fun l => l.Kilos.Hi) f.Front (f.Rear - f.Front) f.Loads fun l hl => by have := gl l hl; show 0 ≤ l.Kilos.Hi ∧ l.Kilos.Hi ≤ 900 ∧ _; omega
  have ll := momL_le (fun l => l.Kilos.Lo) (fun l => l.Kilos.Hi) f.Front f.Loads fun l hl => by have := gl l hl; show l.Kilos.Lo ≤ l.Kilos.Hi ∧ _; omega
  have md : 900 * (f.Rear - f.Front) * (f.Loads.length : Int) ≤ 4500 * (f.Rear - f.Front) := by
    have := Int.mul_le_mul_of_nonneg_left hn (show 0 ≤ 900 * (f.Rear - f.Front) by omega)
    omega
  have hw : IntKind.i64.wrap (f.Rear - f.Front) = f.Rear - f.Front := w64 (by omega) (by omega)
  have hd : 0 < f.Rear - f.Front := by omega
  unfold p_bateriaref02_Axles
  rw [rCheck_t N f h.ok (by omega), Option.bind_some, bne_self_eq_false, cond_false, e1, Option.bind_some, show los f = f.Loads.map (fun l => l.Kilos.Lo) from rfl, c1, Option.bind_some, e2, Option.bind_some, show his f = f.Loads.map (fun l => l.Kilos.Hi) from rfl, c2, Option.bind_some, hw]
  dsimp only
  generalize f.Kilos * (f.Rear - f.Middle) = k1 at q1
  generalize f.Kilos * (f.Middle - f.Front) = k2 at q2
  generalize momR (fun l => l.Kilos.Lo) f.Rear f.Loads = a1 at r1
  generalize momR (fun l => l.Kilos.Hi) f.Rear f.Loads = a2 at r2
  generalize momL (fun l => l.Kilos.Lo) f.Front f.Loads = b1 at l1 ll
  generalize momL (fun l => l.Kilos.Hi) f.Front f.Loads = b2 at l2 ll
  generalize hD : f.Rear - f.Front = d at *
  rw [down_p N _ d hd (by omega) (by omega), Option.bind_some, up_p N _ d hd (by omega) (by omega), Option.bind_some, down_p N _ d hd (by omega) (by omega), Option.bind_some, up_p N _ d hd (by omega) (by omega), Option.bind_some]
  refine ⟨_, _, rfl, ?_, du hd (by omega), ?_⟩
  · show -6000000 ≤ (k2 + b1) / d
    exact Int.le_ediv_of_mul_le hd (by omega)
  · show -(-(k2 + b2) / d) ≤ 6004500
    have : -6004500 ≤ -(k2 + b2) / d := Int.le_ediv_of_mul_le hd (by omega)
    omega
end
theorem any4 {r : Int} {a b c d : Int} (h : r ∈ [a, b, c, d]) : r = a ∨ r = b ∨ r = c ∨ r = d := by simpa using h
theorem routeOf_p (N : Nat) (hN : 50 < N) (d : T_bateriakit_Drum) (f : T_api_Float) (h : FlMade f 5) : ∃ hs d', p_bateriakit_RouteOf N d f 3 = some (hs, d') ∧ hs.length ≤ 40 ∧ ∀ x ∈ hs, HuOk x := by
  obtain ⟨x4, e4, a4, b4, c4⟩ := total_r N hN f h
  obtain ⟨x5, y5, e5, a5, b5, c5⟩ := axles_r N hN f h
  obtain ⟨x6, e6, a6, b6, c6⟩ := height_r N hN f h
  unfold p_bateriakit_RouteOf
  rw [e4, Option.bind_some, e5, Option.bind_some, e6, Option.bind_some, show IntKind.i64.wrap (3 + 1) = 4 from rfl]
  obtain ⟨r7, d7, e, a7, c7, b7⟩ := roll_p N d 4 (by omega)
  rw [e, Option.bind_some, letJ_eq]; clear e
  have b7 := b7 (by omega)
  refine loop3_T (fun (x : Option ((List T_api_Hurdle) × T_bateriakit_Drum)) => ∃ hs d', x = some (hs, d') ∧ hs.length ≤ 40 ∧ ∀ x ∈ hs, HuOk x) (fun ls i b => 0 ≤ i ∧ (ls.length : Int) + i ≤ 3 ∧ ∀ l ∈ ls, HuOk l) (fun ls i b => i.toNat) ?_ N [] r7 _ ⟨a7, by simp; omega, by simp⟩ (by omega)
  rintro rec ls i b ⟨hi0, hi1, hall⟩ ih
  by_cases hc : i > 0
  · rw [show decide (i > 0) = true from decide_eq_true hc, cond_true]
    obtain ⟨r20, d20, e, a20, b20, _⟩ := mid_p N ⟨b⟩ 1 3 (by omega) (by omega) (by omega) (by omega)
    rw [e, Option.bind_some]; clear e
    have b20 := b20 (by omega)
    have key : ∀ (b' x y : Int), HuOk ⟨r20, x, y⟩ → ∃ hs d', ((pushI ls ([(⟨r20, x, y⟩ : T_api_Hurdle)] : List T_api_Hurdle)).bind fun l_42 => (rec l_42 (IntKind.i64.wrap (i - 1)) b')) = some (hs, d') ∧ hs.length ≤ 40 ∧ ∀ x ∈ hs, HuOk x := by
      intro b' x y hu
      rw [pushI_ok (by simp; omega), Option.bind_some, w64 (x := i - 1) (by omega) (by omega)]
      refine ih _ _ _ ⟨by omega, by simp; omega, ?_⟩ (by omega)
      intro l hl
      rcases List.mem_append.1 hl with hl | hl
      · exact hall l hl
      · have : l = ⟨r20, x, y⟩ := by simpa using hl
        subst this
        exact hu
    rw [letJ_eq]
    dsimp only
    by_cases h1 : r20 = 1
    · rw [show (r20 == 1) = true by simp [h1], cond_true]
      obtain ⟨r28, d28, e, a28, _, b28⟩ := roll_p N d20 2000 (by omega)
      rw [e, Option.bind_some]; clear e
      have b28 := b28 (by omega)
      obtain ⟨r29, d29, e, m29⟩ := any_p N d28 [0, r28] (by simp) (by simp)
      rw [e, Option.bind_some]; clear e
      have m29 : r29 = 0 ∨ r29 = r28 := by simpa using m29
      obtain ⟨r30, d30, e, m30⟩ := any_p N d29 [300, 2500] (by simp) (by simp)
      rw [e, Option.bind_some]; clear e
      have m30 : r30 = 300 ∨ r30 = 2500 := by simpa using m30
      obtain ⟨r31, d31, e, a31, b31, _⟩ := mid_p N d30 1 r30 (by omega) (by omega) (by omega) (by omega)
      rw [e, Option.bind_some]; clear e
      have b31 := b31 (by omega)
      dsimp only
      rw [w64 (x := r29 + r31) (by omega) (by omega)]
      exact key _ _ _ (.inl ⟨h1, by show 0 ≤ r29; omega, by show r29 < r29 + r31; omega, by show r29 + r31 ≤ 20000; omega⟩)
    · rw [show (r20 == 1) = false by simp [h1], cond_false]
      by_cases h2 : r20 = 2
      · rw [show (r20 == 2) = true by simp [h2], cond_true]
        obtain ⟨r34, d34, e, a34, b34⟩ := of_p N d20 x6 b6 (by omega) (by omega)
        rw [e, Option.bind_some]; clear e
        obtain ⟨r35, d35, e, m35⟩ := any_p N d34 [(-1), 0, 1, 50] (by simp) (by simp)
        rw [e, Option.bind_some]; clear e
        have m35 := any4 m35
        dsimp only
        rw [w64 (x := r34 + r35) (by omega) (by omega)]
        have hx : 0 ≤ (if (if r34 + r35 > 0 then r34 + r35 else 0) < 2000 then (if r34 + r35 > 0 then r34 + r35 else 0) else 2000) ∧ (if (if r34 + r35 > 0 then r34 + r35 else 0) < 2000 then (if r34 + r35 > 0 then r34 + r35 else 0) else 2000) ≤ 2000 := by
          split <;> (try split) <;> omega
        exact key _ _ _ (.inr (.inl ⟨h2, hx.1, hx.2, rfl⟩))
      · rw [show (r20 == 2) = false by simp [h2], cond_false]
        obtain ⟨r36, d36, e, a36, b36⟩ := of_p N d20 x4 b4 (by omega) (by omega)
        rw [e, Option.bind_some]; clear e
        obtain ⟨r37, d37, e, m37⟩ := any_p N d36 [(-1), 0, 1, 300] (by simp) (by simp)
        rw [e, Option.bind_some]; clear e
        have m37 := any4 m37
        obtain ⟨r38, d38, e, a38, b38⟩ := of_p N d37 y5 b5 (by omega) (by omega)
        rw [e, Option.bind_some]; clear e
        obtain ⟨r39, d39, e, m39⟩ := any_p N d38 [(-1), 0, 1] (by simp) (by simp)
        rw [e, Option.bind_some]; clear e
        have m39 : r39 = -1 ∨ r39 = 0 ∨ r39 = 1 := by simpa using m39
        dsimp only
        rw [w64 (x := r38 + r39) (by omega) (by omega)]
        obtain ⟨r40, d40, e, m40⟩ := any_p N d39 [x4.Hi, r38 + r39] (by simp) (by simp)
        rw [e, Option.bind_some]; clear e
        have m40 : r40 = x4.Hi ∨ r40 = r38 + r39 := by simpa using m40
        dsimp only
        rw [w64 (x := r36 + r37) (by omega) (by omega)]
        have hx : 0 ≤ (if r36 + r37 > 0 then r36 + r37 else 0) ∧ (if r36 + r37 > 0 then r36 + r37 else 0) ≤ 10000000 := by split <;> omega
        have hy : 0 ≤ (if r40 > 0 then r40 else 0) ∧ (if r40 > 0 then r40 else 0) ≤ 10000000 := by split <;> omega
        exact key _ _ _ (.inr (.inr ⟨by show r20 = 3; omega, hx.1, hx.2, hy.1, hy.2⟩))
  · rw [show decide (i > 0) = false from decide_eq_false hc, cond_false]
    exact ⟨_, _, rfl, by omega, hall⟩
end Go.Proofs.Ytjpoganponbdlaa
end
section
namespace Go.Proofs.Ytjpoganponbdlaa
open Go.RowKit
set_option linter.unusedVariables false
set_option linter.unusedSimpArgs false
set_option maxRecDepth 10000
set_option maxHeartbeats 4000000

theorem idxI_ok {i : Int} {m : Nat} (h0 : 0 ≤ i) (h1 : i < (m : Int)) : idxI i m = some () := if_pos ⟨h0, h1⟩
structure TrIs (t : T_float_truth) (f : T_api_Float) (g k : T_api_Load → Int) (n : Nat) : Prop where
  e : t.Float = f
  hk : ∀ (j : Nat) (x : T_api_Load), j < n → f.Loads[j]? = some x → t.kilos_.l[j]? = some (g x)
  ht : ∀ (j : Nat) (x : T_api_Load), j < n → f.Loads[j]? = some x → t.tops_.l[j]? = some (k x)
theorem v21_len (x : T_V21_i64) : x.l.length = 21 := rfl
theorem set21 (x : T_V21_i64) (i : Nat) (v : Int) : (T_V21_i64.ofl (x.l.set i v)).l = x.l.set i v := T_V21_i64.l_ofl _ (by rw [List.length_set, v21_len])
theorem TrIs.set {t : T_float_truth} {f : T_api_Float} {g k : T_api_Load → Int} {n : Nat} (h : TrIs t f g k n) (hn : n < 21) (x : T_api_Load) (hx : f.Loads[n]? = some x) : TrIs ⟨t.Float, T_V21_i64.ofl (t.kilos_.l.set n (g x)), T_V21_i64.ofl (t.tops_.l.set n (k x))⟩ f g k (n + 1) := by
  refine ⟨h.e, ?_, ?_⟩
  · intro j y hj hy
    show (T_V21_i64.ofl _).l[j]? = _
    rw [set21]
    by_cases hjn : j = n
    · subst hjn
      rw [hx] at hy
      rw [List.getElem?_set_self (by rw [v21_len]; exact hn), Option.some.inj hy]
    · rw [List.getElem?_set_ne (by omega)]
      exact h.hk j y (by omega) hy
  · intro j y hj hy
    show (T_V21_i64.ofl _).l[j]? = _
    rw [set21]
    by_cases hjn : j = n
    · subst hjn
      rw [hx] at hy
      rw [List.getElem?_set_self (by rw [v21_len]; exact hn), Option.some.inj hy]
    · rw [List.getElem?_set_ne (by omega)]
      exact h.ht j y (by omega) hy
theorem endsOf_p (N : Nat) (f : T_api_Float) (hn : f.Loads.length ≤ 20) (hN : 30 < N) : ∃ z, p_float_endsOf N f = some z ∧ TrIs z.a0 f (fun l => l.Kilos.Lo) (fun l => l.Top.Lo) f.Loads.length ∧ TrIs z.a1 f (fun l => l.Kilos.Hi) (fun l => l.Top.Hi) f.Loads.length := by
  unfold p_float_endsOf
  rw [letJ_eq]
  refine loop2_T (fun (r : Option T_V2_float_truth) => ∃ z, r = some z ∧ TrIs z.a0 f (fun l => l.Kilos.Lo) (fun l => l.Top.Lo) f.Loads.length ∧ TrIs z.a1 f (fun l => l.Kilos.Hi) (fun l => l.Top.Hi) f.Loads.length) (fun i z => ∃ j : Nat, i = (j : Int) ∧ j ≤ f.Loads.length ∧ TrIs z.a0 f (fun l => l.Kilos.Lo) (fun l => l.Top.Lo) j ∧ TrIs z.a1 f (fun l => l.Kilos.Hi) (fun l => l.Top.Hi) j) (fun i z => f.Loads.length - i.toNat) ?_ N 0 _ ⟨0, rfl, by omega, ⟨rfl, fun j x hj => absurd hj (Nat.not_lt_zero _), fun j x hj => absurd hj (Nat.not_lt_zero _)⟩, ⟨rfl, fun j x hj => absurd hj (Nat.not_lt_zero _), fun j x hj => absurd hj (Nat.not_lt_zero _)⟩⟩ (by simp; omega)
  rintro rec i z ⟨j, rfl, hj, h0, h1⟩ ih
  by_cases hlt : j < f.Loads.length
  · have hx : f.Loads[j]? = some f.Loads[j] := List.getElem?_eq_getElem hlt
    obtain ⟨e1, e2, e3, e4⟩ := lt_dec hx
    simp only [e1, cond_true, e2, Option.bind_some, idxI_ok (show 0 ≤ (j : Int) by omega) (show (j : Int) < ((21 : Nat) : Int) by omega), nat_add1 j (by omega), Int.toNat_natCast]
    exact ih _ _ ⟨j + 1, rfl, hlt, h0.set (by omega) _ hx, h1.set (by omega) _ hx⟩ (by omega)
  · have : j = f.Loads.length := by omega
    subst this
    rw [len_dec, cond_false]
    exact ⟨z, rfl, h0, h1⟩
def wsF (f : T_api_Float) (g : T_api_Load → Int) (ls : List T_api_Load) : List T_float_weight := ⟨f.Kilos, f.Middle⟩ :: ls.map fun l => ⟨g l, l.At⟩
theorem weights_p (N : Nat) (t : T_float_truth) (f : T_api_Float) (g k : T_api_Load → Int) (h : TrIs t f g k f.Loads.length) (hn : f.Loads.length ≤ 20) (hN : 30 < N) : p_float_truth_weights N t = some (wsF f g f.Loads) := by
  unfold p_float_truth_weights
  rw [letJ_eq, h.e]
  refine loop2_T (fun (r : Option (List T_float_weight)) => r = some (wsF f g f.Loads)) (fun a i => ∃ j : Nat, i = (j : Int) ∧ j ≤ f.Loads.length ∧ a = wsF f g (f.Loads.take j)) (fun a i => f.Loads.length - i.toNat) ?_ N _ 0 ⟨0, rfl, by omega, rfl⟩ (by simp; omega)
  rintro rec a i ⟨j, rfl, hj, rfl⟩ ih
  by_cases hlt : j < f.Loads.length
  · have hx : f.Loads[j]? = some f.Loads[j] := List.getElem?_eq_getElem hlt
    obtain ⟨e1, e2, e3, e4⟩ := lt_dec hx
    simp only [e1, cond_true, e2, Option.bind_some, idxI_ok (show 0 ≤ (j : Int) by omega) (show (j : Int) < ((21 : Nat) : Int) by omega), nat_add1 j (by omega), Int.toNat_natCast, h.hk j _ hlt hx]
    rw [pushI_ok (by simp [wsF]; omega), Option.bind_some]
    refine ih _ _ ⟨j + 1, rfl, hlt, ?_⟩ (by omega)
    rw [List.take_succ_eq_append_getElem hlt]
    simp only [wsF, List.map_append, List.map_cons, List.map_nil, List.cons_append]
  · have : j = f.Loads.length := by omega
    subst this
    rw [len_dec, cond_false, List.take_length]
def momW (p : Int) (ws : List T_float_weight) : Int := (ws.map fun w => w.kilos_ * (w.at_ - p)).sum
theorem moment_p (N : Nat) (p : Int) (ws : List T_float_weight) (hw : ∀ w ∈ ws, 0 ≤ w.kilos_ ∧ w.kilos_ ≤ 100000 ∧ -3000 ≤ w.at_ - p ∧ w.at_ - p ≤ 3000) (hn : ws.length ≤ 21) (hN : 30 < N) : p_float_moment N p ws = some (momW p ws) ∧ -6300000000 ≤ momW p ws ∧ momW p ws ≤ 6300000000 := by
  have hb : ∀ (j : Nat), j ≤ ws.length → -(300000000 * (j : Int)) ≤ momW p (ws.take j) ∧ momW p (ws.take j) ≤ 300000000 * (j : Int) := by
    intro j
    induction j with
    | zero => intro _; simp [momW]
    | succ j ih =>
      intro hj
      have ih := ih (by omega)
      have hlt : j < ws.length := by omega
      obtain ⟨a, b, c, d⟩ := hw _ (List.getElem_mem hlt)
      have m := mulS (A := 100000) (B := 3000) a b c d
      rw [List.take_succ_eq_append_getElem hlt]
      simp only [momW, List.map_append, List.sum_append, List.map_cons, List.map_nil, List.sum_cons, List.sum_nil] at ih ⊢
      omega
  have hall := hb ws.length (Nat.le_refl _)
  rw [List.take_length] at hall
  refine ⟨?_, by omega, by omega⟩
  unfold p_float_moment
  rw [letJ_eq]
  refine loop2_T (fun (r : Option Int) => r = some (momW p ws)) (fun a i => ∃ j : Nat, i = (j : Int) ∧ j ≤ ws.length ∧ a = momW p (ws.take j)) (fun a i => ws.length - i.toNat) ?_ N 0 0 ⟨0, rfl, by omega, by simp [momW]⟩ (by simp; omega)
  rintro rec a i ⟨j, rfl, hj, rfl⟩ ih
  by_cases hlt : j < ws.length
  · have hx : ws[j]? = some ws[j] := List.getElem?_eq_getElem hlt
    obtain ⟨e1, e2, e3, e4⟩ := lt_dec hx
    obtain ⟨a, b, c, d⟩ := hw _ e3
    have m := mulS (A := 100000) (B := 3000) a b c d
    have b1 := hb j hj
    have s1 : momW p (ws.take (j + 1)) = momW p (ws.take j) + ws[j].kilos_ * (ws[j].at_ - p) := by
      rw [List.take_succ_eq_append_getElem hlt]
      simp only [momW, List.map_append, List.sum_append, List.map_cons, List.map_nil, List.sum_cons, List.sum_nil]
      omega
    simp only [e1, cond_true, e2, Option.bind_some]
    rw [nat_add1 j (by omega), w64 (x := ws[j].at_ - p) (by omega) (by omega), w64 (x := ws[j].kilos_ * (ws[j].at_ - p)) (by omega) (by omega), w64 (x := momW p (ws.take j) + ws[j].kilos_ * (ws[j].at_ - p)) (by omega) (by omega)]
    exact ih _ _ ⟨j + 1, rfl, hlt, s1.symm⟩ (by omega)
  · have : j = ws.length := by omega
    subst this
    rw [len_dec, cond_false, List.take_length]
end Go.Proofs.Ytjpoganponbdlaa
end
section
namespace Go.Proofs.Ytjpoganponbdlaa
open Go.RowKit
set_option linter.unusedVariables false
set_option linter.unusedSimpArgs false
set_option maxRecDepth 10000
set_option maxHeartbeats 4000000

def GOk (g : T_api_Load → Int) (f : T_api_Float) : Prop := ∀ l ∈ f.Loads, 0 ≤ g l ∧ g l ≤ 100000
theorem gLo (f : T_api_Float) (h : FlOk f) : GOk (fun l => l.Kilos.Lo) f := fun l hl => by
  have a := h.all l hl
  exact ⟨a.k1, by have h2 := a.k2; have h3 := a.k3; show l.Kilos.Lo ≤ 100000; omega⟩
theorem gHi (f : T_api_Float) (h : FlOk f) : GOk (fun l => l.Kilos.Hi) f := fun l hl => by
  have := h.all l hl
  exact ⟨by have h1 := this.k1; have h2 := this.k2; show 0 ≤ l.Kilos.Hi; omega, this.k3⟩
theorem ws_ok (f : T_api_Float) (h : FlOk f) (g : T_api_Load → Int) (hg : GOk g f) (q : Int) (q1 : f.Front ≤ q) (q2 : q ≤ f.Rear) : ∀ w ∈ wsF f g f.Loads, 0 ≤ w.kilos_ ∧ w.kilos_ ≤ 100000 ∧ -3000 ≤ w.at_ - q ∧ w.at_ - q ≤ 3000 := by
  have := h.l2; have := h.f1; have := h.f2; have := h.f3; have := h.m1; have := h.m2; have := h.k1; have := h.k2
  intro w hw
  rcases List.mem_cons.1 hw with rfl | hw
  · exact ⟨h.k1, h.k2, by show -3000 ≤ f.Middle - q; omega, by show f.Middle - q ≤ 3000; omega⟩
  · obtain ⟨l, hl, rfl⟩ := List.mem_map.1 hw
    have a1 := (h.all l hl).a1; have a2 := (h.all l hl).a2
    exact ⟨(hg l hl).1, (hg l hl).2, by show -3000 ≤ l.At - q; omega, by show l.At - q ≤ 3000; omega⟩
theorem ws_len (f : T_api_Float) (h : FlOk f) (g : T_api_Load → Int) : (wsF f g f.Loads).length ≤ 21 := by
  have := h.n
  simp [wsF]; omega
section
variable (N : Nat) (hN : 30 < N) (t : T_float_truth) (f : T_api_Float) (hf : FlOk f) (g k : T_api_Load → Int) (hg : GOk g f) (ht : TrIs t f g k f.Loads.length)
include hN hf hg ht
theorem onFront_p : p_float_truth_onFront N t = some (-(momW f.Rear (wsF f g f.Loads))) ∧ -6300000000 ≤ momW f.Rear (wsF f g f.Loads) ∧ momW f.Rear (wsF f g f.Loads) ≤ 6300000000 := by
  obtain ⟨e, b1, b2⟩ := moment_p N f.Rear (wsF f g f.Loads) (ws_ok f hf g hg f.Rear (by have := hf.f2; omega) (Int.le_refl _)) (ws_len f hf g) hN
  refine ⟨?_, b1, b2⟩
  unfold p_float_truth_onFront
  rw [weights_p N t f g k ht hf.n hN, Option.bind_some, ht.e, e, Option.bind_some, w64 (x := 0 - momW f.Rear (wsF f g f.Loads)) (by omega) (by omega)]
  congr 1
  omega
theorem onRear_p : p_float_truth_onRear N t = some (momW f.Front (wsF f g f.Loads)) ∧ -6300000000 ≤ momW f.Front (wsF f g f.Loads) ∧ momW f.Front (wsF f g f.Loads) ≤ 6300000000 := by
  obtain ⟨e, b1, b2⟩ := moment_p N f.Front (wsF f g f.Loads) (ws_ok f hf g hg f.Front (Int.le_refl _) (by have := hf.f2; omega)) (ws_len f hf g) hN
  refine ⟨?_, b1, b2⟩
  unfold p_float_truth_onRear
  rw [weights_p N t f g k ht hf.n hN, Option.bind_some, ht.e, e, Option.bind_some]
theorem stands_p : p_float_truth_stands N t = some (decide (momW f.Rear (wsF f g f.Loads) ≤ 0) && decide (0 ≤ momW f.Front (wsF f g f.Loads))) := by
  unfold p_float_truth_stands
  rw [(onFront_p N hN t f hf g k hg ht).1, Option.bind_some, (onRear_p N hN t f hf g k hg ht).1, Option.bind_some]
  generalize momW f.Rear (wsF f g f.Loads) = a
  generalize momW f.Front (wsF f g f.Loads) = b
  by_cases h : a ≤ 0
  · simp [h, show -a ≥ 0 by omega]
  · simp [h, show ¬ -a ≥ 0 by omega]
omit hg in
theorem height_p : p_float_truth_height N t = some (talL (f.Loads.map k) f.High) := by
  have hn := hf.n
  unfold p_float_truth_height
  rw [letJ_eq, ht.e]
  refine loop2_T (fun (r : Option Int) => r = some (talL (f.Loads.map k) f.High)) (fun a i => ∃ j : Nat, i = (j : Int) ∧ j ≤ f.Loads.length ∧ a = talL ((f.Loads.take j).map k) f.High) (fun a i => f.Loads.length - i.toNat) ?_ N _ 0 ⟨0, rfl, by omega, by simp [talL]⟩ (by simp; omega)
  rintro rec a i ⟨j, rfl, hj, rfl⟩ ih
  by_cases hlt : j < f.Loads.length
  · have hx : f.Loads[j]? = some f.Loads[j] := List.getElem?_eq_getElem hlt
    obtain ⟨e1, e2, e3, e4⟩ := lt_dec hx
    simp only [e1, cond_true, Option.bind_some, idxI_ok (show 0 ≤ (j : Int) by omega) (show (j : Int) < ((21 : Nat) : Int) by omega), nat_add1 j (by omega), Int.toNat_natCast, ht.ht j _ hlt hx]
    refine ih _ _ ⟨j + 1, rfl, hlt, ?_⟩ (by omega)
    rw [List.take_succ_eq_append_getElem hlt]
    simp only [talL, List.map_append, List.map_cons, List.map_nil, List.foldl_append, List.foldl_cons, List.foldl_nil]
    rfl
  · have : j = f.Loads.length := by omega
    subst this
    rw [len_dec, cond_false, List.take_length]
theorem total_p : p_float_truth_total N t = some (((wsF f g f.Loads).map fun w => w.kilos_).sum) ∧ 0 ≤ ((wsF f g f.Loads).map fun w => w.kilos_).sum ∧ ((wsF f g f.Loads).map fun w => w.kilos_).sum ≤ 2100000 := by
  have hw := ws_ok f hf g hg f.Rear (by have := hf.f2; omega) (Int.le_refl _)
  have hn := ws_len f hf g
  unfold p_float_truth_total
  rw [weights_p N t f g k ht hf.n hN, Option.bind_some, letJ_eq]
  generalize wsF f g f.Loads = ws at hw hn
  have hb : ∀ (j : Nat), j ≤ ws.length → 0 ≤ (((ws.take j).map fun w => w.kilos_).sum) ∧ (((ws.take j).map fun w => w.kilos_).sum) ≤ 100000 * (j : Int) := by
    intro j
    induction j with
    | zero => intro _; simp
    | succ j ih =>
      intro hj
      have ih := ih (by omega)
      have hlt : j < ws.length := by omega
      obtain ⟨a, b, _, _⟩ := hw _ (List.getElem_mem hlt)
      rw [List.take_succ_eq_append_getElem hlt]
      simp only [List.map_append, List.sum_append, List.map_cons, List.map_nil, List.sum_cons, List.sum_nil] at ih ⊢
      omega
  have hall := hb ws.length (Nat.le_refl _)
  rw [List.take_length] at hall
  refine ⟨?_, by omega, by omega⟩
  refine loop2_T (fun (r : Option Int) => r = some ((ws.map fun w => w.kilos_).sum)) (fun a i => ∃ j : Nat, i = (j : Int) ∧ j ≤ ws.length ∧ a = ((ws.take j).map fun w => w.kilos_).sum) (fun a i => ws.length - i.toNat) ?_ N 0 0 ⟨0, rfl, by omega, by simp⟩ (by simp; omega)
  rintro rec a i ⟨j, rfl, hj, rfl⟩ ih
  by_cases hlt : j < ws.length
  · have hx : ws[j]? = some ws[j] := List.getElem?_eq_getElem hlt
    obtain ⟨e1, e2, e3, e4⟩ := lt_dec hx
    obtain ⟨a, b, _, _⟩ := hw _ e3
    have b1 := hb j hj
    have s1 : (((ws.take (j + 1)).map fun w => w.kilos_).sum) = (((ws.take j).map fun w => w.kilos_).sum) + ws[j].kilos_ := by
      rw [List.take_succ_eq_append_getElem hlt]
      simp only [List.map_append, List.sum_append, List.map_cons, List.map_nil, List.sum_cons, List.sum_nil]
      omega
    rw [e1, cond_true, e2, Option.bind_some, nat_add1 j (by omega), w64 (x := (((ws.take j).map fun w => w.kilos_).sum) + ws[j].kilos_) (by omega) (by omega)]
    exact ih _ _ ⟨j + 1, rfl, hlt, s1.symm⟩ (by omega)
  · have : j = ws.length := by omega
    subst this
    rw [len_dec, cond_false, List.take_length]
theorem bridge_p (a b : Int) (b0 : 0 ≤ b) (b1 : b ≤ 10000000) : p_float_truth_passesBridge N t a b = some (decide (((wsF f g f.Loads).map fun w => w.kilos_).sum ≤ a) && (decide (-(momW f.Rear (wsF f g f.Loads)) ≤ b * (f.Rear - f.Front)) && decide (momW f.Front (wsF f g f.Loads) ≤ b * (f.Rear - f.Front)))) := by
  have := hf.l2; have := hf.f1; have := hf.f2; have := hf.f3
  have m := mulB (A := 10000000) (B := 3000) b0 b1 (show 0 ≤ f.Rear - f.Front by omega) (by omega)
  unfold p_float_truth_passesBridge
  rw [ht.e, w64 (x := f.Rear - f.Front) (by omega) (by omega), w64 (x := b * (f.Rear - f.Front)) (by omega) (by omega), (total_p N hN t f hf g k hg ht).1, Option.bind_some, (onFront_p N hN t f hf g k hg ht).1, Option.bind_some, (onRear_p N hN t f hf g k hg ht).1, Option.bind_some]
  generalize ((wsF f g f.Loads).map fun w => w.kilos_).sum = x
  generalize momW f.Rear (wsF f g f.Loads) = y
  generalize momW f.Front (wsF f g f.Loads) = z
  by_cases h1 : x ≤ a
  · rw [show decide (x ≤ a) = true from decide_eq_true h1, cond_true, Bool.true_and]
    by_cases h2 : -y ≤ b * (f.Rear - f.Front)
    · rw [show decide (-y ≤ b * (f.Rear - f.Front)) = true from decide_eq_true h2, cond_true, Bool.true_and]
    · rw [show decide (-y ≤ b * (f.Rear - f.Front)) = false from decide_eq_false h2, cond_false, Bool.false_and]
  · rw [show decide (x ≤ a) = false from decide_eq_false h1, cond_false, Bool.false_and]
end
theorem srch (F : Int → Option Bool) (n : Int) (h0 : 0 ≤ n) (hn : n ≤ 1000000) (b : Int → Bool) (hF : ∀ k, 0 ≤ k → k < n → F k = some (b k))
    (body : (Int → Int → Option Int) → Int → Int → Option Int)
    (hbody : ∀ rec i_8 j_9, body rec i_8 j_9 = (bif (decide (i_8 < j_9)) then (((some (Int.fdiv (IntKind.u64.wrap (IntKind.i64.wrap (i_8 + j_9))) ((2 : Int) ^ (min (Int.toNat 1) (IntKind.bits .u64))))).bind fun n_19 => ((F (IntKind.i64.wrap n_19)).bind fun r_20 => (bif (!r_20) then (rec (IntKind.i64.wrap ((IntKind.i64.wrap n_19) + 1)) j_9) else (rec i_8 (IntKind.i64.wrap n_19)))))) else some i_8))
    (N : Nat) (hN : n.toNat < N) : ∃ r, loop2 body N 0 n = some r ∧ 0 ≤ r ∧ r ≤ n ∧ ((∀ x y, 0 ≤ x → x ≤ y → y < n → b x = true → b y = true) → ∀ k, 0 ≤ k → k < n → (b k = true ↔ r ≤ k)) := by
  refine loop2_T (fun (o : Option Int) => ∃ r, o = some r ∧ 0 ≤ r ∧ r ≤ n ∧ ((∀ x y, 0 ≤ x → x ≤ y → y < n → b x = true → b y = true) → ∀ k, 0 ≤ k → k < n → (b k = true ↔ r ≤ k)))
    (fun i j => 0 ≤ i ∧ i ≤ j ∧ j ≤ n ∧ ((∀ x y, 0 ≤ x → x ≤ y → y < n → b x = true → b y = true) → (∀ k, 0 ≤ k → k < i → b k = false) ∧ ∀ k, j ≤ k → k < n → b k = true)) (fun i j => (j - i).toNat) ?_ N 0 n ⟨Int.le_refl _, h0, Int.le_refl _, fun _ => ⟨fun k a c => by omega, fun k a c => by omega⟩⟩ (by simpa using hN)
  rintro rec i j ⟨i0, ij, jn, hm⟩ ih
  rw [hbody]
  by_cases hlt : i < j
  · have e2 : (2 : Int) ^ (min (Int.toNat 1) (IntKind.bits .u64)) = 2 := rfl
    rw [show decide (i < j) = true from decide_eq_true hlt, cond_true, Option.bind_some, w64 (x := i + j) (by omega) (by omega), wu64_id (x := i + j) (by omega) (by omega), e2, Int.fdiv_eq_ediv_of_nonneg _ (by omega), w64 (x := (i + j) / 2) (by omega) (by omega), w64 (x := (i + j) / 2 + 1) (by omega) (by omega), hF _ (by omega) (by omega), Option.bind_some]
    generalize hc : (i + j) / 2 = c
    have hc1 : i ≤ c ∧ c < j := by omega
    cases hb : b c with
    | false =>
      rw [Bool.not_false, cond_true]
      refine ih _ _ ⟨by omega, by omega, jn, fun mono => ⟨fun k k0 k1 => ?_, (hm mono).2⟩⟩ (by omega)
      cases hk : b k with
      | false => rfl
      | true =>
        have := mono k c k0 (by omega) (by omega) hk
        rw [hb] at this
        exact this.symm
    | true =>
      rw [Bool.not_true, cond_false]
      refine ih _ _ ⟨i0, by omega, by omega, fun mono => ⟨(hm mono).1, fun k k0 k1 => mono c k (by omega) k0 k1 hb⟩⟩ (by omega)
  · rw [show decide (i < j) = false from decide_eq_false hlt, cond_false]
    refine ⟨i, rfl, i0, by omega, fun mono k k0 k1 => ⟨fun hk => ?_, fun hk => (hm mono).2 k (by omega) k1⟩⟩
    have q := (hm mono).1 k k0
    by_cases hki : k < i
    · rw [q hki] at hk
      exact absurd hk (by simp)
    · omega
end Go.Proofs.Ytjpoganponbdlaa
end
section
namespace Go.Proofs.Ytjpoganponbdlaa
open Go.RowKit
set_option linter.unusedVariables false
set_option linter.unusedSimpArgs false
set_option maxRecDepth 10000
set_option maxHeartbeats 4000000

theorem momW_bl (q : Int) (f : T_api_Float) (p k : Int) (g : T_api_Load → Int) (hg : g ⟨p, ⟨k, k⟩, ⟨0, 0⟩, 1, 0⟩ = k) : momW q (wsF (blF f p k) g (blF f p k).Loads) = momW q (wsF f g f.Loads) + k * (p - q) := by
  simp only [momW, wsF, blF, List.map_append, List.map_cons, List.map_nil, List.sum_cons, List.sum_append, List.sum_nil, hg]
  omega
theorem totW_bl (f : T_api_Float) (p k : Int) (g : T_api_Load → Int) (hg : g ⟨p, ⟨k, k⟩, ⟨0, 0⟩, 1, 0⟩ = k) : ((wsF (blF f p k) g (blF f p k).Loads).map fun w => w.kilos_).sum = ((wsF f g f.Loads).map fun w => w.kilos_).sum + k := by
  simp only [wsF, blF, List.map_append, List.map_cons, List.map_nil, List.sum_cons, List.sum_append, List.sum_nil, hg]
  omega
theorem talL_bl (f : T_api_Float) (h0 : 0 ≤ f.High) (p k : Int) : talL ((blF f p k).Loads.map fun l => l.Top.Hi) (blF f p k).High = talL ((f.Loads ++ [(⟨p, ⟨0, 0⟩, ⟨0, 0⟩, 1, 0⟩ : T_api_Load)]).map fun (l : T_api_Load) => l.Top.Hi) f.High := by
  simp only [blF, List.map_append, List.map_cons, List.map_nil]
theorem bend1_eq (N : Nat) (m a : Int) (t u : T_float_truth) (h1 : t.Float.Turn = u.Float.Turn) (h2 : t.Float.Width = u.Float.Width) : p_float_truth_passesBend_1 N m t a = p_float_truth_passesBend_1 N m u a := by
  unfold p_float_truth_passesBend_1
  rw [h1, h2]
theorem search1_p (N : Nat) (hN : 22000 < N) (t : T_float_truth) (a : Int) : ∃ r, p_sort_Search_float_truth_passesBend_1 N 21000 t a = some r := by
  obtain ⟨r, e, _⟩ := srch (fun m => p_float_truth_passesBend_1 N m t a) 21000 (by omega) (by omega) _ (fun k _ _ => rfl) _ (fun rec i j => rfl) N (by omega)
  exact ⟨r, e⟩
theorem search1_eq (N : Nat) (a : Int) (t u : T_float_truth) (h1 : t.Float.Turn = u.Float.Turn) (h2 : t.Float.Width = u.Float.Width) : p_sort_Search_float_truth_passesBend_1 N 21000 t a = p_sort_Search_float_truth_passesBend_1 N 21000 u a := by
  unfold p_sort_Search_float_truth_passesBend_1
  simp only [bend1_eq N _ a t u h1 h2]
theorem bend_p (N : Nat) (hN : 22000 < N) (t : T_float_truth) (a b : Int) : ∃ r, p_float_truth_passesBend N t a b = some r := by
  obtain ⟨r, e⟩ := search1_p N hN t a
  unfold p_float_truth_passesBend
  rw [e]
  exact ⟨_, rfl⟩
theorem bend_eq (N : Nat) (a b : Int) (t u : T_float_truth) (h1 : t.Float.Turn = u.Float.Turn) (h2 : t.Float.Width = u.Float.Width) (h3 : t.Float.Length = u.Float.Length) (h4 : t.Float.Rear = u.Float.Rear) : p_float_truth_passesBend N t a b = p_float_truth_passesBend N u a b := by
  unfold p_float_truth_passesBend
  rw [search1_eq N a t u h1 h2, h1, h2, h3, h4]
theorem passes_any (N : Nat) (hN : 22000 < N) (f : T_api_Float) (hf : FlOk f) (g k : T_api_Load → Int) (hg : GOk g f) (t : T_float_truth) (ht : TrIs t f g k f.Loads.length) (h : T_api_Hurdle) (hh : HuOk h) : ∃ b, p_float_truth_passes N t h = some b := by
  unfold p_float_truth_passes
  rcases hh with ⟨e, a, b, c⟩ | ⟨e, a, b, c⟩ | ⟨e, a, b, c, d⟩
  · rw [e, show ((1 : Int) == 1) = true from rfl, cond_true]
    obtain ⟨r, hr⟩ := bend_p N hN t h.A h.B
    rw [hr]
    exact ⟨r, rfl⟩
  · rw [e, show ((2 : Int) == 1) = false from rfl, cond_false, show ((2 : Int) == 2) = true from rfl, cond_true, height_p N (by omega) t f hf g k ht]
    exact ⟨_, rfl⟩
  · rw [e, show ((3 : Int) == 1) = false from rfl, cond_false, show ((3 : Int) == 2) = false from rfl, cond_false, bridge_p N (by omega) t f hf g k hg ht h.A h.B c d]
    exact ⟨_, rfl⟩
theorem anti {u v x y d : Int} (h : x ≤ y) (hd : 0 ≤ d) (e : u + y * d ≤ v) : u + x * d ≤ v := by
  have := Int.mul_le_mul_of_nonneg_right h hd
  omega
theorem passes_p (N : Nat) (hN : 22000 < N) (f : T_api_Float) (hf : FlOk f) (hn : f.Loads.length ≤ 19) (p : Int) (p1 : f.Front ≤ p) (p2 : p ≤ f.Rear) (h : T_api_Hurdle) (hh : HuOk h) : ∃ b : Int → Bool, (∀ x y, 0 ≤ x → x ≤ y → y ≤ 100000 → b y = true → b x = true) ∧ ∀ k, 0 ≤ k → k ≤ 100000 → ∀ t, TrIs t (blF f p k) (fun l => l.Kilos.Hi) (fun l => l.Top.Hi) (blF f p k).Loads.length → p_float_truth_passes N t h = some (b k) := by
  unfold p_float_truth_passes
  rcases hh with ⟨e, a, b, c⟩ | ⟨e, a, b, c⟩ | ⟨e, a, b, c, d⟩
  · rw [e, show ((1 : Int) == 1) = true from rfl]
    obtain ⟨r, hr⟩ := bend_p N hN (⟨blF f p 0, default, default⟩ : T_float_truth) h.A h.B
    refine ⟨fun _ => r, fun _ _ _ _ _ h => h, fun k k0 k1 t ht => ?_⟩
    rw [cond_true, bend_eq N h.A h.B t ⟨blF f p 0, default, default⟩ (by rw [ht.e]; rfl) (by rw [ht.e]; rfl) (by rw [ht.e]; rfl) (by rw [ht.e]; rfl), hr]
    rfl
  · rw [e, show ((2 : Int) == 1) = false from rfl, show ((2 : Int) == 2) = true from rfl]
    refine ⟨fun _ => decide (talL ((f.Loads ++ [(⟨p, ⟨0, 0⟩, ⟨0, 0⟩, 1, 0⟩ : T_api_Load)]).map fun (l : T_api_Load) => l.Top.Hi) f.High ≤ h.A), fun _ _ _ _ _ h => h, fun k k0 k1 t ht => ?_⟩
    have hb := blF_ok f hf hn p k p1 p2 k0 k1
    rw [cond_false, cond_true, height_p N (by omega) t (blF f p k) hb _ _ ht, talL_bl f hf.h1]
    rfl
  · rw [e, show ((3 : Int) == 1) = false from rfl, show ((3 : Int) == 2) = false from rfl]
    refine ⟨fun k => decide (((wsF f (fun l => l.Kilos.Hi) f.Loads).map fun w => w.kilos_).sum + k ≤ h.A) && (decide (-(momW f.Rear (wsF f (fun l => l.Kilos.Hi) f.Loads)) + k * (f.Rear - p) ≤ h.B * (f.Rear - f.Front)) && decide (momW f.Front (wsF f (fun l => l.Kilos.Hi) f.Loads) + k * (p - f.Front) ≤ h.B * (f.Rear - f.Front))), ?_, fun k k0 k1 t ht => ?_⟩
    · intro x y hx hxy hy hb
      simp only [Bool.and_eq_true, decide_eq_true_eq] at hb ⊢
      exact ⟨by omega, anti hxy (by omega) hb.2.1, anti hxy (by omega) hb.2.2⟩
    · have hb := blF_ok f hf hn p k p1 p2 k0 k1
      rw [cond_false, cond_false, bridge_p N (by omega) t (blF f p k) hb _ _ (gHi _ hb) ht h.A h.B c d, totW_bl f p k _ rfl]
      rw [show (blF f p k).Rear = f.Rear from rfl, show (blF f p k).Front = f.Front from rfl, momW_bl f.Rear f p k _ rfl, momW_bl f.Front f p k _ rfl]
      have e1 : -(momW f.Rear (wsF f (fun l => l.Kilos.Hi) f.Loads) + k * (p - f.Rear)) = -(momW f.Rear (wsF f (fun l => l.Kilos.Hi) f.Loads)) + k * (f.Rear - p) := by
        rw [Int.mul_sub, Int.mul_sub]; omega
      rw [e1]
      rfl
theorem stands_bl (N : Nat) (hN : 22000 < N) (f : T_api_Float) (hf : FlOk f) (hn : f.Loads.length ≤ 19) (p : Int) (p1 : f.Front ≤ p) (p2 : p ≤ f.Rear) : ∃ b : Int → Bool, (∀ x y, 0 ≤ x → x ≤ y → y ≤ 100000 → b x = true → b y = true) ∧ ∀ k, 0 ≤ k → k ≤ 100000 → ∀ t, TrIs t (blF f p k) (fun l => l.Kilos.Lo) (fun l => l.Top.Lo) (blF f p k).Loads.length → p_float_truth_stands N t = some (b k) := by
  refine ⟨fun k => decide (momW f.Rear (wsF f (fun l => l.Kilos.Lo) f.Loads) + k * (p - f.Rear) ≤ 0) && decide (0 ≤ momW f.Front (wsF f (fun l => l.Kilos.Lo) f.Loads) + k * (p - f.Front)), ?_, fun k k0 k1 t ht => ?_⟩
  · intro x y hx hxy hy hb
    simp only [Bool.and_eq_true, decide_eq_true_eq] at hb ⊢
    have m1 := Int.mul_le_mul_of_nonneg_right hxy (show 0 ≤ f.Rear - p by omega)
    have m2 := Int.mul_le_mul_of_nonneg_right hxy (show 0 ≤ p - f.Front by omega)
    have e1 : x * (p - f.Rear) = -(x * (f.Rear - p)) := by rw [Int.mul_sub, Int.mul_sub]; omega
    have e2 : y * (p - f.Rear) = -(y * (f.Rear - p)) := by rw [Int.mul_sub, Int.mul_sub]; omega
    rw [e1] at hb
    rw [e2]
    omega
  · have hb := blF_ok f hf hn p k p1 p2 k0 k1
    rw [stands_p N (by omega) t (blF f p k) hb _ _ (gLo _ hb) ht]
    rw [show (blF f p k).Rear = f.Rear from rfl, show (blF f p k).Front = f.Front from rfl, momW_bl f.Rear f p k _ rfl, momW_bl f.Front f p k _ rfl]
theorem verdict_p (N : Nat) (a b : Bool) : ∃ v, p_float_verdict N a b = some v ∧ (v = 1 ↔ a = true) := by
  unfold p_float_verdict
  cases a <;> cases b <;> simp
theorem verdicts_p (N : Nat) (hN : 22000 < N) (f : T_api_Float) (hf : FlOk f) (hs : List T_api_Hurdle) (hn : hs.length ≤ 40) (hh : ∀ h ∈ hs, HuOk h) : ∃ vs z, p_float_verdicts N f hs = some vs ∧ p_float_endsOf N f = some z ∧ TrIs z.a1 f (fun l => l.Kilos.Hi) (fun l => l.Top.Hi) f.Loads.length ∧ ∀ Q : T_api_Hurdle → Bool, (∀ h ∈ hs, p_float_truth_passes N z.a1 h = some (Q h)) → vs.map (fun v => v == 1) = hs.map Q := by
  obtain ⟨z, ez, h0, h1⟩ := endsOf_p N f hf.n (by omega)
  have hv : ∀ h ∈ hs, ∃ a b, p_float_truth_passes N z.a1 h = some a ∧ p_float_truth_passes N z.a0 h = some b := fun h hm => by
    obtain ⟨a, ea⟩ := passes_any N hN f hf _ _ (gHi f hf) z.a1 h1 h (hh h hm)
    obtain ⟨b, eb⟩ := passes_any N hN f hf _ _ (gLo f hf) z.a0 h0 h (hh h hm)
    exact ⟨a, b, ea, eb⟩
  suffices hx : ∃ vs, p_float_verdicts N f hs = some vs ∧ ∀ Q : T_api_Hurdle → Bool, (∀ h ∈ hs, p_float_truth_passes N z.a1 h = some (Q h)) → vs.map (fun v => v == 1) = hs.map Q by
    obtain ⟨vs, e, hq⟩ := hx
    exact ⟨vs, z, e, ez, h1, hq⟩
  unfold p_float_verdicts
  rw [ez, Option.bind_some, letJ_eq]
  refine loop2_T (fun (r : Option (List Int)) => ∃ vs, r = some vs ∧ ∀ Q : T_api_Hurdle → Bool, (∀ h ∈ hs, p_float_truth_passes N z.a1 h = some (Q h)) → vs.map (fun v => v == 1) = hs.map Q) (fun a i => ∃ j : Nat, i = (j : Int) ∧ j ≤ hs.length ∧ a.length = j ∧ ∀ Q : T_api_Hurdle → Bool, (∀ h ∈ hs, p_float_truth_passes N z.a1 h = some (Q h)) → a.map (fun v => v == 1) = (hs.take j).map Q) (fun a i => hs.length - i.toNat) ?_ N [] 0 ⟨0, rfl, by omega, rfl, fun _ _ => rfl⟩ (by simp; omega)
  rintro rec a i ⟨j, rfl, hj, hl, ha⟩ ih
  by_cases hlt : j < hs.length
  · have hx : hs[j]? = some hs[j] := List.getElem?_eq_getElem hlt
    obtain ⟨e1, e2, e3, e4⟩ := lt_dec hx
    obtain ⟨x, y, ex, ey⟩ := hv _ e3
    obtain ⟨v, ev, hv1⟩ := verdict_p N x y
    simp only [e1, cond_true, e2, Option.bind_some, ex, ey, ev]
    rw [pushI_ok (by simp; omega), Option.bind_some, nat_add1 j (by omega)]
    refine ih _ _ ⟨j + 1, rfl, hlt, by simp; omega, fun Q hQ => ?_⟩ (by omega)
    rw [List.take_succ_eq_append_getElem hlt, List.map_append, List.map_append, ha Q hQ]
    have hq := hQ _ e3
    rw [ex] at hq
    have hq := Option.some.inj hq
    simp only [List.map_cons, List.map_nil]
    congr 2
    rw [← hq]
    cases x with
    | true => simp [hv1.2 rfl]
    | false =>
      have : ¬ v = 1 := fun h => by have := hv1.1 h; exact absurd this (by simp)
      simp [this]
  · have : j = hs.length := by omega
    subst this
    rw [len_dec, cond_false]
    rw [List.take_length] at ha
    exact ⟨a, rfl, ha⟩
theorem index_p (N : Nat) (vs : List Int) (hN : vs.length < N) (hn : vs.length ≤ 40) : ∃ r, p_slices_IndexFunc_int_int_float_firstStop_1 N vs = some r ∧ -1 ≤ r ∧ (r = -1 ↔ (vs.map fun v => v == 1).all id = true) := by
  unfold p_slices_IndexFunc_int_int_float_firstStop_1
  rw [letJ_eq]
  refine loop1_T (fun (o : Option Int) => ∃ r, o = some r ∧ -1 ≤ r ∧ (r = -1 ↔ (vs.map fun v => v == 1).all id = true)) (fun i => ∃ j : Nat, i = (j : Int) ∧ j ≤ vs.length ∧ ((vs.take j).map fun v => v == 1).all id = true) (fun i => vs.length - i.toNat) ?_ N 0 ⟨0, rfl, by omega, rfl⟩ (by simpa using hN)
  rintro rec i ⟨j, rfl, hj, ha⟩ ih
  by_cases hlt : j < vs.length
  · have hx : vs[j]? = some vs[j] := List.getElem?_eq_getElem hlt
    obtain ⟨e1, e2, e3, e4⟩ := lt_dec hx
    rw [e1, cond_true, e2, Option.bind_some, show p_float_firstStop_1 N vs[j] = some (vs[j] != 1) from rfl, Option.bind_some]
    cases hc : (vs[j] == 1) with
    | true =>
      rw [show (vs[j] != 1) = false by simp [bne, hc], cond_false, nat_add1 j (by omega)]
      refine ih _ ⟨j + 1, rfl, hlt, ?_⟩ (by omega)
      rw [List.take_succ_eq_append_getElem hlt, List.map_append, List.all_append, ha]
      simp [hc]
    | false =>
      rw [show (vs[j] != 1) = true by simp [bne, hc], cond_true]
      refine ⟨(j : Int), rfl, by omega, ⟨fun h => by omega, fun h => ?_⟩⟩
      have := List.all_eq_true.1 h (vs[j] == 1) (List.mem_map.2 ⟨_, e3, rfl⟩)
      rw [hc] at this
      exact absurd this (by simp)
  · have : j = vs.length := by omega
    subst this
    rw [len_dec, cond_false]
    rw [List.take_length] at ha
    exact ⟨-1, rfl, Int.le_refl _, ⟨fun _ => ha, fun _ => rfl⟩⟩
end Go.Proofs.Ytjpoganponbdlaa
end
section
namespace Go.Proofs.Ytjpoganponbdlaa
open Go.RowKit
set_option linter.unusedVariables false
set_option linter.unusedSimpArgs false
set_option maxRecDepth 10000
set_option maxHeartbeats 4000000

section
variable (N : Nat) (hN : 110000 < N) (f : T_api_Float) (hf : FlOk f) (hn : f.Loads.length ≤ 19) (hs : List T_api_Hurdle) (hl : hs.length ≤ 40) (hh : ∀ h ∈ hs, HuOk h) (p : Int) (p1 : f.Front ≤ p) (p2 : p ≤ f.Rear)
include hN hf hn hl hh p1 p2
theorem firstStop_p : ∃ b : Int → Bool, (∀ x y, 0 ≤ x → x ≤ y → y ≤ 100000 → b x = true → b y = true) ∧ ∀ k, 0 ≤ k → k ≤ 100000 → ∃ r, p_float_firstStop N (blF f p k) hs = some r ∧ -1 ≤ r ∧ (r = -1 ↔ b k = false) := by
  have hB : ∀ h : T_api_Hurdle, ∃ b : Int → Bool, HuOk h → (∀ x y, 0 ≤ x → x ≤ y → y ≤ 100000 → b y = true → b x = true) ∧ ∀ k, 0 ≤ k → k ≤ 100000 → ∀ t, TrIs t (blF f p k) (fun l => l.Kilos.Hi) (fun l => l.Top.Hi) (blF f p k).Loads.length → p_float_truth_passes N t h = some (b k) := by
    intro h
    by_cases hu : HuOk h
    · obtain ⟨b, hb⟩ := passes_p N (by omega) f hf hn p p1 p2 h hu
      exact ⟨b, fun _ => hb⟩
    · exact ⟨fun _ => true, fun h => absurd h hu⟩
  obtain ⟨B, hB⟩ := Classical.axiomOfChoice hB
  refine ⟨fun k => !((hs.map fun h => B h k).all id), ?_, ?_⟩
  · intro x y hx hxy hy hb
    cases hc : (hs.map fun h => B h y).all id with
    | false => simp [hc]
    | true =>
      have : (hs.map fun h => B h x).all id = true := by
        rw [List.all_eq_true] at hc ⊢
        intro v hv
        obtain ⟨h, hm, rfl⟩ := List.mem_map.1 hv
        exact (hB h (hh h hm)).1 x y hx hxy hy (hc _ (List.mem_map.2 ⟨h, hm, rfl⟩))
      have hb : (!((hs.map fun h => B h x).all id)) = true := hb
      rw [this] at hb
      exact absurd hb (by simp)
  · intro k k0 k1
    have hb := blF_ok f hf hn p k p1 p2 k0 k1
    obtain ⟨vs, z, e1, e2, h1, hq⟩ := verdicts_p N (by omega) (blF f p k) hb hs hl hh
    have hq := hq (fun h => B h k) fun h hm => (hB h (hh h hm)).2 k k0 k1 _ h1
    have hlen : vs.length = hs.length := by
      have := congrArg List.length hq
      simpa using this
    obtain ⟨r, er, hr, hr1⟩ := index_p N vs (by omega) (by omega)
    refine ⟨r, ?_, hr, ?_⟩
    · unfold p_float_firstStop
      rw [e1, Option.bind_some, er, Option.bind_some]
    · rw [hr1, hq]
      show (hs.map fun h => B h k).all id = true ↔ (!((hs.map fun h => B h k).all id)) = false
      generalize (hs.map fun h => B h k).all id = q
      cases q <;> decide
theorem ballast_p : ∃ (s t : Int → Bool) (x : T_api_Span) (c : Int), p_float_Ballast N f hs p = some (x, c) ∧ (c = 0 ∨ c = 7 ∧ x = ⟨0, 0⟩) ∧ (0 ≤ x.Lo ∧ x.Lo ≤ x.Hi ∧ x.Hi ≤ 100000) ∧ (∀ k, 0 ≤ k → k ≤ 100000 → (c = 0 → ((x.Lo ≤ k ↔ s k = true) ∧ (k ≤ x.Hi ↔ t k = false))) ∧ (c = 7 → s k = true → t k = true)) ∧ ∀ k, 0 ≤ k → k ≤ 100000 → (∃ v, p_float_Stands N (blF f p k) = some (v, 0) ∧ (v = 1 ↔ s k = true)) ∧ ∃ r, p_float_Stops N (blF f p k) hs = some (r, 0) ∧ (r = -1 ↔ t k = false) := by
  obtain ⟨s, sm, hs1⟩ := stands_bl N (by omega) f hf hn p p1 p2
  obtain ⟨t, tm, ht1⟩ := firstStop_p N hN f hf hn hs hl hh p p1 p2
  have F1 : ∀ k, 0 ≤ k → k < 100001 → p_float_Ballast_1 N k f p = some (s k) := by
    intro k k0 k1
    have hb := blF_ok f hf hn p k p1 p2 k0 (by omega)
    obtain ⟨z, ez, h0, _⟩ := endsOf_p N (blF f p k) hb.n (by omega)
    unfold p_float_Ballast_1
    rw [ballasted_p N f p k (by omega), Option.bind_some, ez, Option.bind_some, hs1 k k0 (by omega) z.a0 h0, Option.bind_some]
  have F2 : ∀ k, 0 ≤ k → k < 100001 → p_float_Ballast_2 N k f p hs = some (t k) := by
    intro k k0 k1
    obtain ⟨r, er, hr, hr1⟩ := ht1 k k0 (by omega)
    unfold p_float_Ballast_2
    rw [ballasted_p N f p k (by omega), Option.bind_some, er, Option.bind_some]
    congr 1
    cases ht : t k with
    | false =>
      have := hr1.2 ht
      exact decide_eq_false (by omega)
    | true =>
      have : ¬ r = -1 := fun h => by have := hr1.1 h; rw [ht] at this; exact absurd this (by simp)
      exact decide_eq_true (by omega)
  obtain ⟨r1, e1, a1, b1, c1⟩ := srch (fun k => p_float_Ballast_1 N k f p) 100001 (by omega) (by omega) s F1 _ (fun rec i j => rfl) N (by omega)
  obtain ⟨r2, e2, a2, b2, c2⟩ := srch (fun k => p_float_Ballast_2 N k f p hs) 100001 (by omega) (by omega) t F2 _ (fun rec i j => rfl) N (by omega)
  have c1 := c1 fun x y hx hxy hy => sm x y hx hxy (by omega)
  have c2 := c2 fun x y hx hxy hy => tm x y hx hxy (by omega)
  have hsr : p_sort_Search_float_Ballast_1 N 100001 f p = some r1 := e1
  have htr : p_sort_Search_float_Ballast_2 N 100001 f p hs = some r2 := e2
  have hlast : ∀ k, 0 ≤ k → k ≤ 100000 → (∃ v, p_float_Stands N (blF f p k) = some (v, 0) ∧ (v = 1 ↔ s k = true)) ∧ ∃ r, p_float_Stops N (blF f p k) hs = some (r, 0) ∧ (r = -1 ↔ t k = false) := by
    intro k k0 k1
    have hb := blF_ok f hf hn p k p1 p2 k0 k1
    constructor
    · obtain ⟨z, ez, h0, h1⟩ := endsOf_p N (blF f p k) hb.n (by omega)
      obtain ⟨v, ev, hv⟩ := verdict_p N (s k) (decide (momW (blF f p k).Rear (wsF (blF f p k) (fun l => l.Kilos.Hi) (blF f p k).Loads) ≤ 0) && decide (0 ≤ momW (blF f p k).Front (wsF (blF f p k) (fun l => l.Kilos.Hi) (blF f p k).Loads)))
      refine ⟨v, ?_, hv⟩
      unfold p_float_Stands
      rw [pCheck_t N _ hb (by omega), Option.bind_some, bne_self_eq_false, cond_false, ez, Option.bind_some, hs1 k k0 k1 z.a0 h0, Option.bind_some, stands_p N (by omega) z.a1 (blF f p k) hb _ _ (gHi _ hb) h1, Option.bind_some, ev, Option.bind_some]
    · obtain ⟨r, er, hr, hr1⟩ := ht1 k k0 k1
      refine ⟨r, ?_, hr1⟩
      unfold p_float_Stops
      rw [pcheckBoth_t N _ hb hs hl hh (by omega), Option.bind_some, bne_self_eq_false, cond_false, er, Option.bind_some]
  have hB : p_float_Ballast N f hs p = (bif (decide (r1 ≥ r2)) then some ((⟨0, 0⟩ : T_api_Span), 7) else some ((⟨r1, (IntKind.i64.wrap (r2 - 1))⟩ : T_api_Span), 0)) := by
    unfold p_float_Ballast
    rw [pcheckBoth_t N f hf hs hl hh (by omega), Option.bind_some, bne_self_eq_false, cond_false, pwithin_t N p f.Front f.Rear p1 p2, Option.bind_some, Bool.not_true, cond_false, hsr, Option.bind_some, htr, Option.bind_some]
  by_cases hc : r1 ≥ r2
  · refine ⟨s, t, ⟨0, 0⟩, 7, by rw [hB, decide_eq_true hc, cond_true], .inr ⟨rfl, rfl⟩, ⟨Int.le_refl _, Int.le_refl _, by show (0 : Int) ≤ 100000; omega⟩, fun k k0 k1 => ⟨fun h => by omega, fun _ h => ?_⟩, hlast⟩
    have := (c1 k k0 (by omega)).1 h
    exact (c2 k k0 (by omega)).2 (by omega)
  · refine ⟨s, t, ⟨r1, r2 - 1⟩, 0, by rw [hB, decide_eq_false hc, cond_false, w64 (x := r2 - 1) (by omega) (by omega)], .inl rfl, ⟨a1, by show r1 ≤ r2 - 1; omega, by show r2 - 1 ≤ 100000; omega⟩, fun k k0 k1 => ⟨fun _ => ⟨(c1 k k0 (by omega)).symm, ?_⟩, fun h => by omega⟩, hlast⟩
    have q := c2 k k0 (by omega)
    cases ht : t k with
    | false =>
      have : ¬ r2 ≤ k := fun h => by have := q.2 h; rw [ht] at this; exact absurd this (by simp)
      exact ⟨fun _ => rfl, fun _ => by show k ≤ r2 - 1; omega⟩
    | true =>
      have := q.1 ht
      exact ⟨fun h => by have : k ≤ r2 - 1 := h; omega, fun h => absurd h (by simp)⟩
end
end Go.Proofs.Ytjpoganponbdlaa
end
section
namespace Go.Proofs.Ytjpoganponbdlaa
open Go.RowKit
set_option linter.unusedVariables false
set_option maxRecDepth 100000

def inl (f : FuncId) : Bool := Nat.beq f 104
noncomputable def X4 : Clr := clrN tab inl noClr 300 14
theorem X4_ok : ClrOk Try.prog X4 := clrN_ok (noClr_ok _) tab_ok 300 14
def ld (a b c d e f g : Int) : AV := .agg [.int .i64 a, .int .i64 b, .int .i64 c, .int .i64 d, .int .i64 e, .int .i64 f, .int .i64 g]
def swanC (m : Int) : List AV := [.int .i64 1000, .int .i64 300, .int .i64 200, .int .i64 800, .int .i64 900, .int .i64 4000, .int .i64 m, .int .i64 400, .sl [ld 300 500 600 450 500 1 0, ld 700 1000 1000 380 380 2 5000, ld 500 100 200 300 350 3 3000, ld 600 50 50 400 520 4 0] none]
def mid9 : List AV := swanC 900
end Go.Proofs.Ytjpoganponbdlaa
end
section
namespace Go.Proofs.Ytjpoganponbdlaa
open Go.RowKit
set_option linter.unusedVariables false
set_option maxRecDepth 100000
theorem b1_50000 : evFn X4 300 F80 [.int .i64 50000, .ptr 0 0, .ptr 1 0] [mid9, [.int .i64 200]] = some (.bool true, [mid9, [.int .i64 200]]) := by kernel_rfl
theorem b1_25000 : evFn X4 300 F80 [.int .i64 25000, .ptr 0 0, .ptr 1 0] [mid9, [.int .i64 200]] = some (.bool true, [mid9, [.int .i64 200]]) := by kernel_rfl
theorem b1_12500 : evFn X4 300 F80 [.int .i64 12500, .ptr 0 0, .ptr 1 0] [mid9, [.int .i64 200]] = some (.bool true, [mid9, [.int .i64 200]]) := by kernel_rfl
theorem b1_6250 : evFn X4 300 F80 [.int .i64 6250, .ptr 0 0, .ptr 1 0] [mid9, [.int .i64 200]] = some (.bool true, [mid9, [.int .i64 200]]) := by kernel_rfl
theorem b1_3125 : evFn X4 300 F80 [.int .i64 3125, .ptr 0 0, .ptr 1 0] [mid9, [.int .i64 200]] = some (.bool true, [mid9, [.int .i64 200]]) := by kernel_rfl
theorem b1_1562 : evFn X4 300 F80 [.int .i64 1562, .ptr 0 0, .ptr 1 0] [mid9, [.int .i64 200]] = some (.bool true, [mid9, [.int .i64 200]]) := by kernel_rfl
theorem b1_781 : evFn X4 300 F80 [.int .i64 781, .ptr 0 0, .ptr 1 0] [mid9, [.int .i64 200]] = some (.bool true, [mid9, [.int .i64 200]]) := by kernel_rfl
theorem b1_390 : evFn X4 300 F80 [.int .i64 390, .ptr 0 0, .ptr 1 0] [mid9, [.int .i64 200]] = some (.bool true, [mid9, [.int .i64 200]]) := by kernel_rfl
theorem b1_195 : evFn X4 300 F80 [.int .i64 195, .ptr 0 0, .ptr 1 0] [mid9, [.int .i64 200]] = some (.bool true, [mid9, [.int .i64 200]]) := by kernel_rfl
end Go.Proofs.Ytjpoganponbdlaa
end
section
namespace Go.Proofs.Ytjpoganponbdlaa
open Go.RowKit
set_option linter.unusedVariables false
set_option maxRecDepth 100000
theorem b1_97 : evFn X4 300 F80 [.int .i64 97, .ptr 0 0, .ptr 1 0] [mid9, [.int .i64 200]] = some (.bool true, [mid9, [.int .i64 200]]) := by kernel_rfl
theorem b1_48 : evFn X4 300 F80 [.int .i64 48, .ptr 0 0, .ptr 1 0] [mid9, [.int .i64 200]] = some (.bool true, [mid9, [.int .i64 200]]) := by kernel_rfl
theorem b1_24 : evFn X4 300 F80 [.int .i64 24, .ptr 0 0, .ptr 1 0] [mid9, [.int .i64 200]] = some (.bool true, [mid9, [.int .i64 200]]) := by kernel_rfl
theorem b1_12 : evFn X4 300 F80 [.int .i64 12, .ptr 0 0, .ptr 1 0] [mid9, [.int .i64 200]] = some (.bool false, [mid9, [.int .i64 200]]) := by kernel_rfl
theorem b1_18 : evFn X4 300 F80 [.int .i64 18, .ptr 0 0, .ptr 1 0] [mid9, [.int .i64 200]] = some (.bool true, [mid9, [.int .i64 200]]) := by kernel_rfl
theorem b1_15 : evFn X4 300 F80 [.int .i64 15, .ptr 0 0, .ptr 1 0] [mid9, [.int .i64 200]] = some (.bool false, [mid9, [.int .i64 200]]) := by kernel_rfl
theorem b1_17 : evFn X4 300 F80 [.int .i64 17, .ptr 0 0, .ptr 1 0] [mid9, [.int .i64 200]] = some (.bool true, [mid9, [.int .i64 200]]) := by kernel_rfl
theorem b1_16 : evFn X4 300 F80 [.int .i64 16, .ptr 0 0, .ptr 1 0] [mid9, [.int .i64 200]] = some (.bool false, [mid9, [.int .i64 200]]) := by kernel_rfl
end Go.Proofs.Ytjpoganponbdlaa
end
section
namespace Go.Proofs.Ytjpoganponbdlaa
open Go.RowKit
set_option linter.unusedVariables false
set_option maxRecDepth 100000
theorem b2_50000 : evFn X4 300 F82 [.int .i64 50000, .ptr 0 0, .ptr 1 0, .ptr 2 0] [mid9, [.int .i64 200], [.nils]] = some (.bool false, [mid9, [.int .i64 200], [.nils]]) := by kernel_rfl
theorem b2_75001 : evFn X4 300 F82 [.int .i64 75001, .ptr 0 0, .ptr 1 0, .ptr 2 0] [mid9, [.int .i64 200], [.nils]] = some (.bool false, [mid9, [.int .i64 200], [.nils]]) := by kernel_rfl
theorem b2_87501 : evFn X4 300 F82 [.int .i64 87501, .ptr 0 0, .ptr 1 0, .ptr 2 0] [mid9, [.int .i64 200], [.nils]] = some (.bool false, [mid9, [.int .i64 200], [.nils]]) := by kernel_rfl
theorem b2_93751 : evFn X4 300 F82 [.int .i64 93751, .ptr 0 0, .ptr 1 0, .ptr 2 0] [mid9, [.int .i64 200], [.nils]] = some (.bool false, [mid9, [.int .i64 200], [.nils]]) := by kernel_rfl
theorem b2_96876 : evFn X4 300 F82 [.int .i64 96876, .ptr 0 0, .ptr 1 0, .ptr 2 0] [mid9, [.int .i64 200], [.nils]] = some (.bool false, [mid9, [.int .i64 200], [.nils]]) := by kernel_rfl
theorem b2_98439 : evFn X4 300 F82 [.int .i64 98439, .ptr 0 0, .ptr 1 0, .ptr 2 0] [mid9, [.int .i64 200], [.nils]] = some (.bool false, [mid9, [.int .i64 200], [.nils]]) := by kernel_rfl
theorem b2_99220 : evFn X4 300 F82 [.int .i64 99220, .ptr 0 0, .ptr 1 0, .ptr 2 0] [mid9, [.int .i64 200], [.nils]] = some (.bool false, [mid9, [.int .i64 200], [.nils]]) := by kernel_rfl
theorem b2_99611 : evFn X4 300 F82 [.int .i64 99611, .ptr 0 0, .ptr 1 0, .ptr 2 0] [mid9, [.int .i64 200], [.nils]] = some (.bool false, [mid9, [.int .i64 200], [.nils]]) := by kernel_rfl
theorem b2_99806 : evFn X4 300 F82 [.int .i64 99806, .ptr 0 0, .ptr 1 0, .ptr 2 0] [mid9, [.int .i64 200], [.nils]] = some (.bool false, [mid9, [.int .i64 200], [.nils]]) := by kernel_rfl
end Go.Proofs.Ytjpoganponbdlaa
end
section
namespace Go.Proofs.Ytjpoganponbdlaa
open Go.RowKit
set_option linter.unusedVariables false
set_option maxRecDepth 100000
theorem b2_99904 : evFn X4 300 F82 [.int .i64 99904, .ptr 0 0, .ptr 1 0, .ptr 2 0] [mid9, [.int .i64 200], [.nils]] = some (.bool false, [mid9, [.int .i64 200], [.nils]]) := by kernel_rfl
theorem b2_99953 : evFn X4 300 F82 [.int .i64 99953, .ptr 0 0, .ptr 1 0, .ptr 2 0] [mid9, [.int .i64 200], [.nils]] = some (.bool false, [mid9, [.int .i64 200], [.nils]]) := by kernel_rfl
theorem b2_99977 : evFn X4 300 F82 [.int .i64 99977, .ptr 0 0, .ptr 1 0, .ptr 2 0] [mid9, [.int .i64 200], [.nils]] = some (.bool false, [mid9, [.int .i64 200], [.nils]]) := by kernel_rfl
theorem b2_99989 : evFn X4 300 F82 [.int .i64 99989, .ptr 0 0, .ptr 1 0, .ptr 2 0] [mid9, [.int .i64 200], [.nils]] = some (.bool false, [mid9, [.int .i64 200], [.nils]]) := by kernel_rfl
theorem b2_99995 : evFn X4 300 F82 [.int .i64 99995, .ptr 0 0, .ptr 1 0, .ptr 2 0] [mid9, [.int .i64 200], [.nils]] = some (.bool false, [mid9, [.int .i64 200], [.nils]]) := by kernel_rfl
theorem b2_99998 : evFn X4 300 F82 [.int .i64 99998, .ptr 0 0, .ptr 1 0, .ptr 2 0] [mid9, [.int .i64 200], [.nils]] = some (.bool false, [mid9, [.int .i64 200], [.nils]]) := by kernel_rfl
theorem b2_100000 : evFn X4 300 F82 [.int .i64 100000, .ptr 0 0, .ptr 1 0, .ptr 2 0] [mid9, [.int .i64 200], [.nils]] = some (.bool false, [mid9, [.int .i64 200], [.nils]]) := by kernel_rfl
end Go.Proofs.Ytjpoganponbdlaa
end
section
namespace Go.Proofs.Ytjpoganponbdlaa
open Go.RowKit
set_option linter.unusedVariables false
set_option maxRecDepth 100000

structure Known (P : Program) where
  f : FuncId
  xs : List AV
  cells : List (List AV)
  v : AV
  cells' : List (List AV)
  h : Contract P f xs cells v cells'
def knO {P : Program} : List (Known P) → Orc
  | [], _, _, _ => none
  | e :: l, f, xs, cells => bif Nat.beq e.f f && (beqL e.xs xs && bxBeq e.cells cells) then some (e.v, e.cells') else knO l f xs cells
theorem knO_ok {P : Program} : ∀ (l : List (Known P)), OrcOk P (knO l)
  | [], _, _, _, _, _, h => by cases h
  | e :: l, f, xs, cells, v, c', h => by
    simp only [knO] at h
    cases hc : (Nat.beq e.f f && (beqL e.xs xs && bxBeq e.cells cells)) with
    | true =>
      rw [hc, cond_true] at h
      cases h
      simp only [Bool.and_eq_true] at hc
      have := e.h
      rw [Nat.eq_of_beq_eq_true hc.1, beqL_eq _ _ hc.2.1, bxBeq_eq _ _ hc.2.2] at this
      exact this
    | false =>
      rw [hc, cond_false] at h
      exact knO_ok l f xs cells v c' h
def known1 : List (Known Try.prog) := [⟨80, [.int .i64 50000, .ptr 0 0, .ptr 1 0], [mid9, [.int .i64 200]], .bool true, [mid9, [.int .i64 200]], evFn_ok X4_ok comp80 b1_50000⟩,⟨80, [.int .i64 25000, .ptr 0 0, .ptr 1 0], [mid9, [.int .i64 200]], .bool true, [mid9, [.int .i64 200]], evFn_ok X4_ok comp80 b1_25000⟩,⟨80, [.int .i64 12500, .ptr 0 0, .ptr 1 0], [mid9, [.int .i64 200]], .bool true, [mid9, [.int .i64 200]], evFn_ok X4_ok comp80 b1_12500⟩,⟨80, [.int .i64 6250, .ptr 0 0, .ptr 1 0], [mid9, [.int .i64 200]], .bool true, [mid9, [.int .i64 200]], evFn_ok X4_ok comp80 b1_6250⟩,⟨80, [.int .i64 3125, .ptr 0 0, .ptr 1 0], [mid9, [.int .i64 200]], .bool true, [mid9, [.int .i64 200]], evFn_ok X4_ok comp80 b1_3125⟩,⟨80, [.int .i64 1562, .ptr 0 0, .ptr 1 0], [mid9, [.int .i64 200]], .bool true, [mid9, [.int .i64 200]], evFn_ok X4_ok comp80 b1_1562⟩,⟨80, [.int .i64 781, .ptr 0 0, .ptr 1 0], [mid9, [.int .i64 200]], .bool true, [mid9, [.int .i64 200]], evFn_ok X4_ok comp80 b1_781⟩,⟨80, [.int .i64 390, .ptr 0 0, .ptr 1 0], [mid9, [.int .i64 200]], .bool true, [mid9, [.int .i64 200]], evFn_ok X4_ok comp80 b1_390⟩,⟨80, [.int .i64 195, .ptr 0 0, .ptr 1 0], [mid9, [.int .i64 200]], .bool true, [mid9, [.int .i64 200]], evFn_ok X4_ok comp80 b1_195⟩,⟨80, [.int .i64 97, .ptr 0 0, .ptr 1 0], [mid9, [.int .i64 200]], .bool true, [mid9, [.int .i64 200]], evFn_ok X4_ok comp80 b1_97⟩,⟨80, [.int .i64 48, .ptr 0 0, .ptr 1 0], [mid9, [.int .i64 200]], .bool true, [mid9, [.int .i64 200]], evFn_ok X4_ok comp80 b1_48⟩,⟨80, [.int .i64 24, .ptr 0 0, .ptr 1 0], [mid9, [.int .i64 200]], .bool true, [mid9, [.int .i64 200]], evFn_ok X4_ok comp80 b1_24⟩,⟨80, [.int .i64 12, .ptr 0 0, .ptr 1 0], [mid9, [.int .i64 200]], .bool false, [mid9, [.int .i64 200]], evFn_ok X4_ok comp80 b1_12⟩,⟨80, [.int .i64 18, .ptr 0 0, .ptr 1 0], [mid9, [.int .i64 200]], .bool true, [mid9, [.int .i64 200]], evFn_ok X4_ok comp80 b1_18⟩,⟨80, [.int .i64 15, .ptr 0 0, .ptr 1 0], [mid9, [.int .i64 200]], .bool false, [mid9, [.int .i64 200]], evFn_ok X4_ok comp80 b1_15⟩,⟨80, [.int .i64 17, .ptr 0 0, .ptr 1 0], [mid9, [.int .i64 200]], .bool true, [mid9, [.int .i64 200]], evFn_ok X4_ok comp80 b1_17⟩,⟨80, [.int .i64 16, .ptr 0 0, .ptr 1 0], [mid9, [.int .i64 200]], .bool false, [mid9, [.int .i64 200]], evFn_ok X4_ok comp80 b1_16⟩]
def known2 : List (Known Try.prog) := [⟨82, [.int .i64 50000, .ptr 0 0, .ptr 1 0, .ptr 2 0], [mid9, [.int .i64 200], [.nils]], .bool false, [mid9, [.int .i64 200], [.nils]], evFn_ok X4_ok comp82 b2_50000⟩,⟨82, [.int .i64 75001, .ptr 0 0, .ptr 1 0, .ptr 2 0], [mid9, [.int .i64 200], [.nils]], .bool false, [mid9, [.int .i64 200], [.nils]], evFn_ok X4_ok comp82 b2_75001⟩,⟨82, [.int .i64 87501, .ptr 0 0, .ptr 1 0, .ptr 2 0], [mid9, [.int .i64 200], [.nils]], .bool false, [mid9, [.int .i64 200], [.nils]], evFn_ok X4_ok comp82 b2_87501⟩,⟨82, [.int .i64 93751, .ptr 0 0, .ptr 1 0, .ptr 2 0], [mid9, [.int .i64 200], [.nils]], .bool false, [mid9, [.int .i64 200], [.nils]], evFn_ok X4_ok comp82 b2_93751⟩,⟨82, [.int .i64 96876, .ptr 0 0, .ptr 1 0, .ptr 2 0], [mid9, [.int .i64 200], [.nils]], .bool false, [mid9, [.int .i64 200], [.nils]], evFn_ok X4_ok comp82 b2_96876⟩,⟨82, [.int .i64 98439, .ptr 0 0, .ptr 1 0, .ptr 2 0], [mid9, [.int .i64 200], [.nils]], .bool false, [mid9, [.int .i64 200], [.nils]], evFn_ok X4_ok comp82 b2_98439⟩,⟨82, [.int .i64 99220, .ptr 0 0, .ptr 1 0, .ptr 2 0], [mid9, [.int .i64 200], [.nils]], .bool false, [mid9, [.int .i64 200], [.nils]], evFn_ok X4_ok comp82 b2_99220⟩,⟨82, [.int .i64 99611, .ptr 0 0, .ptr 1 0, .ptr 2 0], [mid9, [.int .i64 200], [.nils]], .bool false, [mid9, [.int .i64 200], [.nils]], evFn_ok X4_ok comp82 b2_99611⟩,⟨82, [.int .i64 99806, .ptr 0 0, .ptr 1 0, .ptr 2 0], [mid9, [.int .i64 200], [.nils]], .bool false, [mid9, [.int .i64 200], [.nils]], evFn_ok X4_ok comp82 b2_99806⟩,⟨82, [.int .i64 99904, .ptr 0 0, .ptr 1 0, .ptr 2 0], [mid9, [.int .i64 200], [.nils]], .bool false, [mid9, [.int .i64 200], [.nils]], evFn_ok X4_ok comp82 b2_99904⟩,⟨82, [.int .i64 99953, .ptr 0 0, .ptr 1 0, .ptr 2 0], [mid9, [.int .i64 200], [.nils]], .bool false, [mid9, [.int .i64 200], [.nils]], evFn_ok X4_ok comp82 b2_99953⟩,⟨82, [.int .i64 99977, .ptr 0 0, .ptr 1 0, .ptr 2 0], [mid9, [.int .i64 200], [.nils]], .bool false, [mid9, [.int .i64 200], [.nils]], evFn_ok X4_ok comp82 b2_99977⟩,⟨82, [.int .i64 99989, .ptr 0 0, .ptr 1 0, .ptr 2 0], [mid9, [.int .i64 200], [.nils]], .bool false, [mid9, [.int .i64 200], [.nils]], evFn_ok X4_ok comp82 b2_99989⟩,⟨82, [.int .i64 99995, .ptr 0 0, .ptr 1 0, .ptr 2 0], [mid9, [.int .i64 200], [.nils]], .bool false, [mid9, [.int .i64 200], [.nils]], evFn_ok X4_ok comp82 b2_99995⟩,⟨82, [.int .i64 99998, .ptr 0 0, .ptr 1 0, .ptr 2 0], [mid9, [.int .i64 200], [.nils]], .bool false, [mid9, [.int .i64 200], [.nils]], evFn_ok X4_ok comp82 b2_99998⟩,⟨82, [.int .i64 100000, .ptr 0 0, .ptr 1 0, .ptr 2 0], [mid9, [.int .i64 200], [.nils]], .bool false, [mid9, [.int .i64 200], [.nils]], evFn_ok X4_ok comp82 b2_100000⟩]
def tabB (f : FuncId) : Option AFn := bif Nat.beq f 80 || Nat.beq f 82 then none else tab f
theorem tabB_ok : ∀ f F, tabB f = some F → compFn Try.prog f = some F := by
  intro f F h
  unfold tabB at h
  cases hc : (Nat.beq f 80 || Nat.beq f 82) with
  | true => rw [hc] at h; cases h
  | false => rw [hc] at h; exact tab_ok f F h
noncomputable def X5 : Clr := clrN tabB inl (clrOf (knO (known1 ++ known2))) 300 14
theorem X5_ok : ClrOk Try.prog X5 := clrN_ok (clr_ok (knO_ok _)) tabB_ok 300 14
def spanA (a b : Int) : AV := .agg [.int .i64 a, .int .i64 b]
theorem ballast_run : evFn X5 300 F33 [.agg mid9, .nils, .int .i64 200] [] = some (.tup [spanA 17 100000, .int .i64 0], []) := by kernel_rfl
theorem axles_run : evFn X5 300 F25 [.agg (swanC 500)] [] = some (.tup [spanA 2650 2784, spanA 3000 3067, .int .i64 0], []) := by kernel_rfl
end Go.Proofs.Ytjpoganponbdlaa
end
section
namespace Go.Proofs.Ytjpoganponbdlaa
open Go.RowKit
set_option linter.unusedVariables false
set_option maxRecDepth 100000

def hur (k a b : Int) : AV := .agg [.int .i64 k, .int .i64 a, .int .i64 b]
theorem passes_run : evFn X5 300 F14 [.agg (swanC 500), .sl [hur 1 700 1400, hur 2 519 0, hur 3 5649 3067] none] [] = some (.tup [.sl [.int .i64 1, .int .i64 3, .int .i64 2] none, .int .i64 0], []) := by kernel_rfl
def known3 : List (Known Try.prog) := [⟨25, _, _, _, _, evFn_ok X5_ok comp25 axles_run⟩, ⟨14, _, _, _, _, evFn_ok X5_ok comp14 passes_run⟩, ⟨33, _, _, _, _, evFn_ok X5_ok comp33 ballast_run⟩]
def tabC (f : FuncId) : Option AFn := bif Nat.beq f 25 || (Nat.beq f 14 || Nat.beq f 33) then none else tab f
theorem tabC_ok : ∀ f F, tabC f = some F → compFn Try.prog f = some F := by
  intro f F h
  unfold tabC at h
  cases hc : (Nat.beq f 25 || (Nat.beq f 14 || Nat.beq f 33)) with
  | true => rw [hc] at h; cases h
  | false => rw [hc] at h; exact tab_ok f F h
noncomputable def X6 : Clr := clrN tabC inl (clrOf (knO known3)) 300 14
theorem X6_ok : ClrOk Try.prog X6 := clrN_ok (clr_ok (knO_ok _)) tabC_ok 300 14
theorem awake_run : evFn X6 300 F16 [] [] = some (.bool true, []) := by kernel_rfl
theorem awake_m : Meets Try.prog 16 [] [] fun v c' => v = .bool true ∧ c' = [] :=
  ⟨_, _, evFn_ok X6_ok comp16 awake_run, rfl, rfl⟩
end Go.Proofs.Ytjpoganponbdlaa
end
section
namespace Go.Proofs.Ytjpoganponbdlaa
open Go.RowKit
set_option linter.unusedVariables false
set_option linter.unusedSimpArgs false
set_option maxRecDepth 10000
set_option maxHeartbeats 4000000
def p_baterialaw02_awake (N : Nat) : Option Bool := some true
def v_baterialaw02_awake (r : Bool) : AV := .bool r
theorem a_baterialaw02_awake : ([] : List AV).mapM (ren []) = some [] := rfl
theorem b_baterialaw02_awake (r : Bool) (n n2 m : Nat) : back n n2 m (v_baterialaw02_awake r) = some (v_baterialaw02_awake r) := rfl
theorem d_baterialaw02_awake (N : Nat) (r : Bool) (h : p_baterialaw02_awake N = some r) : Does Try.prog 16 [] [] fun v c => v = v_baterialaw02_awake r ∧ c = [] := by
  cases h
  exact awake_m.does
def p_baterialaw02_FloatBallast (N : Nat) (nums_1 : (List Int)) : Option (Bool) := ((p_bateriakit_DrumOf N nums_1).bind fun r_2 => ((p_bateriakit_FloatOf N r_2 5).bind fun r_3 => ((p_bateriakit_RouteOf N r_3.2 r_3.1 3).bind fun r_4 => ((p_bateriakit_Drum_Mid N r_4.2 r_3.1.Front r_3.1.Rear).bind fun r_6 => ((p_float_Ballast N r_3.1 r_4.1 r_6.1).bind fun r_7 => (letJ (fun (y_8 : Bool) => (bif y_8 then some false else ((p_bateriakit_Drum_Roll N r_6.2 3000).bind fun r_14 => ((p_bateriakit_Drum_Of N r_14.2 r_7.1).bind fun r_15 => (letJ (fun (_ : Unit) => ((p_baterialaw02_awake N).bind fun r_48 => some r_48)) (fun k_17 => (loop1 (fun rec_21 (i_20 : Int) => (bif (decide (i_20 < 8)) then ((getI ([0, r_14.1, 100000, r_7.1.Lo, r_7.1.Hi, r_15.1, (if (IntKind.i64.wrap (r_7.1.Lo - 1)) > 0 then (IntKind.i64.wrap (r_7.1.Lo - 1)) else 0), (if (IntKind.i64.wrap (r_7.1.Hi + 1)) < 100000 then (IntKind.i64.wrap (r_7.1.Hi + 1)) else 100000)] : List Int) i_20).bind fun x_25 => ((p_bateriaref02_With N r_3.1 r_6.1 x_25).bind fun r_26 => ((p_float_Stands N r_26).bind fun r_28 => ((p_float_Stops N r_26 r_4.1).bind fun r_29 => (letJ (fun (y_30 : Bool) => (bif y_30 then some false else (rec_21 (IntKind.i64.wrap (i_20 + 1))))) (fun k_31 => (bif (r_28.2 != 0) then (k_31 true) else (bif (r_29.2 != 0) then (k_31 true) else (bif (r_28.1 == 1) then (bif (r_7.2 == 0) then ((getI ([0, r_14.1, 100000, r_7.1.Lo, r_7.1.Hi, r_15.1, (if (IntKind.i64.wrap (r_7.1.Lo - 1)) > 0 then (IntKind.i64.wrap (r_7.1.Lo - 1)) else 0), (if (IntKind.i64.wrap (r_7.1.Hi + 1)) < 100000 then (IntKind.i64.wrap (r_7.1.Hi + 1)) else 100000)] : List Int) i_20).bind fun x_38 => ((p_bateriakit_In N r_7.1 x_38).bind fun r_39 => (k_31 (!((r_29.1 == (-1)) == r_39))))) else (k_31 (!((r_29.1 == (-1)) == false)))) else (bif (r_7.2 == 0) then ((getI ([0, r_14.1, 100000, r_7.1.Lo, r_7.1.Hi, r_15.1, (if (IntKind.i64.wrap (r_7.1.Lo - 1)) > 0 then (IntKind.i64.wrap (r_7.1.Lo - 1)) else 0), (if (IntKind.i64.wrap (r_7.1.Hi + 1)) < 100000 then (IntKind.i64.wrap (r_7.1.Hi + 1)) else 100000)] : List Int) i_20).bind fun x_42 => ((p_bateriakit_In N r_7.1 x_42).bind fun r_43 => (k_31 (!(false == r_43))))) else (k_31 (!(false == false))))))))))))) else (k_17 ()))) N 0))))))) (fun k_9 => (bif (r_7.2 != 0) then (k_9 (r_7.2 != 7)) else (k_9 false)))))))))
def v_baterialaw02_FloatBallast (r : Bool) : AV := .bool r
theorem d_baterialaw02_FloatBallast (N : Nat) (nums_1 : (List Int)) (r : Bool) (h : p_baterialaw02_FloatBallast N nums_1 = some r) : Does Try.prog 5 [.sl (nums_1.map (AV.int .i64)) none] [] fun v c => v = v_baterialaw02_FloatBallast r ∧ c = [] := by
  unfold p_baterialaw02_FloatBallast at h
  refine Does.ofL comp5 _ _ rfl rfl ?_
  refine Ex.seq ?_
  refine regH 1 [] [0] [] (mkS 110 [(0, .sl (nums_1.map (AV.int .i64)) none)]) (⟨[], []⟩) (by kernel_rfl) trivial rfl ?_
  refine Ex.seq ?_
  obtain ⟨r_2, hr_2, h⟩ := Option.bind_eq_some_iff.1 h
  refine Ex.reg ?_
  refine runH 1 [] [16] [] (mkS 110 [(16, .sl (nums_1.map (AV.int .i64)) none)]) (⟨[], []⟩) (by kernel_rfl) trivial ?_
  refine ExO.callL (v' := .ptr 0 0) [] [.sl (nums_1.map (AV.int .i64)) none] rfl rfl (a_bateriakit_DrumOf nums_1) rfl rfl (d_bateriakit_DrumOf N nums_1 r_2 hr_2) rfl (by simp [cleanL, AV.clean, cleanL, cleanI, cleanBo, cleanSt, cleanII, KL_bateriakit_Drum, KL_api_Span, KL_api_Load, KL_api_Float, KL_bateriaref02_Truth, KL_api_Hurdle, KL_V21_i64, KL_float_truth, KL_V2_float_truth, KL_float_weight, A_bateriakit_Drum, C_bateriakit_Drum, A_api_Span, C_api_Span, A_api_Load, C_api_Load, A_api_Float, C_api_Float, A_bateriaref02_Truth, C_bateriaref02_Truth, A_api_Hurdle, C_api_Hurdle, A_V21_i64, C_V21_i64, A_float_truth, C_float_truth, A_V2_float_truth, C_V2_float_truth, A_float_weight, C_float_weight]) ?_
  refine runH 1 [] [3] [] (mkS 110 [(3, .ptr 0 0)]) (⟨[(C_bateriakit_Drum r_2)], []⟩) (by kernel_rfl) trivial ?_
  refine ExO.nil ?_
  refine Ex.seq ?_
  obtain ⟨r_3, hr_3, h⟩ := Option.bind_eq_some_iff.1 h
  refine Ex.reg ?_
  refine runH 1 [] [3, 18] [] (mkS 110 [(3, .ptr 0 0), (18, .ptr 0 0)]) (⟨[(C_bateriakit_Drum r_2)], []⟩) (by kernel_rfl) trivial ?_
  refine ExO.callL [0] [.ptr 0 0, .int .i64 5] rfl rfl (by simp [ren, ren1, fadeS, fadeV, AV.plain, AV.plain1, AV.clean, List.idxOf?, List.findIdx?, List.findIdx?.go, cleanL, cleanI, cleanBo, cleanSt, cleanII, KL_bateriakit_Drum, KL_api_Span, KL_api_Load, KL_api_Float, KL_bateriaref02_Truth, KL_api_Hurdle, KL_V21_i64, KL_float_truth, KL_V2_float_truth, KL_float_weight, A_bateriakit_Drum, C_bateriakit_Drum, A_api_Span, C_api_Span, A_api_Load, C_api_Load, A_api_Float, C_api_Float, A_bateriaref02_Truth, C_bateriaref02_Truth, A_api_Hurdle, C_api_Hurdle, A_V21_i64, C_V21_i64, A_float_truth, C_float_truth, A_V2_float_truth, C_V2_float_truth, A_float_weight, C_float_weight]; try rfl) rfl (by simp [cleanL, AV.clean, cleanL, cleanI, cleanBo, cleanSt, cleanII, KL_bateriakit_Drum, KL_api_Span, KL_api_Load, KL_api_Float, KL_bateriaref02_Truth, KL_api_Hurdle, KL_V21_i64, KL_float_truth, KL_V2_float_truth, KL_float_weight, A_bateriakit_Drum, C_bateriakit_Drum, A_api_Span, C_api_Span, A_api_Load, C_api_Load, A_api_Float, C_api_Float, A_bateriaref02_Truth, C_bateriaref02_Truth, A_api_Hurdle, C_api_Hurdle, A_V21_i64, C_V21_i64, A_float_truth, C_float_truth, A_V2_float_truth, C_V2_float_truth, A_float_weight, C_float_weight]) (d_bateriakit_FloatOf N r_2 5 r_3 hr_3) (b_bateriakit_FloatOf _ _ _ _) (by simp [cleanL, AV.clean, cleanL, cleanI, cleanBo, cleanSt, cleanII, KL_bateriakit_Drum, KL_api_Span, KL_api_Load, KL_api_Float, KL_bateriaref02_Truth, KL_api_Hurdle, KL_V21_i64, KL_float_truth, KL_V2_float_truth, KL_float_weight, A_bateriakit_Drum, C_bateriakit_Drum, A_api_Span, C_api_Span, A_api_Load, C_api_Load, A_api_Float, C_api_Float, A_bateriaref02_Truth, C_bateriaref02_Truth, A_api_Hurdle, C_api_Hurdle, A_V21_i64, C_V21_i64, A_float_truth, C_float_truth, A_V2_float_truth, C_V2_float_truth, A_float_weight, C_float_weight]) ?_
  refine runH 2 [] [3, 4] [] (mkS 110 [(3, .ptr 0 0), (4, .ptr 1 0)]) (⟨[(C_bateriakit_Drum r_3.2), (C_api_Float r_3.1)], []⟩) (by kernel_rfl) trivial ?_
  refine ExO.nil ?_
  refine Ex.seq ?_
  obtain ⟨r_4, hr_4, h⟩ := Option.bind_eq_some_iff.1 h
  have hT_5 : DoesA Try.prog [⟨12, [.ptr 0 0, (A_api_Float r_3.1), .int .i64 3], [(C_bateriakit_Drum r_3.2)], (v_bateriakit_RouteOf r_4), [(C_bateriakit_Drum r_4.2)]⟩] ∧ ConsA [⟨12, [.ptr 0 0, (A_api_Float r_3.1), .int .i64 3], [(C_bateriakit_Drum r_3.2)], (v_bateriakit_RouteOf r_4), [(C_bateriakit_Drum r_4.2)]⟩] := ⟨⟨(d_bateriakit_RouteOf N r_3.2 r_3.1 3 r_4 hr_4), rfl, trivial⟩, ⟨trivial, trivial⟩⟩
  refine Ex.drawE (a1 := mkS 110 [(3, .ptr 0 0), (4, .ptr 1 0), (20, .ptr 0 0), (21, (A_api_Float r_3.1)), (22, .sl (r_4.1.map A_api_Hurdle) none), (23, .ptr 0 0), (24, .ptr 1 2), (25, .int .i64 r_3.1.Front), (26, .ptr 1 3), (27, .int .i64 r_3.1.Rear)]) (tabO_ok hT_5.1) [] [] [⟨[(C_bateriakit_Drum r_4.2), (C_api_Float r_3.1)], []⟩] ?_ ?_
  · refine drS [1] 2 [] [] (mkS 110 [(3, .ptr 0 0), (4, .ptr 1 0), (20, .ptr 0 0), (21, (A_api_Float r_3.1))]) (by simp) (by kernel_rfl) trivial (by kernel_rfl) ?_
    refine drB hT_5.2 0 _ [0] [.ptr 0 0, (A_api_Float r_3.1), .int .i64 3] (v_bateriakit_RouteOf r_4) _ _ rfl rfl rfl rfl rfl rfl rfl rfl (by simp [ren, ren1, AV.plain, AV.plain1, AV.clean, List.idxOf?, List.findIdx?, List.findIdx?.go, cleanL, cleanI, cleanBo, cleanSt, cleanII, KL_bateriakit_Drum, KL_api_Span, KL_api_Load, KL_api_Float, KL_bateriaref02_Truth, KL_api_Hurdle, KL_V21_i64, KL_float_truth, KL_V2_float_truth, KL_float_weight, A_bateriakit_Drum, C_bateriakit_Drum, A_api_Span, C_api_Span, A_api_Load, C_api_Load, A_api_Float, C_api_Float, A_bateriaref02_Truth, C_bateriaref02_Truth, A_api_Hurdle, C_api_Hurdle, A_V21_i64, C_V21_i64, A_float_truth, C_float_truth, A_V2_float_truth, C_V2_float_truth, A_float_weight, C_float_weight]; try rfl) rfl (by simp [cleanL, AV.clean, cleanL, cleanI, cleanBo, cleanSt, cleanII, KL_bateriakit_Drum, KL_api_Span, KL_api_Load, KL_api_Float, KL_bateriaref02_Truth, KL_api_Hurdle, KL_V21_i64, KL_float_truth, KL_V2_float_truth, KL_float_weight, A_bateriakit_Drum, C_bateriakit_Drum, A_api_Span, C_api_Span, A_api_Load, C_api_Load, A_api_Float, C_api_Float, A_bateriaref02_Truth, C_bateriaref02_Truth, A_api_Hurdle, C_api_Hurdle, A_V21_i64, C_V21_i64, A_float_truth, C_float_truth, A_V2_float_truth, C_V2_float_truth, A_float_weight, C_float_weight]) (b_bateriakit_RouteOf _ _ _ _) (by simp [cleanL, AV.clean, cleanL, cleanI, cleanBo, cleanSt, cleanII, KL_bateriakit_Drum, KL_api_Span, KL_api_Load, KL_api_Float, KL_bateriaref02_Truth, KL_api_Hurdle, KL_V21_i64, KL_float_truth, KL_V2_float_truth, KL_float_weight, A_bateriakit_Drum, C_bateriakit_Drum, A_api_Span, C_api_Span, A_api_Load, C_api_Load, A_api_Float, C_api_Float, A_bateriaref02_Truth, C_bateriaref02_Truth, A_api_Hurdle, C_api_Hurdle, A_V21_i64, C_V21_i64, A_float_truth, C_float_truth, A_V2_float_truth, C_V2_float_truth, A_float_weight, C_float_weight]) rfl ?_
    refine drS [1] 5 [] [] (mkS 110 [(3, .ptr 0 0), (4, .ptr 1 0), (20, .ptr 0 0), (21, (A_api_Float r_3.1)), (22, .sl (r_4.1.map A_api_Hurdle) none), (23, .ptr 0 0), (24, .ptr 1 2), (25, .int .i64 r_3.1.Front), (26, .ptr 1 3), (27, .int .i64 r_3.1.Rear)]) (by simp) (by kernel_rfl) trivial (by kernel_rfl) ?_
    exact DrO.nil rfl
  · dsimp only [List.getLastD_cons, List.getLastD_nil]
    obtain ⟨r_6, hr_6, h⟩ := Option.bind_eq_some_iff.1 h
    refine ExO.callL [0] [.ptr 0 0, .int .i64 r_3.1.Front, .int .i64 r_3.1.Rear] rfl rfl (by simp [ren, ren1, fadeS, fadeV, AV.plain, AV.plain1, AV.clean, List.idxOf?, List.findIdx?, List.findIdx?.go, cleanL, cleanI, cleanBo, cleanSt, cleanII, KL_bateriakit_Drum, KL_api_Span, KL_api_Load, KL_api_Float, KL_bateriaref02_Truth, KL_api_Hurdle, KL_V21_i64, KL_float_truth, KL_V2_float_truth, KL_float_weight, A_bateriakit_Drum, C_bateriakit_Drum, A_api_Span, C_api_Span, A_api_Load, C_api_Load, A_api_Float, C_api_Float, A_bateriaref02_Truth, C_bateriaref02_Truth, A_api_Hurdle, C_api_Hurdle, A_V21_i64, C_V21_i64, A_float_truth, C_float_truth, A_V2_float_truth, C_V2_float_truth, A_float_weight, C_float_weight]; try rfl) rfl (by simp [cleanL, AV.clean, cleanL, cleanI, cleanBo, cleanSt, cleanII, KL_bateriakit_Drum, KL_api_Span, KL_api_Load, KL_api_Float, KL_bateriaref02_Truth, KL_api_Hurdle, KL_V21_i64, KL_float_truth, KL_V2_float_truth, KL_float_weight, A_bateriakit_Drum, C_bateriakit_Drum, A_api_Span, C_api_Span, A_api_Load, C_api_Load, A_api_Float, C_api_Float, A_bateriaref02_Truth, C_bateriaref02_Truth, A_api_Hurdle, C_api_Hurdle, A_V21_i64, C_V21_i64, A_float_truth, C_float_truth, A_V2_float_truth, C_V2_float_truth, A_float_weight, C_float_weight]) (d_bateriakit_Drum_Mid N r_4.2 r_3.1.Front r_3.1.Rear r_6 hr_6) (b_bateriakit_Drum_Mid _ _ _ _) (by simp [cleanL, AV.clean, cleanL, cleanI, cleanBo, cleanSt, cleanII, KL_bateriakit_Drum, KL_api_Span, KL_api_Load, KL_api_Float, KL_bateriaref02_Truth, KL_api_Hurdle, KL_V21_i64, KL_float_truth, KL_V2_float_truth, KL_float_weight, A_bateriakit_Drum, C_bateriakit_Drum, A_api_Span, C_api_Span, A_api_Load, C_api_Load, A_api_Float, C_api_Float, A_bateriaref02_Truth, C_bateriaref02_Truth, A_api_Hurdle, C_api_Hurdle, A_V21_i64, C_V21_i64, A_float_truth, C_float_truth, A_V2_float_truth, C_V2_float_truth, A_float_weight, C_float_weight]) ?_
    refine runH 2 [] [3, 4, 5, 6] [] (mkS 110 [(3, .ptr 0 0), (4, .ptr 1 0), (5, .sl (r_4.1.map A_api_Hurdle) none), (6, .int .i64 r_6.1)]) (⟨[(C_bateriakit_Drum r_6.2), (C_api_Float r_3.1)], []⟩) (by kernel_rfl) trivial ?_
    refine ExO.nil ?_
    refine Ex.seq ?_
    obtain ⟨r_7, hr_7, h⟩ := Option.bind_eq_some_iff.1 h
    refine Ex.reg ?_
    refine runH 3 [] [3, 4, 5, 6, 30, 31, 32] [] (mkS 110 [(3, .ptr 0 0), (4, .ptr 1 0), (5, .sl (r_4.1.map A_api_Hurdle) none), (6, .int .i64 r_6.1), (30, (A_api_Float r_3.1)), (31, .sl (r_4.1.map A_api_Hurdle) none), (32, .int .i64 r_6.1)]) (⟨[(C_bateriakit_Drum r_6.2), (C_api_Float r_3.1)], []⟩) (by kernel_rfl) trivial ?_
    refine ExO.callL [] [(A_api_Float r_3.1), .sl (r_4.1.map A_api_Hurdle) none, .int .i64 r_6.1] rfl rfl (a_float_Ballast r_3.1 r_4.1 r_6.1) rfl rfl (d_float_Ballast N r_3.1 r_4.1 r_6.1 r_7 hr_7) (b_float_Ballast _ _ _ _) rfl ?_
    refine runH 6 [] [3, 4, 5, 6, 7, 8] [] (mkS 110 [(3, .ptr 0 0), (4, .ptr 1 0), (5, .sl (r_4.1.map A_api_Hurdle) none), (6, .int .i64 r_6.1), (7, .ptr 2 0), (8, .int .i64 r_7.2)]) (⟨[(C_bateriakit_Drum r_6.2), (C_api_Float r_3.1), (C_api_Span r_7.1)], []⟩) (by kernel_rfl) trivial ?_
    refine ExO.nil ?_
    refine Ex.seq ?_
    obtain ⟨K_10, hK_11, h⟩ := letE h
    refine Ex.seqJ (fun a S => ∃ (y_8 : Bool), K_10 y_8 = some r ∧ a = mkS 110 [(3, .ptr 0 0), (4, .ptr 1 0), (5, .sl (r_4.1.map A_api_Hurdle) none), (6, .int .i64 r_6.1), (7, .ptr 2 0), (8, .int .i64 r_7.2), (41, .bool y_8)] ∧ S = ⟨[(C_bateriakit_Drum r_6.2), (C_api_Float r_3.1), (C_api_Span r_7.1)], []⟩) ?_ ?_
    · rcases condI h with ⟨hc_12, h⟩ | ⟨hc_12, h⟩
      · refine regH 6 [(2, .eq (.bool true))] [3, 4, 5, 6, 7, 8, 41] [AV.bool (r_7.2 != 0) = AV.bool true] (mkS 110 [(3, .ptr 0 0), (4, .ptr 1 0), (5, .sl (r_4.1.map A_api_Hurdle) none), (6, .int .i64 r_6.1), (7, .ptr 2 0), (8, .int .i64 r_7.2), (41, .bool (r_7.2 != 7))]) (⟨[(C_bateriakit_Drum r_6.2), (C_api_Float r_3.1), (C_api_Span r_7.1)], []⟩) (by kernel_rfl) ⟨congrArg AV.bool hc_12, trivial⟩ rfl ?_
        (try simp only [reduceCtorEq, AEx.ex.injEq, Nat.reduceEqDiff, if_true, if_false])
        exact ⟨_, _, Forgets.refl _ _ _, (r_7.2 != 7), h, rfl, rfl⟩
      · refine regH 6 [(2, .eq (.bool false))] [3, 4, 5, 6, 7, 8, 41] [AV.bool (r_7.2 != 0) = AV.bool false] (mkS 110 [(3, .ptr 0 0), (4, .ptr 1 0), (5, .sl (r_4.1.map A_api_Hurdle) none), (6, .int .i64 r_6.1), (7, .ptr 2 0), (8, .int .i64 r_7.2), (41, .bool false)]) (⟨[(C_bateriakit_Drum r_6.2), (C_api_Float r_3.1), (C_api_Span r_7.1)], []⟩) (by kernel_rfl) ⟨congrArg AV.bool hc_12, trivial⟩ rfl ?_
        (try simp only [reduceCtorEq, AEx.ex.injEq, Nat.reduceEqDiff, if_true, if_false])
        exact ⟨_, _, Forgets.refl _ _ _, false, h, rfl, rfl⟩
    · rintro a S ⟨y_8, h, rfl, rfl⟩
      subst hK_11
      rcases condI h with ⟨hc_13, h⟩ | ⟨hc_13, h⟩
      · refine Ex.condT _ rfl hc_13 ?_
        refine Ex.seq ?_
        refine regH 1 [] [2] [] (mkS 110 [(2, .bool false)]) (⟨[(C_bateriakit_Drum r_6.2), (C_api_Float r_3.1), (C_api_Span r_7.1)], []⟩) (by kernel_rfl) trivial rfl ?_
        refine Ex.ret ?_
        obtain rfl := Option.some.inj h
        exact ⟨.inr rfl, .bool false, by kernel_rfl, by kernel_rfl, by kernel_rfl, by kernel_rfl⟩
      · refine Ex.condF _ rfl hc_13 ?_
        refine Ex.skip ?_
        refine Ex.seq ?_
        obtain ⟨r_14, hr_14, h⟩ := Option.bind_eq_some_iff.1 h
        obtain ⟨r_15, hr_15, h⟩ := Option.bind_eq_some_iff.1 h
        have hT_16 : DoesA Try.prog [⟨34, [.ptr 0 0, .int .i64 3000], [(C_bateriakit_Drum r_6.2)], (v_bateriakit_Drum_Roll r_14), [(C_bateriakit_Drum r_14.2)]⟩, ⟨35, [.ptr 0 0, (A_api_Span r_7.1)], [(C_bateriakit_Drum r_14.2)], (v_bateriakit_Drum_Of r_15), [(C_bateriakit_Drum r_15.2)]⟩] ∧ ConsA [⟨34, [.ptr 0 0, .int .i64 3000], [(C_bateriakit_Drum r_6.2)], (v_bateriakit_Drum_Roll r_14), [(C_bateriakit_Drum r_14.2)]⟩, ⟨35, [.ptr 0 0, (A_api_Span r_7.1)], [(C_bateriakit_Drum r_14.2)], (v_bateriakit_Drum_Of r_15), [(C_bateriakit_Drum r_15.2)]⟩] := ⟨⟨(d_bateriakit_Drum_Roll N r_6.2 3000 r_14 hr_14), rfl, (d_bateriakit_Drum_Of N r_14.2 r_7.1 r_15 hr_15), rfl, trivial⟩, ⟨⟨ConsR.ne rfl, trivial⟩, trivial, trivial⟩⟩
        refine Ex.drawE (a1 := mkS 110 [(3, .ptr 0 0), (4, .ptr 1 0), (5, .sl (r_4.1.map A_api_Hurdle) none), (6, .int .i64 r_6.1), (7, .ptr 2 0), (8, .int .i64 r_7.2), (41, .bool y_8), (42, .ptr 0 0), (43, .int .i64 r_14.1), (44, .ptr 2 0), (45, .int .i64 r_7.1.Lo), (46, .ptr 2 1), (47, .int .i64 r_7.1.Hi), (48, .ptr 0 0), (49, (A_api_Span r_7.1)), (50, .int .i64 r_15.1), (51, .ptr 2 0), (52, .int .i64 r_7.1.Lo), (53, .int .i64 (IntKind.i64.wrap (r_7.1.Lo - 1))), (54, .int .i64 (if (IntKind.i64.wrap (r_7.1.Lo - 1)) > 0 then (IntKind.i64.wrap (r_7.1.Lo - 1)) else 0)), (55, .ptr 2 1), (56, .int .i64 r_7.1.Hi), (57, .int .i64 (IntKind.i64.wrap (r_7.1.Hi + 1))), (58, .int .i64 (if (IntKind.i64.wrap (r_7.1.Hi + 1)) < 100000 then (IntKind.i64.wrap (r_7.1.Hi + 1)) else 100000))]) (tabO_ok hT_16.1) [] [] [⟨[(C_bateriakit_Drum r_14.2), (C_api_Float r_3.1), (C_api_Span r_7.1)], []⟩, ⟨[(C_bateriakit_Drum r_15.2), (C_api_Float r_3.1), (C_api_Span r_7.1)], []⟩] ?_ ?_
        · refine drS [1, 2] 1 [] [] (mkS 110 [(3, .ptr 0 0), (4, .ptr 1 0), (5, .sl (r_4.1.map A_api_Hurdle) none), (6, .int .i64 r_6.1), (7, .ptr 2 0), (8, .int .i64 r_7.2), (41, .bool y_8), (42, .ptr 0 0)]) (by simp) (by kernel_rfl) trivial (by kernel_rfl) ?_
          refine drB hT_16.2 0 _ [0] [.ptr 0 0, .int .i64 3000] (v_bateriakit_Drum_Roll r_14) _ _ rfl rfl rfl rfl rfl rfl rfl rfl (by simp [ren, ren1, AV.plain, AV.plain1, AV.clean, List.idxOf?, List.findIdx?, List.findIdx?.go, cleanL, cleanI, cleanBo, cleanSt, cleanII, KL_bateriakit_Drum, KL_api_Span, KL_api_Load, KL_api_Float, KL_bateriaref02_Truth, KL_api_Hurdle, KL_V21_i64, KL_float_truth, KL_V2_float_truth, KL_float_weight, A_bateriakit_Drum, C_bateriakit_Drum, A_api_Span, C_api_Span, A_api_Load, C_api_Load, A_api_Float, C_api_Float, A_bateriaref02_Truth, C_bateriaref02_Truth, A_api_Hurdle, C_api_Hurdle, A_V21_i64, C_V21_i64, A_float_truth, C_float_truth, A_V2_float_truth, C_V2_float_truth, A_float_weight, C_float_weight]; try rfl) rfl (by simp [cleanL, AV.clean, cleanL, cleanI, cleanBo, cleanSt, cleanII, KL_bateriakit_Drum, KL_api_Span, KL_api_Load, KL_api_Float, KL_bateriaref02_Truth, KL_api_Hurdle, KL_V21_i64, KL_float_truth, KL_V2_float_truth, KL_float_weight, A_bateriakit_Drum, C_bateriakit_Drum, A_api_Span, C_api_Span, A_api_Load, C_api_Load, A_api_Float, C_api_Float, A_bateriaref02_Truth, C_bateriaref02_Truth, A_api_Hurdle, C_api_Hurdle, A_V21_i64, C_V21_i64, A_float_truth, C_float_truth, A_V2_float_truth, C_V2_float_truth, A_float_weight, C_float_weight]) (b_bateriakit_Drum_Roll _ _ _ _) (by simp [cleanL, AV.clean, cleanL, cleanI, cleanBo, cleanSt, cleanII, KL_bateriakit_Drum, KL_api_Span, KL_api_Load, KL_api_Float, KL_bateriaref02_Truth, KL_api_Hurdle, KL_V21_i64, KL_float_truth, KL_V2_float_truth, KL_float_weight, A_bateriakit_Drum, C_bateriakit_Drum, A_api_Span, C_api_Span, A_api_Load, C_api_Load, A_api_Float, C_api_Float, A_bateriaref02_Truth, C_bateriaref02_Truth, A_api_Hurdle, C_api_Hurdle, A_V21_i64, C_V21_i64, A_float_truth, C_float_truth, A_V2_float_truth, C_V2_float_truth, A_float_weight, C_float_weight]) rfl ?_
          refine drS [1, 2] 6 [] [] (mkS 110 [(3, .ptr 0 0), (4, .ptr 1 0), (5, .sl (r_4.1.map A_api_Hurdle) none), (6, .int .i64 r_6.1), (7, .ptr 2 0), (8, .int .i64 r_7.2), (41, .bool y_8), (42, .ptr 0 0), (43, .int .i64 r_14.1), (44, .ptr 2 0), (45, .int .i64 r_7.1.Lo), (46, .ptr 2 1), (47, .int .i64 r_7.1.Hi), (48, .ptr 0 0), (49, (A_api_Span r_7.1))]) (by simp) (by kernel_rfl) trivial (by kernel_rfl) ?_
          refine drB hT_16.2 1 _ [0] [.ptr 0 0, (A_api_Span r_7.1)] (v_bateriakit_Drum_Of r_15) _ _ rfl rfl rfl rfl rfl rfl rfl rfl (by simp [ren, ren1, AV.plain, AV.plain1, AV.clean, List.idxOf?, List.findIdx?, List.findIdx?.go, cleanL, cleanI, cleanBo, cleanSt, cleanII, KL_bateriakit_Drum, KL_api_Span, KL_api_Load, KL_api_Float, KL_bateriaref02_Truth, KL_api_Hurdle, KL_V21_i64, KL_float_truth, KL_V2_float_truth, KL_float_weight, A_bateriakit_Drum, C_bateriakit_Drum, A_api_Span, C_api_Span, A_api_Load, C_api_Load, A_api_Float, C_api_Float, A_bateriaref02_Truth, C_bateriaref02_Truth, A_api_Hurdle, C_api_Hurdle, A_V21_i64, C_V21_i64, A_float_truth, C_float_truth, A_V2_float_truth, C_V2_float_truth, A_float_weight, C_float_weight]; try rfl) rfl (by simp [cleanL, AV.clean, cleanL, cleanI, cleanBo, cleanSt, cleanII, KL_bateriakit_Drum, KL_api_Span, KL_api_Load, KL_api_Float, KL_bateriaref02_Truth, KL_api_Hurdle, KL_V21_i64, KL_float_truth, KL_V2_float_truth, KL_float_weight, A_bateriakit_Drum, C_bateriakit_Drum, A_api_Span, C_api_Span, A_api_Load, C_api_Load, A_api_Float, C_api_Float, A_bateriaref02_Truth, C_bateriaref02_Truth, A_api_Hurdle, C_api_Hurdle, A_V21_i64, C_V21_i64, A_float_truth, C_float_truth, A_V2_float_truth, C_V2_float_truth, A_float_weight, C_float_weight]) (b_bateriakit_Drum_Of _ _ _ _) (by simp [cleanL, AV.clean, cleanL, cleanI, cleanBo, cleanSt, cleanII, KL_bateriakit_Drum, KL_api_Span, KL_api_Load, KL_api_Float, KL_bateriaref02_Truth, KL_api_Hurdle, KL_V21_i64, KL_float_truth, KL_V2_float_truth, KL_float_weight, A_bateriakit_Drum, C_bateriakit_Drum, A_api_Span, C_api_Span, A_api_Load, C_api_Load, A_api_Float, C_api_Float, A_bateriaref02_Truth, C_bateriaref02_Truth, A_api_Hurdle, C_api_Hurdle, A_V21_i64, C_V21_i64, A_float_truth, C_float_truth, A_V2_float_truth, C_V2_float_truth, A_float_weight, C_float_weight]) rfl ?_
          refine drS [1, 2] 8 [] [] (mkS 110 [(3, .ptr 0 0), (4, .ptr 1 0), (5, .sl (r_4.1.map A_api_Hurdle) none), (6, .int .i64 r_6.1), (7, .ptr 2 0), (8, .int .i64 r_7.2), (41, .bool y_8), (42, .ptr 0 0), (43, .int .i64 r_14.1), (44, .ptr 2 0), (45, .int .i64 r_7.1.Lo), (46, .ptr 2 1), (47, .int .i64 r_7.1.Hi), (48, .ptr 0 0), (49, (A_api_Span r_7.1)), (50, .int .i64 r_15.1), (51, .ptr 2 0), (52, .int .i64 r_7.1.Lo), (53, .int .i64 (IntKind.i64.wrap (r_7.1.Lo - 1))), (54, .int .i64 (if (IntKind.i64.wrap (r_7.1.Lo - 1)) > 0 then (IntKind.i64.wrap (r_7.1.Lo - 1)) else 0)), (55, .ptr 2 1), (56, .int .i64 r_7.1.Hi), (57, .int .i64 (IntKind.i64.wrap (r_7.1.Hi + 1))), (58, .int .i64 (if (IntKind.i64.wrap (r_7.1.Hi + 1)) < 100000 then (IntKind.i64.wrap (r_7.1.Hi + 1)) else 100000))]) (by simp) (by kernel_rfl) trivial (by kernel_rfl) ?_
          exact DrO.nil rfl
        · dsimp only [List.getLastD_cons, List.getLastD_nil]
          refine runH 2 [] [4, 5, 6, 7, 8, 9] [] (mkS 110 [(4, .ptr 1 0), (5, .sl (r_4.1.map A_api_Hurdle) none), (6, .int .i64 r_6.1), (7, .ptr 2 0), (8, .int .i64 r_7.2), (9, .sl (([0, r_14.1, 100000, r_7.1.Lo, r_7.1.Hi, r_15.1, (if (IntKind.i64.wrap (r_7.1.Lo - 1)) > 0 then (IntKind.i64.wrap (r_7.1.Lo - 1)) else 0), (if (IntKind.i64.wrap (r_7.1.Hi + 1)) < 100000 then (IntKind.i64.wrap (r_7.1.Hi + 1)) else 100000)] : List Int).map (AV.int .i64)) (some 0))]) (⟨[(C_bateriakit_Drum r_15.2), (C_api_Float r_3.1), (C_api_Span r_7.1)], [(8, 1)]⟩) (by kernel_rfl) trivial ?_
          refine ExO.nil ?_
          refine Ex.seq ?_
          refine Ex.seq ?_
          refine regH 1 [] [4, 5, 6, 7, 8, 9, 10] [] (mkS 110 [(4, .ptr 1 0), (5, .sl (r_4.1.map A_api_Hurdle) none), (6, .int .i64 r_6.1), (7, .ptr 2 0), (8, .int .i64 r_7.2), (9, .sl (([0, r_14.1, 100000, r_7.1.Lo, r_7.1.Hi, r_15.1, (if (IntKind.i64.wrap (r_7.1.Lo - 1)) > 0 then (IntKind.i64.wrap (r_7.1.Lo - 1)) else 0), (if (IntKind.i64.wrap (r_7.1.Hi + 1)) < 100000 then (IntKind.i64.wrap (r_7.1.Hi + 1)) else 100000)] : List Int).map (AV.int .i64)) (some 0)), (10, .int .i64 0)]) (⟨[(C_bateriakit_Drum r_15.2), (C_api_Float r_3.1), (C_api_Span r_7.1)], [(8, 1)]⟩) (by kernel_rfl) trivial rfl ?_
          obtain ⟨K_18, hK_19, h⟩ := letE h
          refine Ex.blockJ (fun a S => K_18 () = some r ∧ a = mkS 110 [] ∧ S = ⟨[], []⟩) ?_ ?_ (by first | exact fun _ _ _ _ hf h => Ex.forget hf h | exact fun _ _ _ _ hf ⟨a2, S2, hf2, h⟩ => ⟨a2, S2, hf.trans hf2, h⟩)
          · obtain ⟨B_22, hB_23, h⟩ := loop1I h
            refine Ex.loopF (fun k a S => ∃ (i_20 : Int), loop1 B_22 k i_20 = some r ∧ a = mkS 110 [(4, .ptr 1 0), (5, .sl (r_4.1.map A_api_Hurdle) none), (6, .int .i64 r_6.1), (7, .ptr 2 0), (8, .int .i64 r_7.2), (9, .sl (([0, r_14.1, 100000, r_7.1.Lo, r_7.1.Hi, r_15.1, (if (IntKind.i64.wrap (r_7.1.Lo - 1)) > 0 then (IntKind.i64.wrap (r_7.1.Lo - 1)) else 0), (if (IntKind.i64.wrap (r_7.1.Hi + 1)) < 100000 then (IntKind.i64.wrap (r_7.1.Hi + 1)) else 100000)] : List Int).map (AV.int .i64)) (some 0)), (10, .int .i64 i_20)] ∧ S = ⟨[(C_bateriakit_Drum r_15.2), (C_api_Float r_3.1), (C_api_Span r_7.1)], [(8, 1)]⟩) N ⟨_, _, Forgets.refl _ _ _, 0, h, rfl, rfl⟩ ?_
            rintro k a S ⟨i_20, h, rfl, rfl⟩
            cases k with
            | zero => exact (loop1Z h).elim
            | succ k =>
              replace h := loop1S h hB_23
              refine Ex.seq ?_
              refine Ex.seq ?_
              refine regH 4 [] [4, 5, 6, 7, 8, 9, 10, 63] [] (mkS 110 [(4, .ptr 1 0), (5, .sl (r_4.1.map A_api_Hurdle) none), (6, .int .i64 r_6.1), (7, .ptr 2 0), (8, .int .i64 r_7.2), (9, .sl (([0, r_14.1, 100000, r_7.1.Lo, r_7.1.Hi, r_15.1, (if (IntKind.i64.wrap (r_7.1.Lo - 1)) > 0 then (IntKind.i64.wrap (r_7.1.Lo - 1)) else 0), (if (IntKind.i64.wrap (r_7.1.Hi + 1)) < 100000 then (IntKind.i64.wrap (r_7.1.Hi + 1)) else 100000)] : List Int).map (AV.int .i64)) (some 0)), (10, .int .i64 i_20), (63, .bool (decide (i_20 < 8)))]) (⟨[(C_bateriakit_Drum r_15.2), (C_api_Float r_3.1), (C_api_Span r_7.1)], [(8, 1)]⟩) (by kernel_rfl) trivial rfl ?_
              rcases condI h with ⟨hc_24, h⟩ | ⟨hc_24, h⟩
              · refine Ex.condT _ rfl hc_24 ?_
                refine Ex.skip ?_
                refine Ex.seq ?_
                refine Ex.blockK ?_
                refine Ex.seq ?_
                obtain ⟨x_25, hx_25, h⟩ := Option.bind_eq_some_iff.1 h
                obtain ⟨r_26, hr_26, h⟩ := Option.bind_eq_some_iff.1 h
                have hT_27 : DoesA Try.prog [⟨36, [(A_api_Float r_3.1), .int .i64 r_6.1, .int .i64 x_25], [], (v_bateriaref02_With r_26), []⟩] ∧ ConsA [⟨36, [(A_api_Float r_3.1), .int .i64 r_6.1, .int .i64 x_25], [], (v_bateriaref02_With r_26), []⟩] := ⟨⟨(d_bateriaref02_With N r_3.1 r_6.1 x_25 r_26 hr_26), rfl, trivial⟩, ⟨trivial, trivial⟩⟩
                refine Ex.drawE (a1 := mkS 110 [(4, .ptr 1 0), (5, .sl (r_4.1.map A_api_Hurdle) none), (6, .int .i64 r_6.1), (7, .ptr 2 0), (8, .int .i64 r_7.2), (9, .sl (([0, r_14.1, 100000, r_7.1.Lo, r_7.1.Hi, r_15.1, (if (IntKind.i64.wrap (r_7.1.Lo - 1)) > 0 then (IntKind.i64.wrap (r_7.1.Lo - 1)) else 0), (if (IntKind.i64.wrap (r_7.1.Hi + 1)) < 100000 then (IntKind.i64.wrap (r_7.1.Hi + 1)) else 100000)] : List Int).map (AV.int .i64)) (some 0)), (10, .int .i64 i_20), (11, .ptr 3 0), (63, .bool (decide (i_20 < 8))), (66, (A_api_Float r_3.1)), (67, .int .i64 r_6.1), (68, .sl (([0, r_14.1, 100000, r_7.1.Lo, r_7.1.Hi, r_15.1, (if (IntKind.i64.wrap (r_7.1.Lo - 1)) > 0 then (IntKind.i64.wrap (r_7.1.Lo - 1)) else 0), (if (IntKind.i64.wrap (r_7.1.Hi + 1)) < 100000 then (IntKind.i64.wrap (r_7.1.Hi + 1)) else 100000)] : List Int).map (AV.int .i64)) (some 0)), (69, .int .i64 i_20), (70, .rop [.int .i64 x_25]), (71, .int .i64 x_25), (72, (A_api_Float r_26))]) (tabO_ok hT_27.1) [[.int .i64 0, .int .i64 0, .int .i64 0, .int .i64 0, .int .i64 0, .int .i64 0, .int .i64 0, .int .i64 0, .nils]] [] [] ?_ ?_
                · refine drS [0, 1, 2, 3] 6 [(4, .rop [.int .i64 x_25])] [LGet (([0, r_14.1, 100000, r_7.1.Lo, r_7.1.Hi, r_15.1, (if (IntKind.i64.wrap (r_7.1.Lo - 1)) > 0 then (IntKind.i64.wrap (r_7.1.Lo - 1)) else 0), (if (IntKind.i64.wrap (r_7.1.Hi + 1)) < 100000 then (IntKind.i64.wrap (r_7.1.Hi + 1)) else 100000)] : List Int).map (AV.int .i64)) i_20 1 [.int .i64 x_25]] (mkS 110 [(4, .ptr 1 0), (5, .sl (r_4.1.map A_api_Hurdle) none), (6, .int .i64 r_6.1), (7, .ptr 2 0), (8, .int .i64 r_7.2), (9, .sl (([0, r_14.1, 100000, r_7.1.Lo, r_7.1.Hi, r_15.1, (if (IntKind.i64.wrap (r_7.1.Lo - 1)) > 0 then (IntKind.i64.wrap (r_7.1.Lo - 1)) else 0), (if (IntKind.i64.wrap (r_7.1.Hi + 1)) < 100000 then (IntKind.i64.wrap (r_7.1.Hi + 1)) else 100000)] : List Int).map (AV.int .i64)) (some 0)), (10, .int .i64 i_20), (63, .bool (decide (i_20 < 8))), (66, (A_api_Float r_3.1)), (67, .int .i64 r_6.1), (68, .sl (([0, r_14.1, 100000, r_7.1.Lo, r_7.1.Hi, r_15.1, (if (IntKind.i64.wrap (r_7.1.Lo - 1)) > 0 then (IntKind.i64.wrap (r_7.1.Lo - 1)) else 0), (if (IntKind.i64.wrap (r_7.1.Hi + 1)) < 100000 then (IntKind.i64.wrap (r_7.1.Hi + 1)) else 100000)] : List Int).map (AV.int .i64)) (some 0)), (69, .int .i64 i_20), (70, .rop [.int .i64 x_25]), (71, .int .i64 x_25)]) (by simp) (by kernel_rfl) ⟨LGet.of hx_25 rfl, trivial⟩ (by kernel_rfl) ?_
                  refine drC hT_27.2 0 _ [(A_api_Float r_3.1), .int .i64 r_6.1, .int .i64 x_25] (v_bateriaref02_With r_26) rfl rfl rfl rfl rfl (fun _ => rfl) rfl (by simp [ren, ren1, AV.plain, AV.plain1, AV.clean, List.idxOf?, List.findIdx?, List.findIdx?.go, cleanL, cleanI, cleanBo, cleanSt, cleanII, KL_bateriakit_Drum, KL_api_Span, KL_api_Load, KL_api_Float, KL_bateriaref02_Truth, KL_api_Hurdle, KL_V21_i64, KL_float_truth, KL_V2_float_truth, KL_float_weight, A_bateriakit_Drum, C_bateriakit_Drum, A_api_Span, C_api_Span, A_api_Load, C_api_Load, A_api_Float, C_api_Float, A_bateriaref02_Truth, C_bateriaref02_Truth, A_api_Hurdle, C_api_Hurdle, A_V21_i64, C_V21_i64, A_float_truth, C_float_truth, A_V2_float_truth, C_V2_float_truth, A_float_weight, C_float_weight]; try rfl) (fun _ => b_bateriaref02_With _ _ _ _) ?_
                  refine drX 3 [.int .i64 0, .int .i64 0, .int .i64 0, .int .i64 0, .int .i64 0, .int .i64 0, .int .i64 0, .int .i64 0, .nils] rfl rfl (fun _ => rfl) (by simp) rfl rfl ?_
                  exact DrO.nil rfl
                · dsimp only [List.getLastD_cons, List.getLastD_nil]
                  refine runH 1 [] [4, 5, 6, 7, 8, 9, 10, 11] [] (mkS 110 [(4, .ptr 1 0), (5, .sl (r_4.1.map A_api_Hurdle) none), (6, .int .i64 r_6.1), (7, .ptr 2 0), (8, .int .i64 r_7.2), (9, .sl (([0, r_14.1, 100000, r_7.1.Lo, r_7.1.Hi, r_15.1, (if (IntKind.i64.wrap (r_7.1.Lo - 1)) > 0 then (IntKind.i64.wrap (r_7.1.Lo - 1)) else 0), (if (IntKind.i64.wrap (r_7.1.Hi + 1)) < 100000 then (IntKind.i64.wrap (r_7.1.Hi + 1)) else 100000)] : List Int).map (AV.int .i64)) (some 0)), (10, .int .i64 i_20), (11, .ptr 3 0)]) (⟨[(C_bateriakit_Drum r_15.2), (C_api_Float r_3.1), (C_api_Span r_7.1), (C_api_Float r_26)], [(8, 1)]⟩) (by kernel_rfl) trivial ?_
                  refine ExO.nil ?_
                  refine Ex.seq ?_
                  obtain ⟨r_28, hr_28, h⟩ := Option.bind_eq_some_iff.1 h
                  refine Ex.reg ?_
                  refine runH 1 [] [4, 5, 6, 7, 8, 9, 10, 11, 74] [] (mkS 110 [(4, .ptr 1 0), (5, .sl (r_4.1.map A_api_Hurdle) none), (6, .int .i64 r_6.1), (7, .ptr 2 0), (8, .int .i64 r_7.2), (9, .sl (([0, r_14.1, 100000, r_7.1.Lo, r_7.1.Hi, r_15.1, (if (IntKind.i64.wrap (r_7.1.Lo - 1)) > 0 then (IntKind.i64.wrap (r_7.1.Lo - 1)) else 0), (if (IntKind.i64.wrap (r_7.1.Hi + 1)) < 100000 then (IntKind.i64.wrap (r_7.1.Hi + 1)) else 100000)] : List Int).map (AV.int .i64)) (some 0)), (10, .int .i64 i_20), (11, .ptr 3 0), (74, (A_api_Float r_26))]) (⟨[(C_bateriakit_Drum r_15.2), (C_api_Float r_3.1), (C_api_Span r_7.1), (C_api_Float r_26)], [(8, 1)]⟩) (by kernel_rfl) trivial ?_
                  refine ExO.callL [] [(A_api_Float r_26)] rfl rfl (a_float_Stands r_26) rfl rfl (d_float_Stands N r_26 r_28 hr_28) (b_float_Stands _ _ _ _) rfl ?_
                  refine runH 5 [] [4, 5, 6, 7, 8, 9, 10, 11, 12, 13] [] (mkS 110 [(4, .ptr 1 0), (5, .sl (r_4.1.map A_api_Hurdle) none), (6, .int .i64 r_6.1), (7, .ptr 2 0), (8, .int .i64 r_7.2), (9, .sl (([0, r_14.1, 100000, r_7.1.Lo, r_7.1.Hi, r_15.1, (if (IntKind.i64.wrap (r_7.1.Lo - 1)) > 0 then (IntKind.i64.wrap (r_7.1.Lo - 1)) else 0), (if (IntKind.i64.wrap (r_7.1.Hi + 1)) < 100000 then (IntKind.i64.wrap (r_7.1.Hi + 1)) else 100000)] : List Int).map (AV.int .i64)) (some 0)), (10, .int .i64 i_20), (11, .ptr 3 0), (12, .int .i64 r_28.1), (13, .int .i64 r_28.2)]) (⟨[(C_bateriakit_Drum r_15.2), (C_api_Float r_3.1), (C_api_Span r_7.1), (C_api_Float r_26)], [(8, 1)]⟩) (by kernel_rfl) trivial ?_
                  refine ExO.nil ?_
                  refine Ex.seq ?_
                  obtain ⟨r_29, hr_29, h⟩ := Option.bind_eq_some_iff.1 h
                  refine Ex.reg ?_
                  refine runH 2 [] [4, 5, 6, 7, 8, 9, 10, 12, 13, 79, 80] [] (mkS 110 [(4, .ptr 1 0), (5, .sl (r_4.1.map A_api_Hurdle) none), (6, .int .i64 r_6.1), (7, .ptr 2 0), (8, .int .i64 r_7.2), (9, .sl (([0, r_14.1, 100000, r_7.1.Lo, r_7.1.Hi, r_15.1, (if (IntKind.i64.wrap (r_7.1.Lo - 1)) > 0 then (IntKind.i64.wrap (r_7.1.Lo - 1)) else 0), (if (IntKind.i64.wrap (r_7.1.Hi + 1)) < 100000 then (IntKind.i64.wrap (r_7.1.Hi + 1)) else 100000)] : List Int).map (AV.int .i64)) (some 0)), (10, .int .i64 i_20), (12, .int .i64 r_28.1), (13, .int .i64 r_28.2), (79, (A_api_Float r_26)), (80, .sl (r_4.1.map A_api_Hurdle) none)]) (⟨[(C_bateriakit_Drum r_15.2), (C_api_Float r_3.1), (C_api_Span r_7.1), (C_api_Float r_26)], [(8, 1)]⟩) (by kernel_rfl) trivial ?_
                  refine ExO.callL [] [(A_api_Float r_26), .sl (r_4.1.map A_api_Hurdle) none] rfl rfl (a_float_Stops r_26 r_4.1) rfl rfl (d_float_Stops N r_26 r_4.1 r_29 hr_29) (b_float_Stops _ _ _ _) rfl ?_
                  refine runH 5 [] [4, 5, 6, 7, 8, 9, 10, 12, 13, 14, 15] [] (mkS 110 [(4, .ptr 1 0), (5, .sl (r_4.1.map A_api_Hurdle) none), (6, .int .i64 r_6.1), (7, .ptr 2 0), (8, .int .i64 r_7.2), (9, .sl (([0, r_14.1, 100000, r_7.1.Lo, r_7.1.Hi, r_15.1, (if (IntKind.i64.wrap (r_7.1.Lo - 1)) > 0 then (IntKind.i64.wrap (r_7.1.Lo - 1)) else 0), (if (IntKind.i64.wrap (r_7.1.Hi + 1)) < 100000 then (IntKind.i64.wrap (r_7.1.Hi + 1)) else 100000)] : List Int).map (AV.int .i64)) (some 0)), (10, .int .i64 i_20), (12, .int .i64 r_28.1), (13, .int .i64 r_28.2), (14, .int .i64 r_29.1), (15, .int .i64 r_29.2)]) (⟨[(C_bateriakit_Drum r_15.2), (C_api_Float r_3.1), (C_api_Span r_7.1), (C_api_Float r_26)], [(8, 1)]⟩) (by kernel_rfl) trivial ?_
                  refine ExO.nil ?_
                  obtain ⟨K_32, hK_33, h⟩ := letE h
                  refine Ex.seqJ (fun a S => ∃ (y_30 : Bool), K_32 y_30 = some r ∧ a = mkS 110 [(4, .ptr 1 0), (5, .sl (r_4.1.map A_api_Hurdle) none), (6, .int .i64 r_6.1), (7, .ptr 2 0), (8, .int .i64 r_7.2), (9, .sl (([0, r_14.1, 100000, r_7.1.Lo, r_7.1.Hi, r_15.1, (if (IntKind.i64.wrap (r_7.1.Lo - 1)) > 0 then (IntKind.i64.wrap (r_7.1.Lo - 1)) else 0), (if (IntKind.i64.wrap (r_7.1.Hi + 1)) < 100000 then (IntKind.i64.wrap (r_7.1.Hi + 1)) else 100000)] : List Int).map (AV.int .i64)) (some 0)), (10, .int .i64 i_20), (108, .bool y_30)] ∧ S = ⟨[(C_bateriakit_Drum r_15.2), (C_api_Float r_3.1), (C_api_Span r_7.1)], [(8, 1)]⟩) ?_ ?_
                  · rcases condI h with ⟨hc_34, h⟩ | ⟨hc_34, h⟩
                    · refine dregX (noClr_ok _) [(2, .eq (.bool true))] [] [4, 5, 6, 7, 8, 9, 10, 108] [AV.bool (r_28.2 != 0) = AV.bool true] [] (mkS 110 [(4, .ptr 1 0), (5, .sl (r_4.1.map A_api_Hurdle) none), (6, .int .i64 r_6.1), (7, .ptr 2 0), (8, .int .i64 r_7.2), (9, .sl (([0, r_14.1, 100000, r_7.1.Lo, r_7.1.Hi, r_15.1, (if (IntKind.i64.wrap (r_7.1.Lo - 1)) > 0 then (IntKind.i64.wrap (r_7.1.Lo - 1)) else 0), (if (IntKind.i64.wrap (r_7.1.Hi + 1)) < 100000 then (IntKind.i64.wrap (r_7.1.Hi + 1)) else 100000)] : List Int).map (AV.int .i64)) (some 0)), (10, .int .i64 i_20), (12, .int .i64 r_28.1), (13, .int .i64 r_28.2), (14, .int .i64 r_29.1), (15, .int .i64 r_29.2), (84, .int .i64 r_28.2), (85, .bool (r_28.2 != 0)), (86, .bool true), (87, .tup []), (88, .tup []), (89, .bool true), (90, .bool true), (91, .tup []), (92, .tup []), (93, .tup []), (94, .tup []), (95, .tup []), (96, .tup []), (97, .tup []), (98, .tup []), (99, .tup []), (100, .tup []), (101, .tup []), (102, .tup []), (103, .tup []), (104, .tup []), (105, .tup []), (106, .tup [])]) (mkS 110 [(4, .ptr 1 0), (5, .sl (r_4.1.map A_api_Hurdle) none), (6, .int .i64 r_6.1), (7, .ptr 2 0), (8, .int .i64 r_7.2), (9, .sl (([0, r_14.1, 100000, r_7.1.Lo, r_7.1.Hi, r_15.1, (if (IntKind.i64.wrap (r_7.1.Lo - 1)) > 0 then (IntKind.i64.wrap (r_7.1.Lo - 1)) else 0), (if (IntKind.i64.wrap (r_7.1.Hi + 1)) < 100000 then (IntKind.i64.wrap (r_7.1.Hi + 1)) else 100000)] : List Int).map (AV.int .i64)) (some 0)), (10, .int .i64 i_20), (108, .bool true)]) (by kernel_rfl) (by kernel_rfl) ⟨congrArg AV.bool hc_34, trivial⟩ (by kernel_rfl) trivial (by first | exact fun _ _ _ _ hf h => Ex.forget hf h | exact fun _ _ _ _ hf ⟨a2, S2, hf2, h⟩ => ⟨a2, S2, hf.trans hf2, h⟩) ?_
                      (try simp only [reduceCtorEq, AEx.ex.injEq, Nat.reduceEqDiff, if_true, if_false])
                      exact ⟨_, _, forgetA (m := 110) 3 [0] [(4, .ptr 1 0), (5, .sl (r_4.1.map A_api_Hurdle) none), (6, .int .i64 r_6.1), (7, .ptr 2 0), (8, .int .i64 r_7.2), (9, .sl (([0, r_14.1, 100000, r_7.1.Lo, r_7.1.Hi, r_15.1, (if (IntKind.i64.wrap (r_7.1.Lo - 1)) > 0 then (IntKind.i64.wrap (r_7.1.Lo - 1)) else 0), (if (IntKind.i64.wrap (r_7.1.Hi + 1)) < 100000 then (IntKind.i64.wrap (r_7.1.Hi + 1)) else 100000)] : List Int).map (AV.int .i64)) (some 0)), (10, .int .i64 i_20), (108, .bool true)] [(C_bateriakit_Drum r_15.2), (C_api_Float r_3.1), (C_api_Span r_7.1)] [(8, 1)] (by simp) (by simp) ⟨rfl, (reN (KL_api_Hurdle _)), rfl, rfl, rfl, (reT (cleanI _ _) rfl), rfl, rfl, trivial⟩ (by simp [re, re1, AV.clean, List.idxOf?, List.findIdx?, List.findIdx?.go, cleanL, cleanI, cleanBo, cleanSt, cleanII, KL_bateriakit_Drum, KL_api_Span, KL_api_Load, KL_api_Float, KL_bateriaref02_Truth, KL_api_Hurdle, KL_V21_i64, KL_float_truth, KL_V2_float_truth, KL_float_weight, KB_bateriakit_Drum, KB_api_Span, KB_api_Load, KB_api_Float, KB_bateriaref02_Truth, KB_api_Hurdle, KB_V21_i64, KB_float_truth, KB_V2_float_truth, KB_float_weight]) rfl (by decide), true, h, rfl, rfl⟩
                    · rcases condI h with ⟨hc_35, h⟩ | ⟨hc_35, h⟩
                      · refine dregX (noClr_ok _) [(2, .eq (.bool false)), (6, .eq (.bool true))] [] [4, 5, 6, 7, 8, 9, 10, 108] [AV.bool (r_28.2 != 0) = AV.bool false, AV.bool (r_29.2 != 0) = AV.bool true] [] (mkS 110 [(4, .ptr 1 0), (5, .sl (r_4.1.map A_api_Hurdle) none), (6, .int .i64 r_6.1), (7, .ptr 2 0), (8, .int .i64 r_7.2), (9, .sl (([0, r_14.1, 100000, r_7.1.Lo, r_7.1.Hi, r_15.1, (if (IntKind.i64.wrap (r_7.1.Lo - 1)) > 0 then (IntKind.i64.wrap (r_7.1.Lo - 1)) else 0), (if (IntKind.i64.wrap (r_7.1.Hi + 1)) < 100000 then (IntKind.i64.wrap (r_7.1.Hi + 1)) else 100000)] : List Int).map (AV.int .i64)) (some 0)), (10, .int .i64 i_20), (12, .int .i64 r_28.1), (13, .int .i64 r_28.2), (14, .int .i64 r_29.1), (15, .int .i64 r_29.2), (84, .int .i64 r_28.2), (85, .bool (r_28.2 != 0)), (86, .bool false), (87, .int .i64 r_29.2), (88, .bool (r_29.2 != 0)), (89, .bool (r_29.2 != 0)), (90, .bool true), (91, .tup []), (92, .tup []), (93, .tup []), (94, .tup []), (95, .tup []), (96, .tup []), (97, .tup []), (98, .tup []), (99, .tup []), (100, .tup []), (101, .tup []), (102, .tup []), (103, .tup []), (104, .tup []), (105, .tup []), (106, .tup [])]) (mkS 110 [(4, .ptr 1 0), (5, .sl (r_4.1.map A_api_Hurdle) none), (6, .int .i64 r_6.1), (7, .ptr 2 0), (8, .int .i64 r_7.2), (9, .sl (([0, r_14.1, 100000, r_7.1.Lo, r_7.1.Hi, r_15.1, (if (IntKind.i64.wrap (r_7.1.Lo - 1)) > 0 then (IntKind.i64.wrap (r_7.1.Lo - 1)) else 0), (if (IntKind.i64.wrap (r_7.1.Hi + 1)) < 100000 then (IntKind.i64.wrap (r_7.1.Hi + 1)) else 100000)] : List Int).map (AV.int .i64)) (some 0)), (10, .int .i64 i_20), (108, .bool true)]) (by kernel_rfl) (by kernel_rfl) ⟨congrArg AV.bool hc_34, congrArg AV.bool hc_35, trivial⟩ (by kernel_rfl) trivial (by first | exact fun _ _ _ _ hf h => Ex.forget hf h | exact fun _ _ _ _ hf ⟨a2, S2, hf2, h⟩ => ⟨a2, S2, hf.trans hf2, h⟩) ?_
                        (try simp only [reduceCtorEq, AEx.ex.injEq, Nat.reduceEqDiff, if_true, if_false])
                        exact ⟨_, _, forgetA (m := 110) 3 [0] [(4, .ptr 1 0), (5, .sl (r_4.1.map A_api_Hurdle) none), (6, .int .i64 r_6.1), (7, .ptr 2 0), (8, .int .i64 r_7.2), (9, .sl (([0, r_14.1, 100000, r_7.1.Lo, r_7.1.Hi, r_15.1, (if (IntKind.i64.wrap (r_7.1.Lo - 1)) > 0 then (IntKind.i64.wrap (r_7.1.Lo - 1)) else 0), (if (IntKind.i64.wrap (r_7.1.Hi + 1)) < 100000 then (IntKind.i64.wrap (r_7.1.Hi + 1)) else 100000)] : List Int).map (AV.int .i64)) (some 0)), (10, .int .i64 i_20), (108, .bool true)] [(C_bateriakit_Drum r_15.2), (C_api_Float r_3.1), (C_api_Span r_7.1)] [(8, 1)] (by simp) (by simp) ⟨rfl, (reN (KL_api_Hurdle _)), rfl, rfl, rfl, (reT (cleanI _ _) rfl), rfl, rfl, trivial⟩ (by simp [re, re1, AV.clean, List.idxOf?, List.findIdx?, List.findIdx?.go, cleanL, cleanI, cleanBo, cleanSt, cleanII, KL_bateriakit_Drum, KL_api_Span, KL_api_Load, KL_api_Float, KL_bateriaref02_Truth, KL_api_Hurdle, KL_V21_i64, KL_float_truth, KL_V2_float_truth, KL_float_weight, KB_bateriakit_Drum, KB_api_Span, KB_api_Load, KB_api_Float, KB_bateriaref02_Truth, KB_api_Hurdle, KB_V21_i64, KB_float_truth, KB_V2_float_truth, KB_float_weight]) rfl (by decide), true, h, rfl, rfl⟩
                      · rcases condI h with ⟨hc_36, h⟩ | ⟨hc_36, h⟩
                        · rcases condI h with ⟨hc_37, h⟩ | ⟨hc_37, h⟩
                          · obtain ⟨x_38, hx_38, h⟩ := Option.bind_eq_some_iff.1 h
                            obtain ⟨r_39, hr_39, h⟩ := Option.bind_eq_some_iff.1 h
                            have hT_40 : DoesA Try.prog [⟨37, [(A_api_Span r_7.1), .int .i64 x_38], [], (v_bateriakit_In r_39), []⟩] ∧ ConsA [⟨37, [(A_api_Span r_7.1), .int .i64 x_38], [], (v_bateriakit_In r_39), []⟩] := ⟨⟨(d_bateriakit_In N r_7.1 x_38 r_39 hr_39), rfl, trivial⟩, ⟨trivial, trivial⟩⟩
                            refine Ex.drawE (a1 := mkS 110 [(4, .ptr 1 0), (5, .sl (r_4.1.map A_api_Hurdle) none), (6, .int .i64 r_6.1), (7, .ptr 2 0), (8, .int .i64 r_7.2), (9, .sl (([0, r_14.1, 100000, r_7.1.Lo, r_7.1.Hi, r_15.1, (if (IntKind.i64.wrap (r_7.1.Lo - 1)) > 0 then (IntKind.i64.wrap (r_7.1.Lo - 1)) else 0), (if (IntKind.i64.wrap (r_7.1.Hi + 1)) < 100000 then (IntKind.i64.wrap (r_7.1.Hi + 1)) else 100000)] : List Int).map (AV.int .i64)) (some 0)), (10, .int .i64 i_20), (12, .int .i64 r_28.1), (13, .int .i64 r_28.2), (14, .int .i64 r_29.1), (15, .int .i64 r_29.2), (84, .int .i64 r_28.2), (85, .bool (r_28.2 != 0)), (86, .bool false), (87, .int .i64 r_29.2), (88, .bool (r_29.2 != 0)), (89, .bool (r_29.2 != 0)), (90, .bool false), (91, .int .i64 r_28.1), (92, .bool (r_28.1 == 1)), (93, .bool true), (94, .int .i64 r_29.1), (95, .bool (r_29.1 == (-1))), (96, .bool (r_29.1 == (-1))), (97, .int .i64 r_7.2), (98, .bool (r_7.2 == 0)), (99, .bool true), (100, (A_api_Span r_7.1)), (101, .sl (([0, r_14.1, 100000, r_7.1.Lo, r_7.1.Hi, r_15.1, (if (IntKind.i64.wrap (r_7.1.Lo - 1)) > 0 then (IntKind.i64.wrap (r_7.1.Lo - 1)) else 0), (if (IntKind.i64.wrap (r_7.1.Hi + 1)) < 100000 then (IntKind.i64.wrap (r_7.1.Hi + 1)) else 100000)] : List Int).map (AV.int .i64)) (some 0)), (102, .int .i64 i_20), (103, .rop [.int .i64 x_38]), (104, .int .i64 x_38), (105, .bool r_39), (106, .bool r_39)]) (tabO_ok hT_40.1) [] [] [] ?_ ?_
                            · refine drS [0, 1, 2, 3] 21 [(2, .eq (.bool false)), (6, .eq (.bool false)), (9, .eq (.bool true)), (15, .eq (.bool true)), (19, .rop [.int .i64 x_38])] [AV.bool (r_28.2 != 0) = AV.bool false, AV.bool (r_29.2 != 0) = AV.bool false, AV.bool (r_28.1 == 1) = AV.bool true, AV.bool (r_7.2 == 0) = AV.bool true, LGet (([0, r_14.1, 100000, r_7.1.Lo, r_7.1.Hi, r_15.1, (if (IntKind.i64.wrap (r_7.1.Lo - 1)) > 0 then (IntKind.i64.wrap (r_7.1.Lo - 1)) else 0), (if (IntKind.i64.wrap (r_7.1.Hi + 1)) < 100000 then (IntKind.i64.wrap (r_7.1.Hi + 1)) else 100000)] : List Int).map (AV.int .i64)) i_20 1 [.int .i64 x_38]] (mkS 110 [(4, .ptr 1 0), (5, .sl (r_4.1.map A_api_Hurdle) none), (6, .int .i64 r_6.1), (7, .ptr 2 0), (8, .int .i64 r_7.2), (9, .sl (([0, r_14.1, 100000, r_7.1.Lo, r_7.1.Hi, r_15.1, (if (IntKind.i64.wrap (r_7.1.Lo - 1)) > 0 then (IntKind.i64.wrap (r_7.1.Lo - 1)) else 0), (if (IntKind.i64.wrap (r_7.1.Hi + 1)) < 100000 then (IntKind.i64.wrap (r_7.1.Hi + 1)) else 100000)] : List Int).map (AV.int .i64)) (some 0)), (10, .int .i64 i_20), (12, .int .i64 r_28.1), (13, .int .i64 r_28.2), (14, .int .i64 r_29.1), (15, .int .i64 r_29.2), (84, .int .i64 r_28.2), (85, .bool (r_28.2 != 0)), (86, .bool false), (87, .int .i64 r_29.2), (88, .bool (r_29.2 != 0)), (89, .bool (r_29.2 != 0)), (90, .bool false), (91, .int .i64 r_28.1), (92, .bool (r_28.1 == 1)), (93, .bool true), (94, .int .i64 r_29.1), (95, .bool (r_29.1 == (-1))), (96, .bool (r_29.1 == (-1))), (97, .int .i64 r_7.2), (98, .bool (r_7.2 == 0)), (99, .bool true), (100, (A_api_Span r_7.1)), (101, .sl (([0, r_14.1, 100000, r_7.1.Lo, r_7.1.Hi, r_15.1, (if (IntKind.i64.wrap (r_7.1.Lo - 1)) > 0 then (IntKind.i64.wrap (r_7.1.Lo - 1)) else 0), (if (IntKind.i64.wrap (r_7.1.Hi + 1)) < 100000 then (IntKind.i64.wrap (r_7.1.Hi + 1)) else 100000)] : List Int).map (AV.int .i64)) (some 0)), (102, .int .i64 i_20), (103, .rop [.int .i64 x_38]), (104, .int .i64 x_38)]) (by simp) (by kernel_rfl) ⟨congrArg AV.bool hc_34, congrArg AV.bool hc_35, congrArg AV.bool hc_36, congrArg AV.bool hc_37, LGet.of hx_38 rfl, trivial⟩ (by kernel_rfl) ?_
                              refine drC hT_40.2 0 _ [(A_api_Span r_7.1), .int .i64 x_38] (v_bateriakit_In r_39) rfl rfl rfl rfl rfl (fun _ => rfl) rfl (by simp [ren, ren1, AV.plain, AV.plain1, AV.clean, List.idxOf?, List.findIdx?, List.findIdx?.go, cleanL, cleanI, cleanBo, cleanSt, cleanII, KL_bateriakit_Drum, KL_api_Span, KL_api_Load, KL_api_Float, KL_bateriaref02_Truth, KL_api_Hurdle, KL_V21_i64, KL_float_truth, KL_V2_float_truth, KL_float_weight, A_bateriakit_Drum, C_bateriakit_Drum, A_api_Span, C_api_Span, A_api_Load, C_api_Load, A_api_Float, C_api_Float, A_bateriaref02_Truth, C_bateriaref02_Truth, A_api_Hurdle, C_api_Hurdle, A_V21_i64, C_V21_i64, A_float_truth, C_float_truth, A_V2_float_truth, C_V2_float_truth, A_float_weight, C_float_weight]; try rfl) (fun _ => b_bateriakit_In _ _ _ _) ?_
                              refine drS [0, 1, 2, 3] 1 [] [] (mkS 110 [(4, .ptr 1 0), (5, .sl (r_4.1.map A_api_Hurdle) none), (6, .int .i64 r_6.1), (7, .ptr 2 0), (8, .int .i64 r_7.2), (9, .sl (([0, r_14.1, 100000, r_7.1.Lo, r_7.1.Hi, r_15.1, (if (IntKind.i64.wrap (r_7.1.Lo - 1)) > 0 then (IntKind.i64.wrap (r_7.1.Lo - 1)) else 0), (if (IntKind.i64.wrap (r_7.1.Hi + 1)) < 100000 then (IntKind.i64.wrap (r_7.1.Hi + 1)) else 100000)] : List Int).map (AV.int .i64)) (some 0)), (10, .int .i64 i_20), (12, .int .i64 r_28.1), (13, .int .i64 r_28.2), (14, .int .i64 r_29.1), (15, .int .i64 r_29.2), (84, .int .i64 r_28.2), (85, .bool (r_28.2 != 0)), (86, .bool false), (87, .int .i64 r_29.2), (88, .bool (r_29.2 != 0)), (89, .bool (r_29.2 != 0)), (90, .bool false), (91, .int .i64 r_28.1), (92, .bool (r_28.1 == 1)), (93, .bool true), (94, .int .i64 r_29.1), (95, .bool (r_29.1 == (-1))), (96, .bool (r_29.1 == (-1))), (97, .int .i64 r_7.2), (98, .bool (r_7.2 == 0)), (99, .bool true), (100, (A_api_Span r_7.1)), (101, .sl (([0, r_14.1, 100000, r_7.1.Lo, r_7.1.Hi, r_15.1, (if (IntKind.i64.wrap (r_7.1.Lo - 1)) > 0 then (IntKind.i64.wrap (r_7.1.Lo - 1)) else 0), (if (IntKind.i64.wrap (r_7.1.Hi + 1)) < 100000 then (IntKind.i64.wrap (r_7.1.Hi + 1)) else 100000)] : List Int).map (AV.int .i64)) (some 0)), (102, .int .i64 i_20), (103, .rop [.int .i64 x_38]), (104, .int .i64 x_38), (105, .bool r_39), (106, .bool r_39)]) (by simp) (by kernel_rfl) trivial (by kernel_rfl) ?_
                              exact DrO.nil rfl
                            · dsimp only [List.getLastD_cons, List.getLastD_nil]
                              refine runH 2 [] [4, 5, 6, 7, 8, 9, 10, 108] [] (mkS 110 [(4, .ptr 1 0), (5, .sl (r_4.1.map A_api_Hurdle) none), (6, .int .i64 r_6.1), (7, .ptr 2 0), (8, .int .i64 r_7.2), (9, .sl (([0, r_14.1, 100000, r_7.1.Lo, r_7.1.Hi, r_15.1, (if (IntKind.i64.wrap (r_7.1.Lo - 1)) > 0 then (IntKind.i64.wrap (r_7.1.Lo - 1)) else 0), (if (IntKind.i64.wrap (r_7.1.Hi + 1)) < 100000 then (IntKind.i64.wrap (r_7.1.Hi + 1)) else 100000)] : List Int).map (AV.int .i64)) (some 0)), (10, .int .i64 i_20), (108, .bool (!((r_29.1 == (-1)) == r_39)))]) (⟨[(C_bateriakit_Drum r_15.2), (C_api_Float r_3.1), (C_api_Span r_7.1), (C_api_Float r_26)], [(8, 1)]⟩) (by kernel_rfl) trivial ?_
                              refine ExO.nil ?_
                              (try simp only [reduceCtorEq, AEx.ex.injEq, Nat.reduceEqDiff, if_true, if_false])
                              exact ⟨_, _, forgetA (m := 110) 3 [0] [(4, .ptr 1 0), (5, .sl (r_4.1.map A_api_Hurdle) none), (6, .int .i64 r_6.1), (7, .ptr 2 0), (8, .int .i64 r_7.2), (9, .sl (([0, r_14.1, 100000, r_7.1.Lo, r_7.1.Hi, r_15.1, (if (IntKind.i64.wrap (r_7.1.Lo - 1)) > 0 then (IntKind.i64.wrap (r_7.1.Lo - 1)) else 0), (if (IntKind.i64.wrap (r_7.1.Hi + 1)) < 100000 then (IntKind.i64.wrap (r_7.1.Hi + 1)) else 100000)] : List Int).map (AV.int .i64)) (some 0)), (10, .int .i64 i_20), (108, .bool (!((r_29.1 == (-1)) == r_39)))] [(C_bateriakit_Drum r_15.2), (C_api_Float r_3.1), (C_api_Span r_7.1)] [(8, 1)] (by simp) (by simp) ⟨rfl, (reN (KL_api_Hurdle _)), rfl, rfl, rfl, (reT (cleanI _ _) rfl), rfl, rfl, trivial⟩ (by simp [re, re1, AV.clean, List.idxOf?, List.findIdx?, List.findIdx?.go, cleanL, cleanI, cleanBo, cleanSt, cleanII, KL_bateriakit_Drum, KL_api_Span, KL_api_Load, KL_api_Float, KL_bateriaref02_Truth, KL_api_Hurdle, KL_V21_i64, KL_float_truth, KL_V2_float_truth, KL_float_weight, KB_bateriakit_Drum, KB_api_Span, KB_api_Load, KB_api_Float, KB_bateriaref02_Truth, KB_api_Hurdle, KB_V21_i64, KB_float_truth, KB_V2_float_truth, KB_float_weight]) rfl (by decide), (!((r_29.1 == (-1)) == r_39)), h, rfl, rfl⟩
                          · refine dregX (noClr_ok _) [(2, .eq (.bool false)), (6, .eq (.bool false)), (9, .eq (.bool true)), (15, .eq (.bool false))] [] [4, 5, 6, 7, 8, 9, 10, 108] [AV.bool (r_28.2 != 0) = AV.bool false, AV.bool (r_29.2 != 0) = AV.bool false, AV.bool (r_28.1 == 1) = AV.bool true, AV.bool (r_7.2 == 0) = AV.bool false] [] (mkS 110 [(4, .ptr 1 0), (5, .sl (r_4.1.map A_api_Hurdle) none), (6, .int .i64 r_6.1), (7, .ptr 2 0), (8, .int .i64 r_7.2), (9, .sl (([0, r_14.1, 100000, r_7.1.Lo, r_7.1.Hi, r_15.1, (if (IntKind.i64.wrap (r_7.1.Lo - 1)) > 0 then (IntKind.i64.wrap (r_7.1.Lo - 1)) else 0), (if (IntKind.i64.wrap (r_7.1.Hi + 1)) < 100000 then (IntKind.i64.wrap (r_7.1.Hi + 1)) else 100000)] : List Int).map (AV.int .i64)) (some 0)), (10, .int .i64 i_20), (12, .int .i64 r_28.1), (13, .int .i64 r_28.2), (14, .int .i64 r_29.1), (15, .int .i64 r_29.2), (84, .int .i64 r_28.2), (85, .bool (r_28.2 != 0)), (86, .bool false), (87, .int .i64 r_29.2), (88, .bool (r_29.2 != 0)), (89, .bool (r_29.2 != 0)), (90, .bool false), (91, .int .i64 r_28.1), (92, .bool (r_28.1 == 1)), (93, .bool true), (94, .int .i64 r_29.1), (95, .bool (r_29.1 == (-1))), (96, .bool (r_29.1 == (-1))), (97, .int .i64 r_7.2), (98, .bool (r_7.2 == 0)), (99, .bool false), (100, .tup []), (101, .tup []), (102, .tup []), (103, .tup []), (104, .tup []), (105, .tup []), (106, .bool false)]) (mkS 110 [(4, .ptr 1 0), (5, .sl (r_4.1.map A_api_Hurdle) none), (6, .int .i64 r_6.1), (7, .ptr 2 0), (8, .int .i64 r_7.2), (9, .sl (([0, r_14.1, 100000, r_7.1.Lo, r_7.1.Hi, r_15.1, (if (IntKind.i64.wrap (r_7.1.Lo - 1)) > 0 then (IntKind.i64.wrap (r_7.1.Lo - 1)) else 0), (if (IntKind.i64.wrap (r_7.1.Hi + 1)) < 100000 then (IntKind.i64.wrap (r_7.1.Hi + 1)) else 100000)] : List Int).map (AV.int .i64)) (some 0)), (10, .int .i64 i_20), (108, .bool (!((r_29.1 == (-1)) == false)))]) (by kernel_rfl) (by kernel_rfl) ⟨congrArg AV.bool hc_34, congrArg AV.bool hc_35, congrArg AV.bool hc_36, congrArg AV.bool hc_37, trivial⟩ (by kernel_rfl) trivial (by first | exact fun _ _ _ _ hf h => Ex.forget hf h | exact fun _ _ _ _ hf ⟨a2, S2, hf2, h⟩ => ⟨a2, S2, hf.trans hf2, h⟩) ?_
                            (try simp only [reduceCtorEq, AEx.ex.injEq, Nat.reduceEqDiff, if_true, if_false])
                            exact ⟨_, _, forgetA (m := 110) 3 [0] [(4, .ptr 1 0), (5, .sl (r_4.1.map A_api_Hurdle) none), (6, .int .i64 r_6.1), (7, .ptr 2 0), (8, .int .i64 r_7.2), (9, .sl (([0, r_14.1, 100000, r_7.1.Lo, r_7.1.Hi, r_15.1, (if (IntKind.i64.wrap (r_7.1.Lo - 1)) > 0 then (IntKind.i64.wrap (r_7.1.Lo - 1)) else 0), (if (IntKind.i64.wrap (r_7.1.Hi + 1)) < 100000 then (IntKind.i64.wrap (r_7.1.Hi + 1)) else 100000)] : List Int).map (AV.int .i64)) (some 0)), (10, .int .i64 i_20), (108, .bool (!((r_29.1 == (-1)) == false)))] [(C_bateriakit_Drum r_15.2), (C_api_Float r_3.1), (C_api_Span r_7.1)] [(8, 1)] (by simp) (by simp) ⟨rfl, (reN (KL_api_Hurdle _)), rfl, rfl, rfl, (reT (cleanI _ _) rfl), rfl, rfl, trivial⟩ (by simp [re, re1, AV.clean, List.idxOf?, List.findIdx?, List.findIdx?.go, cleanL, cleanI, cleanBo, cleanSt, cleanII, KL_bateriakit_Drum, KL_api_Span, KL_api_Load, KL_api_Float, KL_bateriaref02_Truth, KL_api_Hurdle, KL_V21_i64, KL_float_truth, KL_V2_float_truth, KL_float_weight, KB_bateriakit_Drum, KB_api_Span, KB_api_Load, KB_api_Float, KB_bateriaref02_Truth, KB_api_Hurdle, KB_V21_i64, KB_float_truth, KB_V2_float_truth, KB_float_weight]) rfl (by decide), (!((r_29.1 == (-1)) == false)), h, rfl, rfl⟩
                        · rcases condI h with ⟨hc_41, h⟩ | ⟨hc_41, h⟩
                          · obtain ⟨x_42, hx_42, h⟩ := Option.bind_eq_some_iff.1 h
                            obtain ⟨r_43, hr_43, h⟩ := Option.bind_eq_some_iff.1 h
                            have hT_45 : DoesA Try.prog [⟨37, [(A_api_Span r_7.1), .int .i64 x_42], [], (v_bateriakit_In r_43), []⟩] ∧ ConsA [⟨37, [(A_api_Span r_7.1), .int .i64 x_42], [], (v_bateriakit_In r_43), []⟩] := ⟨⟨(d_bateriakit_In N r_7.1 x_42 r_43 hr_43), rfl, trivial⟩, ⟨trivial, trivial⟩⟩
                            obtain ⟨X_44, hX_44, hcl_46⟩ : ∃ X : Clr, ClrOk Try.prog X ∧ X 37 [(A_api_Span r_7.1), .int .i64 x_42] ⟨[(C_bateriakit_Drum r_15.2), (C_api_Float r_3.1), (C_api_Span r_7.1), (C_api_Float r_26)], [(8, 1)]⟩ = some (v_bateriakit_In r_43, none) := ⟨_, tabO_ok hT_45.1, tabO_pure hT_45.2 0 _ [(A_api_Span r_7.1), .int .i64 x_42] _ rfl rfl rfl rfl (by simp [ren, ren1, AV.plain, AV.plain1, AV.clean, List.idxOf?, List.findIdx?, List.findIdx?.go, cleanL, cleanI, cleanBo, cleanSt, cleanII, KL_bateriakit_Drum, KL_api_Span, KL_api_Load, KL_api_Float, KL_bateriaref02_Truth, KL_api_Hurdle, KL_V21_i64, KL_float_truth, KL_V2_float_truth, KL_float_weight, A_bateriakit_Drum, C_bateriakit_Drum, A_api_Span, C_api_Span, A_api_Load, C_api_Load, A_api_Float, C_api_Float, A_bateriaref02_Truth, C_bateriaref02_Truth, A_api_Hurdle, C_api_Hurdle, A_V21_i64, C_V21_i64, A_float_truth, C_float_truth, A_V2_float_truth, C_V2_float_truth, A_float_weight, C_float_weight]; try rfl) (fun _ => b_bateriakit_In _ _ _ _)⟩
                            refine dregX hX_44 [(2, .eq (.bool false)), (6, .eq (.bool false)), (9, .eq (.bool false)), (15, .eq (.bool true)), (19, .rop [.int .i64 x_42]), (21, .cl (v_bateriakit_In r_43))] [] [4, 5, 6, 7, 8, 9, 10, 108] [AV.bool (r_28.2 != 0) = AV.bool false, AV.bool (r_29.2 != 0) = AV.bool false, AV.bool (r_28.1 == 1) = AV.bool false, AV.bool (r_7.2 == 0) = AV.bool true, LGet (([0, r_14.1, 100000, r_7.1.Lo, r_7.1.Hi, r_15.1, (if (IntKind.i64.wrap (r_7.1.Lo - 1)) > 0 then (IntKind.i64.wrap (r_7.1.Lo - 1)) else 0), (if (IntKind.i64.wrap (r_7.1.Hi + 1)) < 100000 then (IntKind.i64.wrap (r_7.1.Hi + 1)) else 100000)] : List Int).map (AV.int .i64)) i_20 1 [.int .i64 x_42], X_44 37 [(A_api_Span r_7.1), .int .i64 x_42] ⟨[(C_bateriakit_Drum r_15.2), (C_api_Float r_3.1), (C_api_Span r_7.1), (C_api_Float r_26)], [(8, 1)]⟩ = some (v_bateriakit_In r_43, none)] [] (mkS 110 [(4, .ptr 1 0), (5, .sl (r_4.1.map A_api_Hurdle) none), (6, .int .i64 r_6.1), (7, .ptr 2 0), (8, .int .i64 r_7.2), (9, .sl (([0, r_14.1, 100000, r_7.1.Lo, r_7.1.Hi, r_15.1, (if (IntKind.i64.wrap (r_7.1.Lo - 1)) > 0 then (IntKind.i64.wrap (r_7.1.Lo - 1)) else 0), (if (IntKind.i64.wrap (r_7.1.Hi + 1)) < 100000 then (IntKind.i64.wrap (r_7.1.Hi + 1)) else 100000)] : List Int).map (AV.int .i64)) (some 0)), (10, .int .i64 i_20), (12, .int .i64 r_28.1), (13, .int .i64 r_28.2), (14, .int .i64 r_29.1), (15, .int .i64 r_29.2), (84, .int .i64 r_28.2), (85, .bool (r_28.2 != 0)), (86, .bool false), (87, .int .i64 r_29.2), (88, .bool (r_29.2 != 0)), (89, .bool (r_29.2 != 0)), (90, .bool false), (91, .int .i64 r_28.1), (92, .bool (r_28.1 == 1)), (93, .bool false), (94, .tup []), (95, .tup []), (96, .bool false), (97, .int .i64 r_7.2), (98, .bool (r_7.2 == 0)), (99, .bool true), (100, (A_api_Span r_7.1)), (101, .sl (([0, r_14.1, 100000, r_7.1.Lo, r_7.1.Hi, r_15.1, (if (IntKind.i64.wrap (r_7.1.Lo - 1)) > 0 then (IntKind.i64.wrap (r_7.1.Lo - 1)) else 0), (if (IntKind.i64.wrap (r_7.1.Hi + 1)) < 100000 then (IntKind.i64.wrap (r_7.1.Hi + 1)) else 100000)] : List Int).map (AV.int .i64)) (some 0)), (102, .int .i64 i_20), (103, .rop [.int .i64 x_42]), (104, .int .i64 x_42), (105, .bool r_43), (106, .bool r_43)]) (mkS 110 [(4, .ptr 1 0), (5, .sl (r_4.1.map A_api_Hurdle) none), (6, .int .i64 r_6.1), (7, .ptr 2 0), (8, .int .i64 r_7.2), (9, .sl (([0, r_14.1, 100000, r_7.1.Lo, r_7.1.Hi, r_15.1, (if (IntKind.i64.wrap (r_7.1.Lo - 1)) > 0 then (IntKind.i64.wrap (r_7.1.Lo - 1)) else 0), (if (IntKind.i64.wrap (r_7.1.Hi + 1)) < 100000 then (IntKind.i64.wrap (r_7.1.Hi + 1)) else 100000)] : List Int).map (AV.int .i64)) (some 0)), (10, .int .i64 i_20), (108, .bool (!(false == r_43)))]) (by kernel_rfl) (by kernel_rfl) ⟨congrArg AV.bool hc_34, congrArg AV.bool hc_35, congrArg AV.bool hc_36, congrArg AV.bool hc_41, LGet.of hx_42 rfl, hcl_46, trivial⟩ (by kernel_rfl) trivial (by first | exact fun _ _ _ _ hf h => Ex.forget hf h | exact fun _ _ _ _ hf ⟨a2, S2, hf2, h⟩ => ⟨a2, S2, hf.trans hf2, h⟩) ?_
                            (try simp only [reduceCtorEq, AEx.ex.injEq, Nat.reduceEqDiff, if_true, if_false])
                            exact ⟨_, _, forgetA (m := 110) 3 [0] [(4, .ptr 1 0), (5, .sl (r_4.1.map A_api_Hurdle) none), (6, .int .i64 r_6.1), (7, .ptr 2 0), (8, .int .i64 r_7.2), (9, .sl (([0, r_14.1, 100000, r_7.1.Lo, r_7.1.Hi, r_15.1, (if (IntKind.i64.wrap (r_7.1.Lo - 1)) > 0 then (IntKind.i64.wrap (r_7.1.Lo - 1)) else 0), (if (IntKind.i64.wrap (r_7.1.Hi + 1)) < 100000 then (IntKind.i64.wrap (r_7.1.Hi + 1)) else 100000)] : List Int).map (AV.int .i64)) (some 0)), (10, .int .i64 i_20), (108, .bool (!(false == r_43)))] [(C_bateriakit_Drum r_15.2), (C_api_Float r_3.1), (C_api_Span r_7.1)] [(8, 1)] (by simp) (by simp) ⟨rfl, (reN (KL_api_Hurdle _)), rfl, rfl, rfl, (reT (cleanI _ _) rfl), rfl, rfl, trivial⟩ (by simp [re, re1, AV.clean, List.idxOf?, List.findIdx?, List.findIdx?.go, cleanL, cleanI, cleanBo, cleanSt, cleanII, KL_bateriakit_Drum, KL_api_Span, KL_api_Load, KL_api_Float, KL_bateriaref02_Truth, KL_api_Hurdle, KL_V21_i64, KL_float_truth, KL_V2_float_truth, KL_float_weight, KB_bateriakit_Drum, KB_api_Span, KB_api_Load, KB_api_Float, KB_bateriaref02_Truth, KB_api_Hurdle, KB_V21_i64, KB_float_truth, KB_V2_float_truth, KB_float_weight]) rfl (by decide), (!(false == r_43)), h, rfl, rfl⟩
                          · refine dregX (noClr_ok _) [(2, .eq (.bool false)), (6, .eq (.bool false)), (9, .eq (.bool false)), (15, .eq (.bool false))] [] [4, 5, 6, 7, 8, 9, 10, 108] [AV.bool (r_28.2 != 0) = AV.bool false, AV.bool (r_29.2 != 0) = AV.bool false, AV.bool (r_28.1 == 1) = AV.bool false, AV.bool (r_7.2 == 0) = AV.bool false] [] (mkS 110 [(4, .ptr 1 0), (5, .sl (r_4.1.map A_api_Hurdle) none), (6, .int .i64 r_6.1), (7, .ptr 2 0), (8, .int .i64 r_7.2), (9, .sl (([0, r_14.1, 100000, r_7.1.Lo, r_7.1.Hi, r_15.1, (if (IntKind.i64.wrap (r_7.1.Lo - 1)) > 0 then (IntKind.i64.wrap (r_7.1.Lo - 1)) else 0), (if (IntKind.i64.wrap (r_7.1.Hi + 1)) < 100000 then (IntKind.i64.wrap (r_7.1.Hi + 1)) else 100000)] : List Int).map (AV.int .i64)) (some 0)), (10, .int .i64 i_20), (12, .int .i64 r_28.1), (13, .int .i64 r_28.2), (14, .int .i64 r_29.1), (15, .int .i64 r_29.2), (84, .int .i64 r_28.2), (85, .bool (r_28.2 != 0)), (86, .bool false), (87, .int .i64 r_29.2), (88, .bool (r_29.2 != 0)), (89, .bool (r_29.2 != 0)), (90, .bool false), (91, .int .i64 r_28.1), (92, .bool (r_28.1 == 1)), (93, .bool false), (94, .tup []), (95, .tup []), (96, .bool false), (97, .int .i64 r_7.2), (98, .bool (r_7.2 == 0)), (99, .bool false), (100, .tup []), (101, .tup []), (102, .tup []), (103, .tup []), (104, .tup []), (105, .tup []), (106, .bool false)]) (mkS 110 [(4, .ptr 1 0), (5, .sl (r_4.1.map A_api_Hurdle) none), (6, .int .i64 r_6.1), (7, .ptr 2 0), (8, .int .i64 r_7.2), (9, .sl (([0, r_14.1, 100000, r_7.1.Lo, r_7.1.Hi, r_15.1, (if (IntKind.i64.wrap (r_7.1.Lo - 1)) > 0 then (IntKind.i64.wrap (r_7.1.Lo - 1)) else 0), (if (IntKind.i64.wrap (r_7.1.Hi + 1)) < 100000 then (IntKind.i64.wrap (r_7.1.Hi + 1)) else 100000)] : List Int).map (AV.int .i64)) (some 0)), (10, .int .i64 i_20), (108, .bool (!(false == false)))]) (by kernel_rfl) (by kernel_rfl) ⟨congrArg AV.bool hc_34, congrArg AV.bool hc_35, congrArg AV.bool hc_36, congrArg AV.bool hc_41, trivial⟩ (by kernel_rfl) trivial (by first | exact fun _ _ _ _ hf h => Ex.forget hf h | exact fun _ _ _ _ hf ⟨a2, S2, hf2, h⟩ => ⟨a2, S2, hf.trans hf2, h⟩) ?_
                            (try simp only [reduceCtorEq, AEx.ex.injEq, Nat.reduceEqDiff, if_true, if_false])
                            exact ⟨_, _, forgetA (m := 110) 3 [0] [(4, .ptr 1 0), (5, .sl (r_4.1.map A_api_Hurdle) none), (6, .int .i64 r_6.1), (7, .ptr 2 0), (8, .int .i64 r_7.2), (9, .sl (([0, r_14.1, 100000, r_7.1.Lo, r_7.1.Hi, r_15.1, (if (IntKind.i64.wrap (r_7.1.Lo - 1)) > 0 then (IntKind.i64.wrap (r_7.1.Lo - 1)) else 0), (if (IntKind.i64.wrap (r_7.1.Hi + 1)) < 100000 then (IntKind.i64.wrap (r_7.1.Hi + 1)) else 100000)] : List Int).map (AV.int .i64)) (some 0)), (10, .int .i64 i_20), (108, .bool (!(false == false)))] [(C_bateriakit_Drum r_15.2), (C_api_Float r_3.1), (C_api_Span r_7.1)] [(8, 1)] (by simp) (by simp) ⟨rfl, (reN (KL_api_Hurdle _)), rfl, rfl, rfl, (reT (cleanI _ _) rfl), rfl, rfl, trivial⟩ (by simp [re, re1, AV.clean, List.idxOf?, List.findIdx?, List.findIdx?.go, cleanL, cleanI, cleanBo, cleanSt, cleanII, KL_bateriakit_Drum, KL_api_Span, KL_api_Load, KL_api_Float, KL_bateriaref02_Truth, KL_api_Hurdle, KL_V21_i64, KL_float_truth, KL_V2_float_truth, KL_float_weight, KB_bateriakit_Drum, KB_api_Span, KB_api_Load, KB_api_Float, KB_bateriaref02_Truth, KB_api_Hurdle, KB_V21_i64, KB_float_truth, KB_V2_float_truth, KB_float_weight]) rfl (by decide), (!(false == false)), h, rfl, rfl⟩
                  · rintro a S ⟨y_30, h, rfl, rfl⟩
                    subst hK_33
                    rcases condI h with ⟨hc_47, h⟩ | ⟨hc_47, h⟩
                    · refine Ex.condT _ rfl hc_47 ?_
                      refine Ex.seq ?_
                      refine regH 1 [] [2] [] (mkS 110 [(2, .bool false)]) (⟨[(C_bateriakit_Drum r_15.2), (C_api_Float r_3.1), (C_api_Span r_7.1)], [(8, 1)]⟩) (by kernel_rfl) trivial rfl ?_
                      refine Ex.ret ?_
                      obtain rfl := Option.some.inj h
                      exact ⟨.inr rfl, .bool false, by kernel_rfl, by kernel_rfl, by kernel_rfl, by kernel_rfl⟩
                    · refine Ex.condF _ rfl hc_47 ?_
                      refine Ex.skip ?_
                      refine regH 3 [] [4, 5, 6, 7, 8, 9, 10] [] (mkS 110 [(4, .ptr 1 0), (5, .sl (r_4.1.map A_api_Hurdle) none), (6, .int .i64 r_6.1), (7, .ptr 2 0), (8, .int .i64 r_7.2), (9, .sl (([0, r_14.1, 100000, r_7.1.Lo, r_7.1.Hi, r_15.1, (if (IntKind.i64.wrap (r_7.1.Lo - 1)) > 0 then (IntKind.i64.wrap (r_7.1.Lo - 1)) else 0), (if (IntKind.i64.wrap (r_7.1.Hi + 1)) < 100000 then (IntKind.i64.wrap (r_7.1.Hi + 1)) else 100000)] : List Int).map (AV.int .i64)) (some 0)), (10, .int .i64 (IntKind.i64.wrap (i_20 + 1)))]) (⟨[(C_bateriakit_Drum r_15.2), (C_api_Float r_3.1), (C_api_Span r_7.1)], [(8, 1)]⟩) (by kernel_rfl) trivial rfl ?_
                      dsimp only
                      exact ⟨_, _, Forgets.refl _ _ _, k, Nat.lt_succ_self k, (IntKind.i64.wrap (i_20 + 1)), h, rfl, rfl⟩
              · refine Ex.condF _ rfl hc_24 ?_
                refine Ex.exit ?_
                (try simp only [reduceCtorEq, AEx.ex.injEq, Nat.reduceEqDiff, if_true, if_false])
                exact ⟨_, _, forgetA (m := 110) 0 [] [] [] [] (by simp) (by simp) trivial (by simp [re, re1, AV.clean, List.idxOf?, List.findIdx?, List.findIdx?.go, cleanL, cleanI, cleanBo, cleanSt, cleanII, KL_bateriakit_Drum, KL_api_Span, KL_api_Load, KL_api_Float, KL_bateriaref02_Truth, KL_api_Hurdle, KL_V21_i64, KL_float_truth, KL_V2_float_truth, KL_float_weight, KB_bateriakit_Drum, KB_api_Span, KB_api_Load, KB_api_Float, KB_bateriaref02_Truth, KB_api_Hurdle, KB_V21_i64, KB_float_truth, KB_V2_float_truth, KB_float_weight]) rfl (by decide), h, rfl, rfl⟩
          · rintro a S ⟨h, rfl, rfl⟩
            subst hK_19
            refine Ex.seq ?_
            obtain ⟨r_48, hr_48, h⟩ := Option.bind_eq_some_iff.1 h
            refine Ex.reg ?_
            refine ExO.callL [] [] rfl rfl (a_baterialaw02_awake) rfl rfl (d_baterialaw02_awake N r_48 hr_48) (b_baterialaw02_awake _ _ _ _) rfl ?_
            refine runH 1 [] [2] [] (mkS 110 [(2, .bool r_48)]) (⟨[], []⟩) (by kernel_rfl) trivial ?_
            refine ExO.nil ?_
            refine Ex.ret ?_
            obtain rfl := Option.some.inj h
            exact ⟨.inr rfl, .bool r_48, by kernel_rfl, by kernel_rfl, by kernel_rfl, by kernel_rfl⟩
end Go.Proofs.Ytjpoganponbdlaa
end
section
namespace Go.Proofs.Ytjpoganponbdlaa
open Go.RowKit
set_option linter.unusedVariables false
set_option linter.unusedSimpArgs false
set_option maxRecDepth 10000
set_option maxHeartbeats 4000000

theorem in_p (N : Nat) (x : T_api_Span) (n : Int) : p_bateriakit_In N x n = some (decide (x.Lo ≤ n) && decide (n ≤ x.Hi)) := by
  unfold p_bateriakit_In
  by_cases h : x.Lo ≤ n
  · simp [h]
  · simp [h]
theorem law_p (nums : List Int) (N : Nat) (hN : nums.length + 200000 ≤ N) (hnum : nums.length < 9223372036854775808) : p_baterialaw02_FloatBallast N nums = some true := by
  unfold p_baterialaw02_FloatBallast
  obtain ⟨d2, e⟩ := drumOf_p N nums (by omega) (by omega)
  rw [e, Option.bind_some]; clear e
  obtain ⟨f, d3, e, hf⟩ := floatOf_p N d2 5 (by omega) (by omega) (by omega)
  rw [e, Option.bind_some]; clear e
  obtain ⟨hs, d4, e, hlen, hall⟩ := routeOf_p N (by omega) d3 f hf
  have := hf.n; have := hf.ok.f1; have := hf.ok.f2; have := hf.ok.f3; have := hf.ok.l2
  dsimp only
  rw [e, Option.bind_some]; clear e
  obtain ⟨p, d6, e, p1, p2, _⟩ := mid_p N d4 f.Front f.Rear (by omega) (by omega) (by omega) (by omega)
  have p2 := p2 (by omega)
  rw [e, Option.bind_some]; clear e
  obtain ⟨s, t, x, c, e, hc, ⟨x0, x1, x2⟩, hk, hst⟩ := ballast_p N (by omega) f hf.ok (by omega) hs hlen hall p p1 p2
  dsimp only
  rw [e, Option.bind_some]; clear e
  have hJ : ∀ K : Bool → Option Bool, letJ K (fun k_9 => (bif (c != 0) then (k_9 (c != 7)) else (k_9 false))) = K false := by
    intro K
    rcases hc with rfl | ⟨rfl, _⟩
    · rfl
    · rfl
  dsimp only
  rw [hJ, cond_false]
  obtain ⟨r14, d14, e, a14, _, b14⟩ := roll_p N d6 3000 (by omega)
  have b14 := b14 (by omega)
  rw [e, Option.bind_some]; clear e
  obtain ⟨r15, d15, e, a15, b15⟩ := of_p N d14 x x1 (by omega) (by omega)
  dsimp only
  rw [e, Option.bind_some, letJ_eq]; clear e
  dsimp only
  rw [w64 (x := x.Lo - 1) (by omega) (by omega), w64 (x := x.Hi + 1) (by omega) (by omega)]
  have hLb : ∀ k ∈ ([0, r14, 100000, x.Lo, x.Hi, r15, (if x.Lo - 1 > 0 then x.Lo - 1 else 0), (if x.Hi + 1 < 100000 then x.Hi + 1 else 100000)] : List Int), 0 ≤ k ∧ k ≤ 100000 := by
    have h7 : 0 ≤ (if x.Lo - 1 > 0 then x.Lo - 1 else 0) ∧ (if x.Lo - 1 > 0 then x.Lo - 1 else 0) ≤ 100000 := by split <;> omega
    have h8 : 0 ≤ (if x.Hi + 1 < 100000 then x.Hi + 1 else 100000) ∧ (if x.Hi + 1 < 100000 then x.Hi + 1 else 100000) ≤ 100000 := by split <;> omega
    intro k hm
    simp only [List.mem_cons, List.not_mem_nil, or_false] at hm
    rcases hm with rfl | rfl | rfl | rfl | rfl | rfl | rfl | rfl
    · omega
    · omega
    · omega
    · omega
    · omega
    · omega
    · exact h7
    · exact h8
  have hL8 : ([0, r14, 100000, x.Lo, x.Hi, r15, (if x.Lo - 1 > 0 then x.Lo - 1 else 0), (if x.Hi + 1 < 100000 then x.Hi + 1 else 100000)] : List Int).length = 8 := rfl
  generalize ([0, r14, 100000, x.Lo, x.Hi, r15, (if x.Lo - 1 > 0 then x.Lo - 1 else 0), (if x.Hi + 1 < 100000 then x.Hi + 1 else 100000)] : List Int) = L at hLb hL8
  refine for1 L _ (some true) ?_ ?_ N 0 (by omega) (by omega)
  · intro rec
    rw [hL8]
    rfl
  · intro rec i k hx
    obtain ⟨_, e2, e3, e4⟩ := lt_dec hx
    obtain ⟨k0, k1⟩ := hLb k e3
    obtain ⟨⟨v, ev, hv⟩, r, er, hr⟩ := hst k k0 k1
    obtain ⟨hk0, hk7⟩ := hk k k0 k1
    rw [show decide ((i : Int) < 8) = true from decide_eq_true (by omega), cond_true, e2, Option.bind_some, with_p N f p k (by omega), Option.bind_some, ev, Option.bind_some, er, Option.bind_some, letJ_eq, nat_add1 i (by omega)]
    simp only [bne_self_eq_false, cond_false, e2, Option.bind_some, in_p]
    by_cases h1 : v = 1
    · rw [show (v == 1) = true by simp [h1], cond_true]
      have hs1 := hv.1 h1
      by_cases hc0 : c = 0
      · rw [show (c == 0) = true by simp [hc0], cond_true]
        obtain ⟨q1, q2⟩ := hk0 hc0
        have hlo := q1.2 hs1
        rw [show decide (x.Lo ≤ k) = true from decide_eq_true hlo, Bool.true_and]
        cases htk : t k with
        | false =>
          have g1 := hr.2 htk
          have g2 := q2.2 htk
          rw [show (r == -1) = true by simp [g1], show decide (k ≤ x.Hi) = true from decide_eq_true g2]
          rfl
        | true =>
          have g1 : ¬ r = -1 := fun h => by have := hr.1 h; rw [htk] at this; exact absurd this (by simp)
          have g2 : ¬ k ≤ x.Hi := fun h => by have := q2.1 h; rw [htk] at this; exact absurd this (by simp)
          rw [show (r == -1) = false by simp [g1], show decide (k ≤ x.Hi) = false from decide_eq_false g2]
          rfl
      · rw [show (c == 0) = false by simp [hc0], cond_false]
        have hc7 : c = 7 := by rcases hc with h | h <;> omega
        have htk := hk7 hc7 hs1
        have g1 : ¬ r = -1 := fun h => by have := hr.1 h; rw [htk] at this; exact absurd this (by simp)
        rw [show (r == -1) = false by simp [g1]]
        rfl
    · rw [show (v == 1) = false by simp [h1], cond_false]
      by_cases hc0 : c = 0
      · rw [show (c == 0) = true by simp [hc0], cond_true]
        obtain ⟨q1, q2⟩ := hk0 hc0
        have g : ¬ x.Lo ≤ k := fun h => h1 (hv.2 (q1.1 h))
        rw [show decide (x.Lo ≤ k) = false from decide_eq_false g, Bool.false_and]
        rfl
      · rw [show (c == 0) = false by simp [hc0], cond_false]
        rfl
theorem ballast_m (zs : List Int) (h : zs.length < 9223372036854775808) : Does Try.prog 5 [.sl (zs.map (AV.int .i64)) none] [] fun v _ => v = .bool true :=
  (d_baterialaw02_FloatBallast _ zs true (law_p zs _ (Nat.le_refl _) h)).mono fun v c h => h.1
end Go.Proofs.Ytjpoganponbdlaa
end
section
namespace Go.Proofs.Ytjpoganponbdlaa
open Go.RowKit Go.ChangeShapes Go.WideShapes Go.ChangeAt
set_option linter.unusedVariables false
set_option linter.unusedSimpArgs false

def nums (zs : List Int) : AV := .sl (zs.map fun z => .int .i64 z) none
theorem prog_own : ownKnob Try.prog.godebug = none := by kernel_rfl
theorem prog_laid : laidOutB Try.prog = true := by kernel_rfl

namespace floatBallast
set_option maxRecDepth 100000 in
theorem lifted (hM : ∀ zs : List Int, (∀ z ∈ zs, (Lit.int .i64 z).wf = true) → zs.length ≤ maxLen → Does Try.prog 5 [nums zs] [] fun v _ => v = .bool true) (os : Os) (started : os.Started) (H : Type) (enc : TypeId × Value → H) :
    ReturnsInHanded {} Try.checked os 5 .any (Rows.floatBallastSpec.pre6 enc Try.prog Try.f5 Rows.floatBallastRow.domain false) (Rows.floatBallastSpec.post enc Try.prog Try.f5 false true false false) := by
  refine returnsInHanded_of_change (C := Try.checked) prog_own started (by kernel_rfl) Try.func5
    (ChangeSpec.witness6 (enc := enc) (C := Try.checked) false ⟨#[], #[.slice none 0 0], []⟩ 8 (by kernel_rfl) (by kernel_rfl) (by kernel_rfl) (by kernel_rfl)) ?_
  intro W base args ds gs before hval0 hW hcnd _
  have hval : ∀ (j : Nat) t v, Try.f5.params[j]? = some t → args[j]? = some v → Value.okWide Try.prog W .any base t v := hval0
  have hW' := hW
  obtain ⟨p, q, hA0, hV, rfl, hfz, hnd⟩ := hW
  have hA : DataW.TrodAll enc Try.prog W 0 (fun _ => true) true Try.f5.params.toList args.toList ds p := hA0
  rw [Try.params5] at hA hval
  obtain ⟨v0, vs0, d0, ds0, p0, q0, hargs, rfl, rfl, h0, r0⟩ := trodAll_cons hA
  obtain ⟨rfl, rfl, rfl⟩ := trodAll_nil r0
  obtain rfl : args = #[v0] := by cases args; simp_all
  obtain ⟨rfl, rfl⟩ := trodVars_none hV
  obtain ⟨a0, len0, cap0, rfl⟩ := okWide_slice Try.underlying22 (hval 0 22 v0 rfl rfl)
  have k0 := h0
  have lt0 : ∀ x ∈ p0, x.block < W.heap.size := by obtain ⟨m, hm⟩ := k0; exact DataW.trod_lt m _ _ _ hm
  obtain ⟨zs, hwf, hlen, hvr⟩ := ints_vr Try.underlying22 Try.underlying3 (by kernel_rfl) h0
  clear hA0 hval0
  refine ((hM zs hwf hlen).law (us := #[.slice a0 len0 cap0]) ⟨rfl, fun i x u hx hu => ?_⟩).mono fun e W' ⟨he, bel⟩ => ?_
  · cases i with
    | zero => simp at hx hu; subst hx; subst hu; exact hvr
    | succ i => simp at hx
  subst he
  exact ⟨_, rfl, _, _, _, [], _, [], hW', trodAll_mk1 (shut_bool Try.underlying4 _), (trodAll_cons_mk (Below.trod prog_laid (by kernel_rfl) (of_decide_eq_true (by kernel_rfl)) k0 bel lt0) trodAll_mk0), rfl, bel.frame _, fun h => by cases h⟩

theorem frame (hM : ∀ zs : List Int, (∀ z ∈ zs, (Lit.int .i64 z).wf = true) → zs.length ≤ maxLen → Does Try.prog 5 [nums zs] [] fun v _ => v = .bool true) : Rows.FloatBallastSaid :=
  OpenClaim.holds_of_wide 5 Try.f5 rfl rfl rfl rfl rfl rfl rfl ⟨rfl, rfl, rfl, rfl, rfl⟩ rfl rfl rfl rfl rfl (by kernel_rfl) Try.func5 (by kernel_rfl)
    (of_decide_eq_true (by kernel_rfl)) (by unfold Func.isWrapper; first | (rw [if_pos (by decide +kernel)]; kernel_rfl) | (rw [if_neg (by decide +kernel)]; exact ⟨rfl, rfl⟩))
    (fun os started H enc _ => lifted hM os started H enc)
end floatBallast
end Go.Proofs.Ytjpoganponbdlaa
end
