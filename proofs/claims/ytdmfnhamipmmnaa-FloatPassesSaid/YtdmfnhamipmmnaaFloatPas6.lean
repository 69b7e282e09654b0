/- Part 7 of what the law needs: own work, put together. -/
import Derived.Deep.Slices
import Derived.WideShapes
import Derived.ProofKit
import Derived.Test.YtdmfnhamipmmnaaRows
import Derived.Test.YtdmfnhamipmmnaaFloatPas5
section
namespace Go.Proofs.Ytdmfnhamipmmnaa
open Go.RowKit
set_option linter.unusedVariables false
set_option linter.unusedSimpArgs false
set_option maxRecDepth 10000
set_option maxHeartbeats 4000000

def GOk (g : T_Load → Int) (f : T_Float) : Prop := ∀ l ∈ f.Loads, 0 ≤ g l ∧ g l ≤ 100000
theorem gLo (f : T_Float) (h : FlOk f) : GOk (fun l => l.Kilos.Lo) f := fun l hl => by
 have a := h.all l hl
 exact ⟨a.k1, by have h2 := a.k2; have h3 := a.k3; show l.Kilos.Lo ≤ 100000; omega⟩
theorem gHi (f : T_Float) (h : FlOk f) : GOk (fun l => l.Kilos.Hi) f := fun l hl => by
 have := h.all l hl
 exact ⟨by have h1 := this.k1; have h2 := this.k2; show 0 ≤ l.Kilos.Hi; omega, this.k3⟩
theorem ws_ok (f : T_Float) (h : FlOk f) (g : T_Load → Int) (hg : GOk g f) (q : Int) (q1 : f.Front ≤ q) (q2 : q ≤ f.Rear) : ∀ w ∈ wsF f g f.Loads, 0 ≤ w.kilos_ ∧ w.kilos_ ≤ 100000 ∧ -3000 ≤ w.at_ - q ∧ w.at_ - q ≤ 3000 := by
 have := h.l2; have := h.f1; have := h.f2; have := h.f3; have := h.m1; have := h.m2; have := h.k1; have := h.k2
 intro w hw
 rcases List.mem_cons.1 hw with rfl | hw
 ·exact ⟨h.k1, h.k2, by show -3000 ≤ f.Middle - q; omega, by show f.Middle - q ≤ 3000; omega⟩
 ·obtain ⟨l, hl, rfl⟩ := List.mem_map.1 hw
  have a1 := (h.all l hl).a1; have a2 := (h.all l hl).a2
  exact ⟨(hg l hl).1, (hg l hl).2, by show -3000 ≤ l.At - q; omega, by show l.At - q ≤ 3000; omega⟩
theorem ws_len (f : T_Float) (h : FlOk f) (g : T_Load → Int) : (wsF f g f.Loads).length ≤ 22 := by
 have := h.n
 simp [wsF]; omega
section
variable (N : Nat) (hN : 30 < N) (t : T_float_truth) (f : T_Float) (hf : FlOk f) (g k : T_Load → Int) (hg : GOk g f) (ht : TrIs t f g k f.Loads.length)
include hN hf hg ht
theorem onFront_p : p_float_truth_onFront N t = some (-(momW f.Rear (wsF f g f.Loads))) ∧ -6600000000 ≤ momW f.Rear (wsF f g f.Loads) ∧ momW f.Rear (wsF f g f.Loads) ≤ 6600000000 := by
 obtain ⟨e, b1, b2⟩ := moment_p N f.Rear (wsF f g f.Loads) (ws_ok f hf g hg f.Rear (by have := hf.f2; omega) (Int.le_refl _)) (ws_len f hf g) hN
 refine ⟨?_, b1, b2⟩
 unfold p_float_truth_onFront
 rw [weights_p N t f g k ht hf.n hN, Option.bind_some, ht.e, e, Option.bind_some, w64 (x := 0 - momW f.Rear (wsF f g f.Loads)) (by omega) (by omega)]
 congr 1
 omega
theorem onRear_p : p_float_truth_onRear N t = some (momW f.Front (wsF f g f.Loads)) ∧ -6600000000 ≤ momW f.Front (wsF f g f.Loads) ∧ momW f.Front (wsF f g f.Loads) ≤ 6600000000 := by
 obtain ⟨e, b1, b2⟩ := moment_p N f.Front (wsF f g f.Loads) (ws_ok f hf g hg f.Front (Int.le_refl _) (by have := hf.f2; omega)) (ws_len f hf g) hN
 refine ⟨?_, b1, b2⟩
 unfold p_float_truth_onRear
 rw [weights_p N t f g k ht hf.n hN, Option.bind_some, ht.e, e, Option.bind_some]
theorem stands_p : p_float_truth_stands N t = some (decide (momW f.Rear (wsF f g f.Loads) ≤ 0) && decide (0 ≤ momW f.Front (wsF f g f.Loads))) := by
 unfold p_float_truth_stands
 rw [(onFront_p N hN t f hf g k hg ht).1, Option.bind_some, (onRear_p N hN t f hf g k hg ht).1, Option.bind_some]
 generalize momW f.Rear (wsF f g f.Loads) = a
 generalize momW f.Front (wsF f g f.Loads) = b
 by_cases h : a ≤ 0
 ·simp [h, show -a ≥ 0 by omega]
 ·simp [h, show ¬ -a ≥ 0 by omega]
omit hg in
theorem height_p : p_float_truth_height N t = some (talL (f.Loads.map k) f.High) := by
 have hn := hf.n
 unfold p_float_truth_height
 rw [letJ_eq, ht.e]
 refine loop2_T (fun (r : Option Int) => r = some (talL (f.Loads.map k) f.High)) (fun a i => ∃ j : Nat, i = (j : Int) ∧ j ≤ f.Loads.length ∧ a = talL ((f.Loads.take j).map k) f.High) (fun a i => f.Loads.length - i.toNat) ?_ N _ 0 ⟨0, rfl, by omega, by simp [talL]⟩ (by simp; omega)
 rintro rec a i ⟨j, rfl, hj, rfl⟩ ih
 by_cases hlt : j < f.Loads.length
 ·have hx : f.Loads[j]? = some f.Loads[j] := List.getElem?_eq_getElem hlt
  obtain ⟨e1, e2, e3, e4⟩ := lt_dec hx
  simp only [e1, cond_true, Option.bind_some, idxI_ok (show 0 ≤ (j : Int) by omega) (show (j : Int) < ((21 : Nat) : Int) by omega), nat_add1 j (by omega), Int.toNat_natCast, ht.ht j _ hlt hx]
  refine ih _ _ ⟨j + 1, rfl, hlt, ?_⟩ (by omega)
  rw [List.take_succ_eq_append_getElem hlt]
  simp only [talL, List.map_append, List.map_cons, List.map_nil, List.foldl_append, List.foldl_cons, List.foldl_nil]
  rfl
 ·have : j = f.Loads.length := by omega
  subst this
  rw [len_dec, cond_false, List.take_length]
theorem total_p : p_float_truth_total N t = some (((wsF f g f.Loads).map fun w => w.kilos_).sum) ∧ 0 ≤ ((wsF f g f.Loads).map fun w => w.kilos_).sum ∧ ((wsF f g f.Loads).map fun w => w.kilos_).sum ≤ 2200000 := by
 have hw := ws_ok f hf g hg f.Rear (by have := hf.f2; omega) (Int.le_refl _)
 have hn := ws_len f hf g
 unfold p_float_truth_total
 rw [weights_p N t f g k ht hf.n hN, Option.bind_some, letJ_eq]
 generalize wsF f g f.Loads = ws at hw hn
 have hb : ∀ (j : Nat), j ≤ ws.length → 0 ≤ (((ws.take j).map fun w => w.kilos_).sum) ∧ (((ws.take j).map fun w => w.kilos_).sum) ≤ 100000 * (j : Int) := by
  intro j
  induction j with
  | zero => intro _; simp
  | succ j ih =>
   intro hj
   have ih := ih (by omega)
   have hlt : j < ws.length := by omega
   obtain ⟨a, b, _, _⟩ := hw _ (List.getElem_mem hlt)
   rw [List.take_succ_eq_append_getElem hlt]
   simp only [List.map_append, List.sum_append, List.map_cons, List.map_nil, List.sum_cons, List.sum_nil] at ih ⊢
   omega
 have hall := hb ws.length (Nat.le_refl _)
 rw [List.take_length] at hall
 refine ⟨?_, by omega, by omega⟩
 refine loop2_T (fun (r : Option Int) => r = some ((ws.map fun w => w.kilos_).sum)) (fun a i => ∃ j : Nat, i = (j : Int) ∧ j ≤ ws.length ∧ a = ((ws.take j).map fun w => w.kilos_).sum) (fun a i => ws.length - i.toNat) ?_ N 0 0 ⟨0, rfl, by omega, by simp⟩ (by simp; omega)
 rintro rec a i ⟨j, rfl, hj, rfl⟩ ih
 by_cases hlt : j < ws.length
 ·have hx : ws[j]? = some ws[j] := List.getElem?_eq_getElem hlt
  obtain ⟨e1, e2, e3, e4⟩ := lt_dec hx
  obtain ⟨a, b, _, _⟩ := hw _ e3
  have b1 := hb j hj
  have s1 : (((ws.take (j + 1)).map fun w => w.kilos_).sum) = (((ws.take j).map fun w => w.kilos_).sum) + ws[j].kilos_ := by
   rw [List.take_succ_eq_append_getElem hlt]
   simp only [List.map_append, List.sum_append, List.map_cons, List.map_nil, List.sum_cons, List.sum_nil]
   omega
  rw [e1, cond_true, e2, Option.bind_some, nat_add1 j (by omega), w64 (x := (((ws.take j).map fun w => w.kilos_).sum) + ws[j].kilos_) (by omega) (by omega)]
  exact ih _ _ ⟨j + 1, rfl, hlt, s1.symm⟩ (by omega)
 ·have : j = ws.length := by omega
  subst this
  rw [len_dec, cond_false, List.take_length]
theorem bridge_p (a b : Int) (b0 : 0 ≤ b) (b1 : b ≤ 10000000) : p_float_truth_passesBridge N t a b = some (decide (((wsF f g f.Loads).map fun w => w.kilos_).sum ≤ a) && (decide (-(momW f.Rear (wsF f g f.Loads)) ≤ b * (f.Rear - f.Front)) && decide (momW f.Front (wsF f g f.Loads) ≤ b * (f.Rear - f.Front)))) := by
 have := hf.l2; have := hf.f1; have := hf.f2; have := hf.f3
 have m := mulB (A := 10000000) (B := 3000) b0 b1 (show 0 ≤ f.Rear - f.Front by omega) (by omega)
 unfold p_float_truth_passesBridge
 rw [ht.e, w64 (x := f.Rear - f.Front) (by omega) (by omega), w64 (x := b * (f.Rear - f.Front)) (by omega) (by omega), (total_p N hN t f hf g k hg ht).1, Option.bind_some, (onFront_p N hN t f hf g k hg ht).1, Option.bind_some, (onRear_p N hN t f hf g k hg ht).1, Option.bind_some]
 generalize ((wsF f g f.Loads).map fun w => w.kilos_).sum = x
 generalize momW f.Rear (wsF f g f.Loads) = y
 generalize momW f.Front (wsF f g f.Loads) = z
 by_cases h1 : x ≤ a
 ·rw [show decide (x ≤ a) = true from decide_eq_true h1, cond_true, Bool.true_and]
  by_cases h2 : -y ≤ b * (f.Rear - f.Front)
  ·rw [show decide (-y ≤ b * (f.Rear - f.Front)) = true from decide_eq_true h2, cond_true, Bool.true_and]
  ·rw [show decide (-y ≤ b * (f.Rear - f.Front)) = false from decide_eq_false h2, cond_false, Bool.false_and]
 ·rw [show decide (x ≤ a) = false from decide_eq_false h1, cond_false, Bool.false_and]
end
theorem srch (F : Int → Option Bool) (n : Int) (h0 : 0 ≤ n) (hn : n ≤ 1000000) (b : Int → Bool) (hF : ∀ k, 0 ≤ k → k < n → F k = some (b k))
  (body : (Int → Int → Option Int) → Int → Int → Option Int)
  (hbody : ∀ rec i_8 j_9, body rec i_8 j_9 = (bif (decide (i_8 < j_9)) then (((some (Int.fdiv (IntKind.u64.wrap (IntKind.i64.wrap (i_8 + j_9))) ((2 : Int) ^ (min (Int.toNat 1) (IntKind.bits .u64))))).bind fun n_19 => ((F (IntKind.i64.wrap n_19)).bind fun r_20 => (bif (!r_20) then (rec (IntKind.i64.wrap ((IntKind.i64.wrap n_19) + 1)) j_9) else (rec i_8 (IntKind.i64.wrap n_19)))))) else some i_8))
  (N : Nat) (hN : n.toNat < N) : ∃ r, loop2 body N 0 n = some r ∧ 0 ≤ r ∧ r ≤ n ∧ ((∀ x y, 0 ≤ x → x ≤ y → y < n → b x = true → b y = true) → ∀ k, 0 ≤ k → k < n → (b k = true ↔ r ≤ k)) := by
 refine loop2_T (fun (o : Option Int) => ∃ r, o = some r ∧ 0 ≤ r ∧ r ≤ n ∧ ((∀ x y, 0 ≤ x → x ≤ y → y < n → b x = true → b y = true) → ∀ k, 0 ≤ k → k < n → (b k = true ↔ r ≤ k)))
  (fun i j => 0 ≤ i ∧ i ≤ j ∧ j ≤ n ∧ ((∀ x y, 0 ≤ x → x ≤ y → y < n → b x = true → b y = true) → (∀ k, 0 ≤ k → k < i → b k = false) ∧ ∀ k, j ≤ k → k < n → b k = true)) (fun i j => (j - i).toNat) ?_ N 0 n ⟨Int.le_refl _, h0, Int.le_refl _, fun _ => ⟨fun k a c => by omega, fun k a c => by omega⟩⟩ (by simpa using hN)
 rintro rec i j ⟨i0, ij, jn, hm⟩ ih
 rw [hbody]
 by_cases hlt : i < j
 ·have e2 : (2 : Int) ^ (min (Int.toNat 1) (IntKind.bits .u64)) = 2 := rfl
  rw [show decide (i < j) = true from decide_eq_true hlt, cond_true, Option.bind_some, w64 (x := i + j) (by omega) (by omega), wu64_id (x := i + j) (by omega) (by omega), e2, Int.fdiv_eq_ediv_of_nonneg _ (by omega), w64 (x := (i + j) / 2) (by omega) (by omega), w64 (x := (i + j) / 2 + 1) (by omega) (by omega), hF _ (by omega) (by omega), Option.bind_some]
  generalize hc : (i + j) / 2 = c
  have hc1 : i ≤ c ∧ c < j := by omega
  cases hb : b c with
  | false =>
   rw [Bool.not_false, cond_true]
   refine ih _ _ ⟨by omega, by omega, jn, fun mono => ⟨fun k k0 k1 => ?_, (hm mono).2⟩⟩ (by omega)
   cases hk : b k with
   | false => rfl
   | true =>
    have := mono k c k0 (by omega) (by omega) hk
    rw [hb] at this
    exact this.symm
  | true =>
   rw [Bool.not_true, cond_false]
   refine ih _ _ ⟨i0, by omega, by omega, fun mono => ⟨(hm mono).1, fun k k0 k1 => mono c k (by omega) k0 k1 hb⟩⟩ (by omega)
 ·rw [show decide (i < j) = false from decide_eq_false hlt, cond_false]
  refine ⟨i, rfl, i0, by omega, fun mono k k0 k1 => ⟨fun hk => ?_, fun hk => (hm mono).2 k (by omega) k1⟩⟩
  have q := (hm mono).1 k k0
  by_cases hki : k < i
  ·rw [q hki] at hk
   exact absurd hk (by simp)
  ·omega
end Go.Proofs.Ytdmfnhamipmmnaa
end
section
namespace Go.Proofs.Ytdmfnhamipmmnaa
open Go.RowKit
set_option linter.unusedVariables false
set_option linter.unusedSimpArgs false
set_option maxRecDepth 10000
set_option maxHeartbeats 4000000

theorem momW_bl (q : Int) (f : T_Float) (p k : Int) (g : T_Load → Int) (hg : g ⟨p, ⟨k, k⟩, ⟨0, 0⟩, 1, 0⟩ = k) : momW q (wsF (blF f p k) g (blF f p k).Loads) = momW q (wsF f g f.Loads) + k * (p - q) := by
 simp only [momW, wsF, blF, List.map_append, List.map_cons, List.map_nil, List.sum_cons, List.sum_append, List.sum_nil, hg]
 omega
theorem totW_bl (f : T_Float) (p k : Int) (g : T_Load → Int) (hg : g ⟨p, ⟨k, k⟩, ⟨0, 0⟩, 1, 0⟩ = k) : ((wsF (blF f p k) g (blF f p k).Loads).map fun w => w.kilos_).sum = ((wsF f g f.Loads).map fun w => w.kilos_).sum + k := by
 simp only [wsF, blF, List.map_append, List.map_cons, List.map_nil, List.sum_cons, List.sum_append, List.sum_nil, hg]
 omega
theorem talL_bl (f : T_Float) (h0 : 0 ≤ f.High) (p k : Int) : talL ((blF f p k).Loads.map fun l => l.Top.Hi) (blF f p k).High = talL ((f.Loads ++ [(⟨p, ⟨0, 0⟩, ⟨0, 0⟩, 1, 0⟩ : T_Load)]).map fun (l : T_Load) => l.Top.Hi) f.High := by
 simp only [blF, List.map_append, List.map_cons, List.map_nil]
theorem bend1_eq (N : Nat) (m a : Int) (t u : T_float_truth) (h1 : t.Float.Turn = u.Float.Turn) (h2 : t.Float.Width = u.Float.Width) : p_float_truth_passesBend_1 N m t a = p_float_truth_passesBend_1 N m u a := by
 unfold p_float_truth_passesBend_1
 rw [h1, h2]
theorem search1_p (N : Nat) (hN : 22000 < N) (t : T_float_truth) (a : Int) : ∃ r, p_sort_Search_float_truth_passesBend_1 N 21000 t a = some r := by
 obtain ⟨r, e, _⟩ := srch (fun m => p_float_truth_passesBend_1 N m t a) 21000 (by omega) (by omega) _ (fun k _ _ => rfl) _ (fun rec i j => rfl) N (by omega)
 exact ⟨r, e⟩
theorem search1_eq (N : Nat) (a : Int) (t u : T_float_truth) (h1 : t.Float.Turn = u.Float.Turn) (h2 : t.Float.Width = u.Float.Width) : p_sort_Search_float_truth_passesBend_1 N 21000 t a = p_sort_Search_float_truth_passesBend_1 N 21000 u a := by
 unfold p_sort_Search_float_truth_passesBend_1
 simp only [bend1_eq N _ a t u h1 h2]
theorem bend_p (N : Nat) (hN : 22000 < N) (t : T_float_truth) (a b : Int) : ∃ r, p_float_truth_passesBend N t a b = some r := by
 obtain ⟨r, e⟩ := search1_p N hN t a
 unfold p_float_truth_passesBend
 rw [e]
 exact ⟨_, rfl⟩
theorem bend_eq (N : Nat) (a b : Int) (t u : T_float_truth) (h1 : t.Float.Turn = u.Float.Turn) (h2 : t.Float.Width = u.Float.Width) (h3 : t.Float.Length = u.Float.Length) (h4 : t.Float.Rear = u.Float.Rear) : p_float_truth_passesBend N t a b = p_float_truth_passesBend N u a b := by
 unfold p_float_truth_passesBend
 rw [search1_eq N a t u h1 h2, h1, h2, h3, h4]
theorem passes_any (N : Nat) (hN : 22000 < N) (f : T_Float) (hf : FlOk f) (g k : T_Load → Int) (hg : GOk g f) (t : T_float_truth) (ht : TrIs t f g k f.Loads.length) (h : T_Hurdle) (hh : HuOk h) : ∃ b, p_float_truth_passes N t h = some b := by
 unfold p_float_truth_passes
 rcases hh with ⟨e, a, b, c⟩ | ⟨e, a, b, c⟩ | ⟨e, a, b, c, d⟩
 ·rw [e, show ((1 : Int) == 1) = true from rfl, cond_true]
  obtain ⟨r, hr⟩ := bend_p N hN t h.A h.B
  rw [hr]
  exact ⟨r, rfl⟩
 ·rw [e, show ((2 : Int) == 1) = false from rfl, cond_false, show ((2 : Int) == 2) = true from rfl, cond_true, height_p N (by omega) t f hf g k ht]
  exact ⟨_, rfl⟩
 ·rw [e, show ((3 : Int) == 1) = false from rfl, cond_false, show ((3 : Int) == 2) = false from rfl, cond_false, bridge_p N (by omega) t f hf g k hg ht h.A h.B c d]
  exact ⟨_, rfl⟩
theorem anti {u v x y d : Int} (h : x ≤ y) (hd : 0 ≤ d) (e : u + y * d ≤ v) : u + x * d ≤ v := by
 have := Int.mul_le_mul_of_nonneg_right h hd
 omega
theorem passes_p (N : Nat) (hN : 22000 < N) (f : T_Float) (hf : FlOk f) (hn : f.Loads.length ≤ 20) (p : Int) (p1 : f.Front ≤ p) (p2 : p ≤ f.Rear) (h : T_Hurdle) (hh : HuOk h) : ∃ b : Int → Bool, (∀ x y, 0 ≤ x → x ≤ y → y ≤ 100000 → b y = true → b x = true) ∧ ∀ k, 0 ≤ k → k ≤ 100000 → ∀ t, TrIs t (blF f p k) (fun l => l.Kilos.Hi) (fun l => l.Top.Hi) (blF f p k).Loads.length → p_float_truth_passes N t h = some (b k) := by
 unfold p_float_truth_passes
 rcases hh with ⟨e, a, b, c⟩ | ⟨e, a, b, c⟩ | ⟨e, a, b, c, d⟩
 ·rw [e, show ((1 : Int) == 1) = true from rfl]
  obtain ⟨r, hr⟩ := bend_p N hN (⟨blF f p 0, default, default⟩ : T_float_truth) h.A h.B
  refine ⟨fun _ => r, fun _ _ _ _ _ h => h, fun k k0 k1 t ht => ?_⟩
  rw [cond_true, bend_eq N h.A h.B t ⟨blF f p 0, default, default⟩ (by rw [ht.e]; rfl) (by rw [ht.e]; rfl) (by rw [ht.e]; rfl) (by rw [ht.e]; rfl), hr]
  rfl
 ·rw [e, show ((2 : Int) == 1) = false from rfl, show ((2 : Int) == 2) = true from rfl]
  refine ⟨fun _ => decide (talL ((f.Loads ++ [(⟨p, ⟨0, 0⟩, ⟨0, 0⟩, 1, 0⟩ : T_Load)]).map fun (l : T_Load) => l.Top.Hi) f.High ≤ h.A), fun _ _ _ _ _ h => h, fun k k0 k1 t ht => ?_⟩
  have hb := blF_ok f hf hn p k p1 p2 k0 k1
  rw [cond_false, cond_true, height_p N (by omega) t (blF f p k) hb _ _ ht, talL_bl f hf.h1]
  rfl
 ·rw [e, show ((3 : Int) == 1) = false from rfl, show ((3 : Int) == 2) = false from rfl]
  refine ⟨fun k => decide (((wsF f (fun l => l.Kilos.Hi) f.Loads).map fun w => w.kilos_).sum + k ≤ h.A) && (decide (-(momW f.Rear (wsF f (fun l => l.Kilos.Hi) f.Loads)) + k * (f.Rear - p) ≤ h.B * (f.Rear - f.Front)) && decide (momW f.Front (wsF f (fun l => l.Kilos.Hi) f.Loads) + k * (p - f.Front) ≤ h.B * (f.Rear - f.Front))), ?_, fun k k0 k1 t ht => ?_⟩
  ·intro x y hx hxy hy hb
   simp only [Bool.and_eq_true, decide_eq_true_eq] at hb ⊢
   exact ⟨by omega, anti hxy (by omega) hb.2.1, anti hxy (by omega) hb.2.2⟩
  ·have hb := blF_ok f hf hn p k p1 p2 k0 k1
   rw [cond_false, cond_false, bridge_p N (by omega) t (blF f p k) hb _ _ (gHi _ hb) ht h.A h.B c d, totW_bl f p k _ rfl]
   rw [show (blF f p k).Rear = f.Rear from rfl, show (blF f p k).Front = f.Front from rfl, momW_bl f.Rear f p k _ rfl, momW_bl f.Front f p k _ rfl]
   have e1 : -(momW f.Rear (wsF f (fun l => l.Kilos.Hi) f.Loads) + k * (p - f.Rear)) = -(momW f.Rear (wsF f (fun l => l.Kilos.Hi) f.Loads)) + k * (f.Rear - p) := by
    rw [Int.mul_sub, Int.mul_sub]; omega
   rw [e1]
   rfl
theorem stands_bl (N : Nat) (hN : 22000 < N) (f : T_Float) (hf : FlOk f) (hn : f.Loads.length ≤ 20) (p : Int) (p1 : f.Front ≤ p) (p2 : p ≤ f.Rear) : ∃ b : Int → Bool, (∀ x y, 0 ≤ x → x ≤ y → y ≤ 100000 → b x = true → b y = true) ∧ ∀ k, 0 ≤ k → k ≤ 100000 → ∀ t, TrIs t (blF f p k) (fun l => l.Kilos.Lo) (fun l => l.Top.Lo) (blF f p k).Loads.length → p_float_truth_stands N t = some (b k) := by
 refine ⟨fun k => decide (momW f.Rear (wsF f (fun l => l.Kilos.Lo) f.Loads) + k * (p - f.Rear) ≤ 0) && decide (0 ≤ momW f.Front (wsF f (fun l => l.Kilos.Lo) f.Loads) + k * (p - f.Front)), ?_, fun k k0 k1 t ht => ?_⟩
 ·intro x y hx hxy hy hb
  simp only [Bool.and_eq_true, decide_eq_true_eq] at hb ⊢
  have m1 := Int.mul_le_mul_of_nonneg_right hxy (show 0 ≤ f.Rear - p by omega)
  have m2 := Int.mul_le_mul_of_nonneg_right hxy (show 0 ≤ p - f.Front by omega)
  have e1 : x * (p - f.Rear) = -(x * (f.Rear - p)) := by rw [Int.mul_sub, Int.mul_sub]; omega
  have e2 : y * (p - f.Rear) = -(y * (f.Rear - p)) := by rw [Int.mul_sub, Int.mul_sub]; omega
  rw [e1] at hb
  rw [e2]
  omega
 ·have hb := blF_ok f hf hn p k p1 p2 k0 k1
  rw [stands_p N (by omega) t (blF f p k) hb _ _ (gLo _ hb) ht]
  rw [show (blF f p k).Rear = f.Rear from rfl, show (blF f p k).Front = f.Front from rfl, momW_bl f.Rear f p k _ rfl, momW_bl f.Front f p k _ rfl]
theorem verdict_p (N : Nat) (a b : Bool) : ∃ v, p_float_verdict N a b = some v ∧ (v = 1 ↔ a = true) := by
 unfold p_float_verdict
 cases a <;> cases b <;> simp
theorem verdicts_p (N : Nat) (hN : 22000 < N) (f : T_Float) (hf : FlOk f) (hs : List T_Hurdle) (hn : hs.length ≤ 40) (hh : ∀ h ∈ hs, HuOk h) : ∃ vs z, p_float_verdicts N f hs = some vs ∧ p_float_endsOf N f = some z ∧ TrIs z.a1 f (fun l => l.Kilos.Hi) (fun l => l.Top.Hi) f.Loads.length ∧ ∀ Q : T_Hurdle → Bool, (∀ h ∈ hs, p_float_truth_passes N z.a1 h = some (Q h)) → vs.map (fun v => v == 1) = hs.map Q := by
 obtain ⟨z, ez, h0, h1⟩ := endsOf_p N f hf.n (by omega)
 have hv : ∀ h ∈ hs, ∃ a b, p_float_truth_passes N z.a1 h = some a ∧ p_float_truth_passes N z.a0 h = some b := fun h hm => by
  obtain ⟨a, ea⟩ := passes_any N hN f hf _ _ (gHi f hf) z.a1 h1 h (hh h hm)
  obtain ⟨b, eb⟩ := passes_any N hN f hf _ _ (gLo f hf) z.a0 h0 h (hh h hm)
  exact ⟨a, b, ea, eb⟩
 suffices hx : ∃ vs, p_float_verdicts N f hs = some vs ∧ ∀ Q : T_Hurdle → Bool, (∀ h ∈ hs, p_float_truth_passes N z.a1 h = some (Q h)) → vs.map (fun v => v == 1) = hs.map Q by
  obtain ⟨vs, e, hq⟩ := hx
  exact ⟨vs, z, e, ez, h1, hq⟩
 unfold p_float_verdicts
 rw [ez, Option.bind_some, letJ_eq]
 refine loop2_T (fun (r : Option (List Int)) => ∃ vs, r = some vs ∧ ∀ Q : T_Hurdle → Bool, (∀ h ∈ hs, p_float_truth_passes N z.a1 h = some (Q h)) → vs.map (fun v => v == 1) = hs.map Q) (fun a i => ∃ j : Nat, i = (j : Int) ∧ j ≤ hs.length ∧ a.length = j ∧ ∀ Q : T_Hurdle → Bool, (∀ h ∈ hs, p_float_truth_passes N z.a1 h = some (Q h)) → a.map (fun v => v == 1) = (hs.take j).map Q) (fun a i => hs.length - i.toNat) ?_ N [] 0 ⟨0, rfl, by omega, rfl, fun _ _ => rfl⟩ (by simp; omega)
 rintro rec a i ⟨j, rfl, hj, hl, ha⟩ ih
 by_cases hlt : j < hs.length
 ·have hx : hs[j]? = some hs[j] := List.getElem?_eq_getElem hlt
  obtain ⟨e1, e2, e3, e4⟩ := lt_dec hx
  obtain ⟨x, y, ex, ey⟩ := hv _ e3
  obtain ⟨v, ev, hv1⟩ := verdict_p N x y
  simp only [e1, cond_true, e2, Option.bind_some, ex, ey, ev]
  rw [pushI_ok (by simp; omega), Option.bind_some, nat_add1 j (by omega)]
  refine ih _ _ ⟨j + 1, rfl, hlt, by simp; omega, fun Q hQ => ?_⟩ (by omega)
  rw [List.take_succ_eq_append_getElem hlt, List.map_append, List.map_append, ha Q hQ]
  have hq := hQ _ e3
  rw [ex] at hq
  have hq := Option.some.inj hq
  simp only [List.map_cons, List.map_nil]
  congr 2
  rw [← hq]
  cases x with
  | true => simp [hv1.2 rfl]
  | false =>
   have : ¬ v = 1 := fun h => by have := hv1.1 h; exact absurd this (by simp)
   simp [this]
 ·have : j = hs.length := by omega
  subst this
  rw [len_dec, cond_false]
  rw [List.take_length] at ha
  exact ⟨a, rfl, ha⟩
theorem index_p (N : Nat) (vs : List Int) (hN : vs.length < N) (hn : vs.length ≤ 40) : ∃ r, p_slices_IndexFunc_int_int_float_firstStop_1 N vs = some r ∧ -1 ≤ r ∧ (r = -1 ↔ (vs.map fun v => v == 1).all id = true) := by
 unfold p_slices_IndexFunc_int_int_float_firstStop_1
 rw [letJ_eq]
 refine loop1_T (fun (o : Option Int) => ∃ r, o = some r ∧ -1 ≤ r ∧ (r = -1 ↔ (vs.map fun v => v == 1).all id = true)) (fun i => ∃ j : Nat, i = (j : Int) ∧ j ≤ vs.length ∧ ((vs.take j).map fun v => v == 1).all id = true) (fun i => vs.length - i.toNat) ?_ N 0 ⟨0, rfl, by omega, rfl⟩ (by simpa using hN)
 rintro rec i ⟨j, rfl, hj, ha⟩ ih
 by_cases hlt : j < vs.length
 ·have hx : vs[j]? = some vs[j] := List.getElem?_eq_getElem hlt
  obtain ⟨e1, e2, e3, e4⟩ := lt_dec hx
  rw [e1, cond_true, e2, Option.bind_some, show p_float_firstStop_1 N vs[j] = some (vs[j] != 1) from rfl, Option.bind_some]
  cases hc : (vs[j] == 1) with
  | true =>
   rw [show (vs[j] != 1) = false by simp [bne, hc], cond_false, nat_add1 j (by omega)]
   refine ih _ ⟨j + 1, rfl, hlt, ?_⟩ (by omega)
   rw [List.take_succ_eq_append_getElem hlt, List.map_append, List.all_append, ha]
   simp [hc]
  | false =>
   rw [show (vs[j] != 1) = true by simp [bne, hc], cond_true]
   refine ⟨(j : Int), rfl, by omega, ⟨fun h => by omega, fun h => ?_⟩⟩
   have := List.all_eq_true.1 h (vs[j] == 1) (List.mem_map.2 ⟨_, e3, rfl⟩)
   rw [hc] at this
   exact absurd this (by simp)
 ·have : j = vs.length := by omega
  subst this
  rw [len_dec, cond_false]
  rw [List.take_length] at ha
  exact ⟨-1, rfl, Int.le_refl _, ⟨fun _ => ha, fun _ => rfl⟩⟩
end Go.Proofs.Ytdmfnhamipmmnaa
end
section
namespace Go.Proofs.Ytdmfnhamipmmnaa
open Go.RowKit
set_option linter.unusedVariables false
set_option linter.unusedSimpArgs false
set_option maxRecDepth 10000
set_option maxHeartbeats 4000000

theorem index_first (N : Nat) (vs : List Int) (hN : vs.length < N) (hn : vs.length ≤ 1000) : ∃ r, p_slices_IndexFunc_int_int_float_firstStop_1 N vs = some r ∧ -1 ≤ r ∧ r < (vs.length : Int) ∧ (∀ (i : Nat) v, (r < 0 ∨ (i : Int) < r) → vs[i]? = some v → v = 1) ∧ (0 ≤ r → ∃ v, vs[r.toNat]? = some v ∧ v ≠ 1) := by
 unfold p_slices_IndexFunc_int_int_float_firstStop_1
 rw [letJ_eq]
 refine loop1_T (fun (o : Option Int) => ∃ r, o = some r ∧ -1 ≤ r ∧ r < (vs.length : Int) ∧ (∀ (i : Nat) v, (r < 0 ∨ (i : Int) < r) → vs[i]? = some v → v = 1) ∧ (0 ≤ r → ∃ v, vs[r.toNat]? = some v ∧ v ≠ 1)) (fun i => ∃ j : Nat, i = (j : Int) ∧ j ≤ vs.length ∧ ∀ (k : Nat) v, k < j → vs[k]? = some v → v = 1) (fun i => vs.length - i.toNat) ?_ N 0 ⟨0, rfl, by omega, fun k v h => absurd h (Nat.not_lt_zero _)⟩ (by simpa using hN)
 rintro rec i ⟨j, rfl, hj, ha⟩ ih
 by_cases hlt : j < vs.length
 ·have hx : vs[j]? = some vs[j] := List.getElem?_eq_getElem hlt
  obtain ⟨e1, e2, e3, e4⟩ := lt_dec hx
  rw [e1, cond_true, e2, Option.bind_some, show p_float_firstStop_1 N vs[j] = some (vs[j] != 1) from rfl, Option.bind_some]
  cases hc : (vs[j] == 1) with
  | true =>
   rw [show (vs[j] != 1) = false by simp [bne, hc], cond_false, nat_add1 j (by omega)]
   refine ih _ ⟨j + 1, rfl, hlt, fun k v hk hv => ?_⟩ (by omega)
   by_cases hkj : k = j
   ·subst hkj
    rw [hx] at hv
    rw [← Option.some.inj hv]
    simpa using hc
   ·exact ha k v (by omega) hv
  | false =>
   rw [show (vs[j] != 1) = true by simp [bne, hc], cond_true]
   refine ⟨(j : Int), rfl, by omega, by omega, fun k v hk hv => ha k v (by omega) hv, fun _ => ⟨vs[j], by rw [Int.toNat_natCast]; exact hx, by simpa using hc⟩⟩
 ·have : j = vs.length := by omega
  subst this
  rw [len_dec, cond_false]
  refine ⟨-1, rfl, Int.le_refl _, by omega, fun k v _ hv => ha k v (List.getElem?_eq_some_iff.1 hv).1 hv, fun h => by omega⟩
end Go.Proofs.Ytdmfnhamipmmnaa
end
section
namespace Go.Proofs.Ytdmfnhamipmmnaa
open Go.RowKit
set_option linter.unusedVariables false
set_option linter.unusedSimpArgs false
set_option maxRecDepth 10000
set_option maxHeartbeats 4000000

theorem blF_len (f : T_Float) (p k : Int) : (blF f p k).Loads.length = f.Loads.length + 1 := by simp [blF]
section
variable (N : Nat) (hN : 110000 < N) (f : T_Float) (hf : FlOk f) (hn : f.Loads.length ≤ 20) (hs : List T_Hurdle) (hl : hs.length ≤ 40) (hh : ∀ h ∈ hs, HuOk h) (p : Int) (p1 : f.Front ≤ p) (p2 : p ≤ f.Rear)
include hN hf hn hl hh p1 p2
theorem firstStop_p : ∃ b : Int → Bool, (∀ x y, 0 ≤ x → x ≤ y → y ≤ 100000 → b x = true → b y = true) ∧ ∀ k, 0 ≤ k → k ≤ 100000 → ∃ r, p_float_firstStop N (blF f p k) hs = some r ∧ -1 ≤ r ∧ (r = -1 ↔ b k = false) := by
 have hB : ∀ h : T_Hurdle, ∃ b : Int → Bool, HuOk h → (∀ x y, 0 ≤ x → x ≤ y → y ≤ 100000 → b y = true → b x = true) ∧ ∀ k, 0 ≤ k → k ≤ 100000 → ∀ t, TrIs t (blF f p k) (fun l => l.Kilos.Hi) (fun l => l.Top.Hi) (blF f p k).Loads.length → p_float_truth_passes N t h = some (b k) := by
  intro h
  by_cases hu : HuOk h
  ·obtain ⟨b, hb⟩ := passes_p N (by omega) f hf hn p p1 p2 h hu
   exact ⟨b, fun _ => hb⟩
  ·exact ⟨fun _ => true, fun h => absurd h hu⟩
 obtain ⟨B, hB⟩ := Classical.axiomOfChoice hB
 refine ⟨fun k => !((hs.map fun h => B h k).all id), ?_, ?_⟩
 ·intro x y hx hxy hy hb
  cases hc : (hs.map fun h => B h y).all id with
  | false => simp [hc]
  | true =>
   have : (hs.map fun h => B h x).all id = true := by
    rw [List.all_eq_true] at hc ⊢
    intro v hv
    obtain ⟨h, hm, rfl⟩ := List.mem_map.1 hv
    exact (hB h (hh h hm)).1 x y hx hxy hy (hc _ (List.mem_map.2 ⟨h, hm, rfl⟩))
   have hb : (!((hs.map fun h => B h x).all id)) = true := hb
   rw [this] at hb
   exact absurd hb (by simp)
 ·intro k k0 k1
  have hb := blF_ok f hf hn p k p1 p2 k0 k1
  obtain ⟨vs, z, e1, e2, h1, hq⟩ := verdicts_p N (by omega) (blF f p k) hb hs hl hh
  have hq := hq (fun h => B h k) fun h hm => (hB h (hh h hm)).2 k k0 k1 _ h1
  have hlen : vs.length = hs.length := by
   have := congrArg List.length hq
   simpa using this
  obtain ⟨r, er, hr, hr1⟩ := index_p N vs (by omega) (by omega)
  refine ⟨r, ?_, hr, ?_⟩
  ·unfold p_float_firstStop
   rw [e1, Option.bind_some, er, Option.bind_some]
  ·rw [hr1, hq]
   show (hs.map fun h => B h k).all id = true ↔ (!((hs.map fun h => B h k).all id)) = false
   generalize (hs.map fun h => B h k).all id = q
   cases q <;> decide
end
end Go.Proofs.Ytdmfnhamipmmnaa
end
section
namespace Go.Proofs.Ytdmfnhamipmmnaa
open Go.RowKit
set_option linter.unusedVariables false
set_option linter.unusedSimpArgs false
set_option maxRecDepth 10000
set_option maxHeartbeats 4000000

theorem momW_eq (q : Int) (f : T_Float) (g : T_Load → Int) (ls : List T_Load) : momW q (wsF f g ls) = f.Kilos * (f.Middle - q) + momL g q ls := by
 simp only [momW, wsF, List.map_cons, List.sum_cons, List.map_map]
 rfl
theorem momR_eq (g : T_Load → Int) (q : Int) : ∀ ls : List T_Load, momR g q ls = -(momL g q ls)
 | [] => rfl
 | l :: ls => by
  have := momR_eq g q ls
  simp only [momR, momL, List.map_cons, List.sum_cons] at this ⊢
  rw [this, show g l * (q - l.At) = -(g l * (l.At - q)) by rw [Int.mul_sub, Int.mul_sub]; omega]
  omega
theorem front_eq (f : T_Float) (g : T_Load → Int) : f.Kilos * (f.Rear - f.Middle) + momR g f.Rear f.Loads = -(momW f.Rear (wsF f g f.Loads)) := by
 rw [momW_eq, momR_eq, show f.Kilos * (f.Rear - f.Middle) = -(f.Kilos * (f.Middle - f.Rear)) by rw [Int.mul_sub, Int.mul_sub]; omega]
 omega
theorem total_eq (f : T_Float) (g : T_Load → Int) : ((wsF f g f.Loads).map fun w => w.kilos_).sum = f.Kilos + (f.Loads.map g).sum := by
 simp only [wsF, List.map_cons, List.sum_cons, List.map_map]
 rfl
theorem upright_p (N : Nat) (hN : 40 < N) (f : T_Float) (hf : FlOk f) (g k : T_Load → Int) (hg : GOk g f) (ts : List Int) (t : T_float_truth) (ht : TrIs t f g k f.Loads.length) : p_br2_Upright N f ⟨f.Loads.map g, ts⟩ = p_float_truth_stands N t := by
 rw [stands_p N (by omega) t f hf g k hg ht]
 unfold p_br2_Upright
 rw [carries_p N f hf g hg ts hN, Option.bind_some, front_eq, ← momW_eq]
 generalize momW f.Rear (wsF f g f.Loads) = a
 generalize momW f.Front (wsF f g f.Loads) = b
 by_cases h : a ≤ 0
 ·simp [h, show -a ≥ 0 by omega]
 ·simp [h, show ¬ -a ≥ 0 by omega]
theorem bend_g (N : Nat) (hN : 22000 < N) (f : T_Float) (hf : FlOk f) (t : T_float_truth) (ht : t.Float = f) (h : T_Hurdle) (a0 : 0 ≤ h.A) (ab : h.A < h.B) (b1 : h.B ≤ 20000) : ∃ b, p_float_truth_passesBend N t h.A h.B = some b ∧ ((p_br2_Up N (IntKind.i64.wrap ((IntKind.i64.wrap (2 * h.A)) + f.Width)) 2).bind fun r_5 => ((p_br2_Turns N f h (if r_5 > f.Turn then r_5 else f.Turn)).bind fun r_7 => some r_7)) = some b := by
 have := hf.w1; have := hf.w2; have := hf.t1; have := hf.t2
 have hF : ∀ k, 0 ≤ k → k < 21000 → p_float_truth_passesBend_1 N k t h.A = some (decide (2 * (f.Turn + k) - f.Width ≥ 2 * h.A)) := by
  intro k k0 k1
  unfold p_float_truth_passesBend_1
  rw [ht, Option.bind_some, w64 (x := f.Turn + k) (by omega) (by omega), w64 (x := 2 * (f.Turn + k)) (by omega) (by omega), w64 (x := 2 * (f.Turn + k) - f.Width) (by omega) (by omega), w64 (x := 2 * h.A) (by omega) (by omega)]
 obtain ⟨r, er, r0, r1, hr⟩ := srch (fun m => p_float_truth_passesBend_1 N m t h.A) 21000 (by omega) (by omega) _ hF _ (fun rec i j => rfl) N (by omega)
 have hr := hr (fun x y x0 xy yn hb => by
  have hb := of_decide_eq_true hb
  exact decide_eq_true (by omega))
 have hlt : r ≤ 20999 := (hr 20999 (by omega) (by omega)).1 (decide_eq_true (by omega))
 have h2 := of_decide_eq_true ((hr r r0 (by omega)).2 (Int.le_refl _))
 have h3 : 0 < r → ¬ (2 * (f.Turn + (r - 1)) - f.Width ≥ 2 * h.A) := fun hp hh => by
  have := (hr (r - 1) (by omega) (by omega)).1 (decide_eq_true hh)
  omega
 rw [w64 (x := 2 * h.A) (by omega) (by omega), w64 (x := 2 * h.A + f.Width) (by omega) (by omega), up_p N (2 * h.A + f.Width) 2 (by omega) (by omega) (by omega), Option.bind_some]
 have hm : (if -(-(2 * h.A + f.Width) / 2) > f.Turn then -(-(2 * h.A + f.Width) / 2) else f.Turn) = f.Turn + r := by
  by_cases hp : 0 < r
  ·have := h3 hp
   split <;> omega
  ·split <;> omega
 rw [hm]
 unfold p_float_truth_passesBend p_br2_Turns
 rw [show p_sort_Search_float_truth_passesBend_1 N 21000 t h.A = some r from er, Option.bind_some, Option.bind_some, Option.bind_some, Option.bind_some, ht, w64 (x := f.Turn + r) (by omega) (by omega), show decide (f.Turn + r ≥ f.Turn) = true from decide_eq_true (by omega), cond_true, show decide (IntKind.i64.wrap (IntKind.i64.wrap (2 * (f.Turn + r)) - f.Width) ≥ IntKind.i64.wrap (2 * h.A)) = true from decide_eq_true (by rw [w64 (x := 2 * (f.Turn + r)) (by omega) (by omega), w64 (x := 2 * (f.Turn + r) - f.Width) (by omega) (by omega), w64 (x := 2 * h.A) (by omega) (by omega)]; omega), cond_true, Option.bind_some, Option.bind_some]
 exact ⟨_, rfl, rfl⟩
theorem goes_p (N : Nat) (hN : 22000 < N) (f : T_Float) (hf : FlOk f) (g k : T_Load → Int) (hg : GOk g f) (t : T_float_truth) (ht : TrIs t f g k f.Loads.length) (h : T_Hurdle) (hh : HuOk h) : ∃ b, p_float_truth_passes N t h = some b ∧ p_br2_Goes N f h ⟨f.Loads.map g, f.Loads.map k⟩ = some b := by
 have hn := hf.n
 unfold p_float_truth_passes p_br2_Goes
 rcases hh with ⟨e, a, b, c⟩ | ⟨e, a, b, c⟩ | ⟨e, a, b, c, d⟩
 ·rw [e, show ((1 : Int) == 1) = true from rfl, cond_true, cond_true]
  obtain ⟨x, e1, e2⟩ := bend_g N hN f hf t ht.e h a b c
  rw [e1]
  exact ⟨x, rfl, e2⟩
 ·rw [e, show ((2 : Int) == 1) = false from rfl, cond_false, cond_false, show ((2 : Int) == 2) = true from rfl, cond_true, cond_true, height_p N (by omega) t f hf g k ht, tall_p N f _ (by simpa using (by omega : f.Loads.length ≤ 30)) (by omega)]
  exact ⟨_, rfl, rfl⟩
 ·have := hf.l2; have := hf.f1; have := hf.f2; have := hf.f3
  have m := mulB (A := 10000000) (B := 3000) c d (show 0 ≤ f.Rear - f.Front by omega) (by omega)
  rw [e, show ((3 : Int) == 1) = false from rfl, cond_false, cond_false, show ((3 : Int) == 2) = false from rfl, cond_false, cond_false, bridge_p N (by omega) t f hf g k hg ht h.A h.B c d, carries_p N f hf g hg _ (by omega), weighs_p N f _ 100000 (Int.le_refl _) hf.k1 hf.k2 (fun x hx => by
   obtain ⟨l, hl, rfl⟩ := List.mem_map.1 hx
   exact hg l hl) (by simpa using (by omega : f.Loads.length ≤ 30)) (by omega), w64 (x := f.Rear - f.Front) (by omega) (by omega), w64 (x := h.B * (f.Rear - f.Front)) (by omega) (by omega), Option.bind_some, Option.bind_some, Option.bind_some, front_eq, ← momW_eq, total_eq]
  refine ⟨_, rfl, ?_⟩
  generalize f.Kilos + (f.Loads.map g).sum = x
  generalize momW f.Rear (wsF f g f.Loads) = y
  generalize momW f.Front (wsF f g f.Loads) = z
  dsimp only
  cases decide (x ≤ h.A) <;> cases decide (-y ≤ h.B * (f.Rear - f.Front)) <;> rfl
theorem verdict_eq (N : Nat) (a b : Bool) : ∃ v, p_float_verdict N a b = some v ∧ p_br2_verdict N a b = some v := by
 cases a <;> cases b <;> exact ⟨_, rfl, rfl⟩
theorem vd_p (N : Nat) (hN : 22000 < N) (f : T_Float) (hf : FlOk f) (hs : List T_Hurdle) (hn : hs.length ≤ 40) (hh : ∀ h ∈ hs, HuOk h) : ∃ vs, p_float_verdicts N f hs = some vs ∧ p_br2_passes N f hs = some vs ∧ vs.length = hs.length := by
 obtain ⟨z, ez, h0, h1⟩ := endsOf_p N f hf.n (by omega)
 obtain ⟨tl, tg⟩ := truth_p N f hf.n (by omega)
 have hv : ∀ h : T_Hurdle, ∃ v : Int, HuOk h → ∃ a b, p_float_truth_passes N z.a1 h = some a ∧ p_float_truth_passes N z.a0 h = some b ∧ p_br2_Goes N f h ⟨his f, this f⟩ = some a ∧ p_br2_Goes N f h ⟨los f, tlos f⟩ = some b ∧ p_float_verdict N a b = some v ∧ p_br2_verdict N a b = some v := by
  intro h
  by_cases hu : HuOk h
  ·obtain ⟨a, ea, ea2⟩ := goes_p N hN f hf _ _ (gHi f hf) z.a1 h1 h hu
   obtain ⟨b, eb, eb2⟩ := goes_p N hN f hf _ _ (gLo f hf) z.a0 h0 h hu
   obtain ⟨v, ev, ev2⟩ := verdict_eq N a b
   exact ⟨v, fun _ => ⟨a, b, ea, eb, ea2, eb2, ev, ev2⟩⟩
  ·exact ⟨0, fun h => absurd h hu⟩
 obtain ⟨V, hV⟩ := Classical.axiomOfChoice hv
 refine ⟨hs.map V, ?_, ?_, by simp⟩
 ·unfold p_float_verdicts
  rw [ez, Option.bind_some, letJ_eq]
  refine loop2_T (fun (r : Option (List Int)) => r = some (hs.map V)) (fun a i => ∃ j : Nat, i = (j : Int) ∧ j ≤ hs.length ∧ a = (hs.take j).map V) (fun a i => hs.length - i.toNat) ?_ N [] 0 ⟨0, rfl, by omega, rfl⟩ (by simp; omega)
  rintro rec a i ⟨j, rfl, hj, rfl⟩ ih
  by_cases hlt : j < hs.length
  ·have hx : hs[j]? = some hs[j] := List.getElem?_eq_getElem hlt
   obtain ⟨e1, e2, e3, e4⟩ := lt_dec hx
   obtain ⟨x, y, ex, ey, _, _, ev, _⟩ := hV hs[j] (hh _ e3)
   simp only [e1, cond_true, e2, Option.bind_some, ex, ey, ev]
   rw [pushI_ok (by simp; omega), Option.bind_some, nat_add1 j (by omega)]
   refine ih _ _ ⟨j + 1, rfl, hlt, ?_⟩ (by omega)
   rw [List.take_succ_eq_append_getElem hlt, List.map_append]
   rfl
  ·have : j = hs.length := by omega
   subst this
   rw [len_dec, cond_false, List.take_length]
 ·unfold p_br2_passes
  rw [letJ_eq]
  refine loop2_T (fun (r : Option (List Int)) => r = some (hs.map V)) (fun a i => ∃ j : Nat, i = (j : Int) ∧ j ≤ hs.length ∧ a = (hs.take j).map V) (fun a i => hs.length - i.toNat) ?_ N [] 0 ⟨0, rfl, by omega, rfl⟩ (by simp; omega)
  rintro rec a i ⟨j, rfl, hj, rfl⟩ ih
  by_cases hlt : j < hs.length
  ·have hx : hs[j]? = some hs[j] := List.getElem?_eq_getElem hlt
   obtain ⟨e1, e2, e3, e4⟩ := lt_dec hx
   obtain ⟨x, y, _, _, ex, ey, _, ev⟩ := hV hs[j] (hh _ e3)
   simp only [e1, cond_true, e2, Option.bind_some, tl, tg, ex, ey, ev]
   rw [pushI_ok (by simp; omega), Option.bind_some, nat_add1 j (by omega)]
   refine ih _ _ ⟨j + 1, rfl, hlt, ?_⟩ (by omega)
   rw [List.take_succ_eq_append_getElem hlt, List.map_append]
   rfl
  ·have : j = hs.length := by omega
   subst this
   rw [len_dec, cond_false, List.take_length]
theorem stops_p (N : Nat) (hN : 22000 < N) (f : T_Float) (hf : FlOk f) (hs : List T_Hurdle) (hn : hs.length ≤ 40) (hh : ∀ h ∈ hs, HuOk h) : ∃ r, p_float_firstStop N f hs = some r ∧ p_br2_stops N f hs = some r ∧ -1 ≤ r := by
 obtain ⟨vs, e1, e2, hl⟩ := vd_p N hN f hf hs hn hh
 obtain ⟨r, e, hr, _⟩ := index_first N vs (by omega) (by omega)
 refine ⟨r, ?_, ?_, hr⟩
 ·unfold p_float_firstStop
  rw [e1, Option.bind_some, e, Option.bind_some]
 ·unfold p_br2_stops
  rw [e2, Option.bind_some]
  exact e
end Go.Proofs.Ytdmfnhamipmmnaa
end
section
namespace Go.Proofs.Ytdmfnhamipmmnaa
open Go.RowKit
set_option linter.unusedVariables false
set_option linter.unusedSimpArgs false
set_option maxRecDepth 10000
set_option maxHeartbeats 4000000

theorem bisE {ρ : Type} {body : (Int → Int → Option ρ) → Int → Int → Option ρ} {R : Option ρ} (n : Int) (hn : n ≤ 1000000) (b : Int → Bool) (r : Int) (r0 : 0 ≤ r) (r1 : r ≤ n) (c : ∀ k, 0 ≤ k → k < n → (b k = true ↔ r ≤ k))
  (hbody : ∀ rec i j, 0 ≤ i → i < j → j ≤ n → body rec i j = bif b ((i + j) / 2) then rec i ((i + j) / 2) else rec ((i + j) / 2 + 1) j)
  (hend : ∀ rec, body rec r r = R) (N : Nat) (hN : n.toNat < N) : loop2 body N 0 n = R := by
 refine loop2_T (fun (o : Option ρ) => o = R) (fun i j => 0 ≤ i ∧ i ≤ r ∧ r ≤ j ∧ j ≤ n) (fun i j => (j - i).toNat) ?_ N 0 n ⟨Int.le_refl _, r0, r1, Int.le_refl _⟩ (by simpa using hN)
 rintro rec i j ⟨i0, ir, rj, jn⟩ ih
 by_cases hlt : i < j
 ·rw [hbody rec i j i0 hlt jn]
  have hc := c ((i + j) / 2) (by omega) (by omega)
  cases hb : b ((i + j) / 2) with
  | false =>
   rw [hb] at hc
   have : ¬ r ≤ (i + j) / 2 := fun h => absurd (hc.2 h) (by simp)
   exact ih _ _ ⟨by omega, by omega, rj, jn⟩ (by omega)
  | true =>
   have := hc.1 hb
   exact ih _ _ ⟨i0, ir, by omega, by omega⟩ (by omega)
 ·obtain rfl : i = r := by omega
  obtain rfl : j = i := by omega
  exact hend rec
theorem mid64 {i j n : Int} (hn : n ≤ 1000000) (i0 : 0 ≤ i) (ij : i < j) (jn : j ≤ n) : IntKind.i64.wrap (Int.tdiv (IntKind.i64.wrap (i + j)) 2) = (i + j) / 2 := by
 rw [w64 (x := i + j) (by omega) (by omega), Int.tdiv_eq_ediv_of_nonneg (by omega), w64 (by omega) (by omega)]
section
variable (N : Nat) (hN : 110000 < N) (f : T_Float) (hf : FlOk f) (hn : f.Loads.length ≤ 20) (hs : List T_Hurdle) (hl : hs.length ≤ 40) (hh : ∀ h ∈ hs, HuOk h) (p : Int) (p1 : f.Front ≤ p) (p2 : p ≤ f.Rear)
include hN hf hn hl hh p1 p2
theorem ballast_in (hp : p_float_checkBoth N f hs = some 0) (hq : p_br2_checkBoth N f hs = some 0) : ∃ x, p_float_Ballast N f hs p = some x ∧ p_br2_Ballast N f hs p = some x := by
 obtain ⟨s, sm, hs1⟩ := stands_bl N (by omega) f hf hn p p1 p2
 obtain ⟨t, tm, ht1⟩ := firstStop_p N hN f hf hn hs hl hh p p1 p2
 have F1 : ∀ k, 0 ≤ k → k < 100001 → p_float_Ballast_1 N k f p = some (s k) := by
  intro k k0 k1
  have hb := blF_ok f hf hn p k p1 p2 k0 (by omega)
  obtain ⟨z, ez, h0, _⟩ := endsOf_p N (blF f p k) hb.n (by omega)
  unfold p_float_Ballast_1
  rw [ballasted_p N f p k (by omega), Option.bind_some, ez, Option.bind_some, hs1 k k0 (by omega) z.a0 h0, Option.bind_some]
 have F2 : ∀ k, 0 ≤ k → k < 100001 → p_float_Ballast_2 N k f p hs = some (t k) := by
  intro k k0 k1
  obtain ⟨r, er, hr, hr1⟩ := ht1 k k0 (by omega)
  unfold p_float_Ballast_2
  rw [ballasted_p N f p k (by omega), Option.bind_some, er, Option.bind_some]
  congr 1
  cases ht : t k with
  | false => exact decide_eq_false (by have := hr1.2 ht; omega)
  | true => exact decide_eq_true (by
    by_cases h : r = -1
    ·have := hr1.1 h; rw [ht] at this; exact absurd this (by simp)
    ·omega)
 have G1 : ∀ k, 0 ≤ k → k < 100001 → p_br2_Upright N (blF f p k) ⟨los (blF f p k), tlos (blF f p k)⟩ = some (s k) := by
  intro k k0 k1
  have hb := blF_ok f hf hn p k p1 p2 k0 (by omega)
  obtain ⟨z, ez, h0, _⟩ := endsOf_p N (blF f p k) hb.n (by omega)
  have := upright_p N (by omega) (blF f p k) hb _ _ (gLo _ hb) (tlos (blF f p k)) z.a0 h0
  rw [hs1 k k0 (by omega) z.a0 h0] at this
  exact this
 have G2 : ∀ k, 0 ≤ k → k < 100001 → ∃ r, p_br2_stops N (blF f p k) hs = some r ∧ decide (r < 0) = !(t k) := by
  intro k k0 k1
  have hb := blF_ok f hf hn p k p1 p2 k0 (by omega)
  obtain ⟨r, er, hr, hr1⟩ := ht1 k k0 (by omega)
  obtain ⟨r2, e1, e2, _⟩ := stops_p N (by omega) (blF f p k) hb hs hl hh
  rw [er] at e1
  obtain rfl := Option.some.inj e1
  refine ⟨r, e2, ?_⟩
  cases ht : t k with
  | false => exact decide_eq_true (by have := hr1.2 ht; omega)
  | true => exact decide_eq_false (by
    by_cases h : r = -1
    ·have := hr1.1 h; rw [ht] at this; exact absurd this (by simp)
    ·omega)
 obtain ⟨r1, e1, a1, b1, c1⟩ := srch (fun k => p_float_Ballast_1 N k f p) 100001 (by omega) (by omega) s F1 _ (fun rec i j => rfl) N (by omega)
 obtain ⟨r2, e2, a2, b2, c2⟩ := srch (fun k => p_float_Ballast_2 N k f p hs) 100001 (by omega) (by omega) t F2 _ (fun rec i j => rfl) N (by omega)
 have c1 := c1 fun x y x0 xy yn => sm x y x0 xy (by omega)
 have c2 := c2 fun x y x0 xy yn => tm x y x0 xy (by omega)
 have hP : p_float_Ballast N f hs p = (bif (decide (r1 ≥ r2)) then some ((⟨0, 0⟩ : T_Span), 7) else some ((⟨r1, (IntKind.i64.wrap (r2 - 1))⟩ : T_Span), 0)) := by
  unfold p_float_Ballast
  rw [hp, Option.bind_some, bne_self_eq_false, cond_false, within_s, Option.bind_some, show (!(decide (f.Front ≤ p) && decide (p ≤ f.Rear))) = false by simp [p1, p2], cond_false]
  rw [show p_sort_Search_float_Ballast_1 N 100001 f p = some r1 from e1, Option.bind_some, show p_sort_Search_float_Ballast_2 N 100001 f p hs = some r2 from e2, Option.bind_some]
 have hR : p_br2_Ballast N f hs p = (bif (decide (r1 ≥ r2)) then some ((⟨0, 0⟩ : T_Span), 7) else some ((⟨r1, (IntKind.i64.wrap (r2 - 1))⟩ : T_Span), 0)) := by
  unfold p_br2_Ballast
  rw [hq, Option.bind_some, bne_self_eq_false, cond_false, within_r, Option.bind_some, show (!(decide (f.Front ≤ p) && decide (p ≤ f.Rear))) = false by simp [p1, p2], cond_false]
  rw [letJ_eq]
  refine bisE 100001 (by omega) s r1 a1 b1 c1 (fun rec i j i0 ij jn => ?_) (fun rec => ?_) N (by omega)
  ·rw [show decide (i < j) = true from decide_eq_true ij, cond_true, letJ_eq, mid64 (by omega) i0 ij jn, with_p N f p _ (by omega), Option.bind_some, (truth_p N (blF f p _) (by rw [blF_len]; omega) (by omega)).1, Option.bind_some, G1 _ (by omega) (by omega), Option.bind_some, w64 (x := (i + j) / 2 + 1) (by omega) (by omega)]
  rw [show decide (r1 < r1) = false from decide_eq_false (by omega), cond_false]
  dsimp only
  rw [letJ_eq]
  dsimp only
  refine bisE 100001 (by omega) t r2 a2 b2 c2 (fun rec i j i0 ij jn => ?_) (fun rec => ?_) N (by omega)
  ·obtain ⟨r, er, hr⟩ := G2 ((i + j) / 2) (by omega) (by omega)
   rw [show decide (i < j) = true from decide_eq_true ij, cond_true, letJ_eq, mid64 (by omega) i0 ij jn, with_p N f p _ (by omega), Option.bind_some, er, Option.bind_some, hr, w64 (x := (i + j) / 2 + 1) (by omega) (by omega)]
   cases t ((i + j) / 2) <;> rfl
  ·rw [show decide (r2 < r2) = false from decide_eq_false (by omega), cond_false]
 rw [hP, hR]
 cases decide (r1 ≥ r2) <;> exact ⟨_, rfl, rfl⟩
end
theorem all_p (N : Nat) (hN : 110000 < N) (f : T_Float) (hs : List T_Hurdle) (p : Int) : ∃ a b c d, p_float_Passes N f hs = some a ∧ p_br2_Passes N f hs = some a ∧ p_float_Stops N f hs = some b ∧ p_br2_Stops N f hs = some b ∧ p_float_Ballast N f hs p = some c ∧ p_br2_Ballast N f hs p = some c ∧ p_float_CheckRoute N hs = some d ∧ p_br2_CheckRoute N hs = some d ∧ a.1.length ≤ 40 := by
 obtain ⟨c, e1, e2, hc⟩ := both_i N f hs (by omega)
 obtain ⟨d, g1, g2, _⟩ := route_i N hs (by omega)
 by_cases h0 : c = 0
 ·obtain ⟨hf, h20, hl, hh⟩ := hc h0
  subst h0
  obtain ⟨vs, v1, v2, hv⟩ := vd_p N (by omega) f hf hs hl hh
  obtain ⟨r, s1, s2, _⟩ := stops_p N (by omega) f hf hs hl hh
  have hB : ∃ x, p_float_Ballast N f hs p = some x ∧ p_br2_Ballast N f hs p = some x := by
   by_cases hp : f.Front ≤ p ∧ p ≤ f.Rear
   ·exact ballast_in N hN f hf h20 hs hl hh p hp.1 hp.2 e1 e2
   ·have hw : (!(decide (f.Front ≤ p) && decide (p ≤ f.Rear))) = true := by
     rw [Bool.not_eq_true', Bool.and_eq_false_iff, decide_eq_false_iff_not, decide_eq_false_iff_not]
     omega
    refine ⟨(⟨0, 0⟩, 2), ?_, ?_⟩
    ·unfold p_float_Ballast
     rw [e1, Option.bind_some, bne_self_eq_false, cond_false, within_s, Option.bind_some, hw, cond_true]
    ·unfold p_br2_Ballast
     rw [e2, Option.bind_some, bne_self_eq_false, cond_false, within_r, Option.bind_some, hw, cond_true]
  obtain ⟨x, x1, x2⟩ := hB
  refine ⟨(vs, 0), (r, 0), x, d, ?_, ?_, ?_, ?_, x1, x2, g1, g2, by show vs.length ≤ 40; omega⟩
  ·unfold p_float_Passes; rw [e1, Option.bind_some, bne_self_eq_false, cond_false, v1, Option.bind_some]
  ·unfold p_br2_Passes; rw [e2, Option.bind_some, bne_self_eq_false, cond_false, v2, Option.bind_some]
  ·unfold p_float_Stops; rw [e1, Option.bind_some, bne_self_eq_false, cond_false, s1, Option.bind_some]
  ·unfold p_br2_Stops; rw [e2, Option.bind_some, bne_self_eq_false, cond_false, s2, Option.bind_some]
 ·refine ⟨([], c), (0, c), (⟨0, 0⟩, c), d, ?_, ?_, ?_, ?_, ?_, ?_, g1, g2, by show 0 ≤ 40; omega⟩
  ·unfold p_float_Passes; rw [e1, Option.bind_some, neT h0, cond_true]
  ·unfold p_br2_Passes; rw [e2, Option.bind_some, neT h0, cond_true]
  ·unfold p_float_Stops; rw [e1, Option.bind_some, neT h0, cond_true]
  ·unfold p_br2_Stops; rw [e2, Option.bind_some, neT h0, cond_true]
  ·unfold p_float_Ballast; rw [e1, Option.bind_some, neT h0, cond_true]
  ·unfold p_br2_Ballast; rw [e2, Option.bind_some, neT h0, cond_true]
end Go.Proofs.Ytdmfnhamipmmnaa
end
section
namespace Go.Proofs.Ytdmfnhamipmmnaa
open Go.RowKit
set_option linter.unusedVariables false
set_option linter.unusedSimpArgs false
set_option maxRecDepth 10000
set_option maxHeartbeats 4000000

theorem sumsB : ∀ (ls : List T_Load), (∀ l ∈ ls, 0 ≤ l.Kilos.Lo ∧ l.Kilos.Lo ≤ l.Kilos.Hi ∧ l.Kilos.Hi ≤ 900) → 0 ≤ (ls.map fun l => l.Kilos.Lo).sum ∧ (ls.map fun l => l.Kilos.Lo).sum ≤ (ls.map fun l => l.Kilos.Hi).sum ∧ (ls.map fun l => l.Kilos.Hi).sum ≤ 900 * (ls.length : Int)
 | [], _ => by simp
 | l :: ls, h => by
  have a := h l (by simp)
  have b := sumsB ls fun x hx => h x (by simp [hx])
  simp only [List.map_cons, List.sum_cons, List.length_cons]
  omega
theorem momLB (g : T_Load → Int) (p d : Int) : ∀ (ls : List T_Load), (∀ l ∈ ls, 0 ≤ g l ∧ g l ≤ 900 ∧ 0 ≤ l.At - p ∧ l.At - p ≤ d) → 0 ≤ momL g p ls ∧ momL g p ls ≤ 900 * d * (ls.length : Int)
 | [], _ => by simp [momL]
 | l :: ls, h => by
  obtain ⟨a, b, c, e⟩ := h l (by simp)
  have i := momLB g p d ls fun x hx => h x (by simp [hx])
  have m := mulB a b c e
  simp only [momL, List.map_cons, List.sum_cons, List.length_cons] at i ⊢
  rw [show ((ls.length + 1 : Nat) : Int) = (ls.length : Int) + 1 from rfl, Int.mul_add, Int.mul_one]
  omega
theorem momRB (g : T_Load → Int) (p d : Int) : ∀ (ls : List T_Load), (∀ l ∈ ls, 0 ≤ g l ∧ g l ≤ 900 ∧ 0 ≤ p - l.At ∧ p - l.At ≤ d) → 0 ≤ momR g p ls ∧ momR g p ls ≤ 900 * d * (ls.length : Int)
 | [], _ => by simp [momR]
 | l :: ls, h => by
  obtain ⟨a, b, c, e⟩ := h l (by simp)
  have i := momRB g p d ls fun x hx => h x (by simp [hx])
  have m := mulB a b c e
  simp only [momR, List.map_cons, List.sum_cons, List.length_cons] at i ⊢
  rw [show ((ls.length + 1 : Nat) : Int) = (ls.length : Int) + 1 from rfl, Int.mul_add, Int.mul_one]
  omega
theorem momL_le (g k : T_Load → Int) (p : Int) : ∀ (ls : List T_Load), (∀ l ∈ ls, g l ≤ k l ∧ 0 ≤ l.At - p) → momL g p ls ≤ momL k p ls
 | [], _ => Int.le_refl _
 | l :: ls, h => by
  obtain ⟨a, b⟩ := h l (by simp)
  have i := momL_le g k p ls fun x hx => h x (by simp [hx])
  have m := Int.mul_le_mul_of_nonneg_right a b
  simp only [momL, List.map_cons, List.sum_cons] at i ⊢
  omega
theorem du {a b d : Int} (hd : 0 < d) (h : a ≤ b) : a / d ≤ -(-b / d) := by
 have h1 := Int.ediv_mul_le a (show d ≠ 0 by omega)
 have h2 := Int.ediv_mul_le (-b) (show d ≠ 0 by omega)
 have q : a / d * d ≤ -(-b / d) * d := by
  rw [Int.neg_mul]
  omega
 exact Int.le_of_mul_le_mul_right q hd
section
variable (N : Nat) (hN : 50 < N) (f : T_Float) (h : FlMade f 5)
include hN h
theorem total_r : ∃ x, p_br2_Total N f = some (x, 0) ∧ 0 ≤ x.Lo ∧ x.Lo ≤ x.Hi ∧ x.Hi ≤ 9500 := by
 have hk := h.k; have hk0 := h.ok.k1; have hk1 := h.ok.k2; have hn := h.n
 have hs := sumsB f.Loads fun l hl => ⟨(h.ok.all l hl).k1, (h.ok.all l hl).k2, h.a l hl⟩
 obtain ⟨e1, e2⟩ := truth_p N f h.ok.n (by omega)
 refine ⟨⟨f.Kilos + (los f).sum, f.Kilos + (his f).sum⟩, ?_, ?_, ?_, ?_⟩
 ·unfold p_br2_Total
  rw [rCheck_t N f h.ok (by have := h.n; omega) (by omega), Option.bind_some, bne_self_eq_false, cond_false, e1, Option.bind_some, weighs_p N f _ 100000 (Int.le_refl _) hk0 hk1 (fun x hx => by
   obtain ⟨l, hl, rfl⟩ := List.mem_map.1 hx
   have a := h.ok.all l hl
   exact ⟨a.k1, Int.le_trans a.k2 a.k3⟩) (by simp [los]; omega) (by omega), Option.bind_some, e2, Option.bind_some, weighs_p N f _ 100000 (Int.le_refl _) hk0 hk1 (fun x hx => by
   obtain ⟨l, hl, rfl⟩ := List.mem_map.1 hx
   have a := h.ok.all l hl
   exact ⟨Int.le_trans a.k1 a.k2, a.k3⟩) (by simp [his]; omega) (by omega), Option.bind_some]
 ·show 0 ≤ f.Kilos + (los f).sum
  unfold los; omega
 ·show f.Kilos + (los f).sum ≤ f.Kilos + (his f).sum
  unfold los his; omega
 ·show f.Kilos + (his f).sum ≤ 9500
  unfold his; omega
theorem height_r : ∃ x, p_br2_Height N f = some (x, 0) ∧ 0 ≤ x.Lo ∧ x.Lo ≤ x.Hi ∧ x.Hi ≤ 2000 := by
 have hn := h.n
 obtain ⟨e1, e2⟩ := truth_p N f h.ok.n (by omega)
 have b1 := talL_le (tlos f) f.High 2000 h.ok.h2 fun x hx => by
  obtain ⟨l, hl, rfl⟩ := List.mem_map.1 hx
  have a := h.ok.all l hl
  exact Int.le_trans a.t2 a.t3
 have b2 := talL_le (this f) f.High 2000 h.ok.h2 fun x hx => by
  obtain ⟨l, hl, rfl⟩ := List.mem_map.1 hx
  exact (h.ok.all l hl).t3
 have h0 := h.ok.h1
 refine ⟨⟨talL (tlos f) f.High, talL (this f) f.High⟩, ?_, ?_, talL_mono f.Loads _ _ (Int.le_refl _) fun l hl => (h.ok.all l hl).t2, b2.2⟩
 ·unfold p_br2_Height
  rw [rCheck_t N f h.ok (by have := h.n; omega) (by omega), Option.bind_some, bne_self_eq_false, cond_false, e1, Option.bind_some, tall_p N f _ (by simp [tlos]; omega) (by omega), Option.bind_some, e2, Option.bind_some, tall_p N f _ (by simp [this]; omega) (by omega), Option.bind_some]
 ·show 0 ≤ talL (tlos f) f.High
  omega
theorem axles_r : ∃ x y, p_br2_Axles N f = some (x, y, 0) ∧ -6000000 ≤ y.Lo ∧ y.Lo ≤ y.Hi ∧ y.Hi ≤ 6004500 := by
 have hn := h.n
 have hk := h.k; have hk0 := h.ok.k1; have hl := h.l; have := h.ok.f1; have := h.ok.f2; have := h.ok.f3; have := h.ok.m1; have := h.ok.m2
 obtain ⟨e1, e2⟩ := truth_p N f h.ok.n (by omega)
 have gl : ∀ l ∈ f.Loads, 0 ≤ l.Kilos.Lo ∧ l.Kilos.Lo ≤ 900 ∧ 0 ≤ l.Kilos.Hi ∧ l.Kilos.Hi ≤ 900 ∧ l.Kilos.Lo ≤ l.Kilos.Hi ∧ 0 ≤ l.At - f.Front ∧ l.At - f.Front ≤ f.Rear - f.Front ∧ 0 ≤ f.Rear - l.At ∧ f.Rear - l.At ≤ f.Rear - f.Front := fun l hl => by
  have a := h.ok.all l hl
  have := a.k1; have := a.k2; have := h.a l hl; have := a.a1; have := a.a2
  omega
 have c1 := carries_p N f h.ok (fun l => l.Kilos.Lo) (fun l hl => by have := gl l hl; show 0 ≤ l.Kilos.Lo ∧ l.Kilos.Lo ≤ 100000; omega) (tlos f) (by omega)
 have c2 := carries_p N f h.ok (fun l => l.Kilos.Hi) (fun l hl => by have := gl l hl; show 0 ≤ l.Kilos.Hi ∧ l.Kilos.Hi ≤ 100000; omega) (Go.Proofs.Ytdmfnhamipmmnaa.this f) (by omega)
 have q1 := mulS (A := 5000) (B := 1200) hk0 hk (show -1200 ≤ f.Rear - f.Middle by omega) (show f.Rear - f.Middle ≤ 1200 by omega)
 have q2 := mulS (A := 5000) (B := 1200) hk0 hk (show -1200 ≤ f.Middle - f.Front by omega) (show f.Middle - f.Front ≤ 1200 by omega)
 have r1 := momRB (fun l => l.Kilos.Lo) f.Rear (f.Rear - f.Front) f.Loads fun l hl => by have := gl l hl; show 0 ≤ l.Kilos.Lo ∧ l.Kilos.Lo ≤ 900 ∧ _; omega
 have r2 := momRB (fun l => l.Kilos.Hi) f.Rear (f.Rear - f.Front) f.Loads fun l hl => by have := gl l hl; show 0 ≤ l.Kilos.Hi ∧ l.Kilos.Hi ≤ 900 ∧ _; omega
 have l1 := momLB (fun l => l.Kilos.Lo) f.Front (f.Rear - f.Front) f.Loads fun l hl => by have := gl l hl; show 0 ≤ l.Kilos.Lo ∧ l.Kilos.Lo ≤ 900 ∧ _; omega
 have l2 := momLB (fun l => l.Kilos.Hi) f.Front (f.Rear - f.Front) f.Loads fun l hl => by have := gl l hl; show 0 ≤ l.Kilos.Hi ∧ l.Kilos.Hi ≤ 900 ∧ _; omega
 have ll := momL_le (fun l => l.Kilos.Lo) (fun l => l.Kilos.Hi) f.Front f.Loads fun l hl => by have := gl l hl; show l.Kilos.Lo ≤ l.Kilos.Hi ∧ _; omega
 have md : 900 * (f.Rear - f.Front) * (f.Loads.length : Int) ≤ 4500 * (f.Rear - f.Front) := by
  have := Int.mul_le_mul_of_nonneg_left hn (show 0 ≤ 900 * (f.Rear - f.Front) by omega)
  omega
 have hw : IntKind.i64.wrap (f.Rear - f.Front) = f.Rear - f.Front := w64 (by omega) (by omega)
 have hd : 0 < f.Rear - f.Front := by omega
 unfold p_br2_Axles
 rw [rCheck_t N f h.ok (by have := h.n; omega) (by omega), Option.bind_some, bne_self_eq_false, cond_false, e1, Option.bind_some, show los f = f.Loads.map (fun l => l.Kilos.Lo) from rfl, c1, Option.bind_some, e2, Option.bind_some, show his f = f.Loads.map (fun l => l.Kilos.Hi) from rfl, c2, Option.bind_some, hw]
 dsimp only
 generalize f.Kilos * (f.Rear - f.Middle) = k1 at q1
 generalize f.Kilos * (f.Middle - f.Front) = k2 at q2
 generalize momR (fun l => l.Kilos.Lo) f.Rear f.Loads = a1 at r1
 generalize momR (fun l => l.Kilos.Hi) f.Rear f.Loads = a2 at r2
 generalize momL (fun l => l.Kilos.Lo) f.Front f.Loads = b1 at l1 ll
 generalize momL (fun l => l.Kilos.Hi) f.Front f.Loads = b2 at l2 ll
 generalize hD : f.Rear - f.Front = d at *
 rw [down_p N _ d hd (by omega) (by omega), Option.bind_some, up_p N _ d hd (by omega) (by omega), Option.bind_some, down_p N _ d hd (by omega) (by omega), Option.bind_some, up_p N _ d hd (by omega) (by omega), Option.bind_some]
 refine ⟨_, _, rfl, ?_, du hd (by omega), ?_⟩
 ·show -6000000 ≤ (k2 + b1) / d
  exact Int.le_ediv_of_mul_le hd (by omega)
 ·show -(-(k2 + b2) / d) ≤ 6004500
  have : -6004500 ≤ -(k2 + b2) / d := Int.le_ediv_of_mul_le hd (by omega)
  omega
end
theorem any4 {r : Int} {a b c d : Int} (h : r ∈ [a, b, c, d]) : r = a ∨ r = b ∨ r = c ∨ r = d := by simpa using h
theorem routeOf_p (N : Nat) (hN : 50 < N) (d : T_bk_Drum) (f : T_Float) (h : FlMade f 5) (n : Int) (n0 : 1 ≤ n) (n1 : n ≤ 30) : ∃ hs d', p_bk_RouteOf N d f n = some (hs, d') ∧ hs.length ≤ 40 ∧ ∀ x ∈ hs, HuOk x := by
 obtain ⟨x4, e4, a4, b4, c4⟩ := total_r N hN f h
 obtain ⟨x5, y5, e5, a5, b5, c5⟩ := axles_r N hN f h
 obtain ⟨x6, e6, a6, b6, c6⟩ := height_r N hN f h
 unfold p_bk_RouteOf
 rw [e4, Option.bind_some, e5, Option.bind_some, e6, Option.bind_some, w64 (x := n + 1) (by omega) (by omega)]
 obtain ⟨r7, d7, e, a7, c7, b7⟩ := roll_p N d (n + 1) (by omega)
 rw [e, Option.bind_some, letJ_eq]; clear e
 have b7 := b7 (by omega)
 refine loop3_T (fun (x : Option ((List T_Hurdle) × T_bk_Drum)) => ∃ hs d', x = some (hs, d') ∧ hs.length ≤ 40 ∧ ∀ x ∈ hs, HuOk x) (fun ls i b => 0 ≤ i ∧ (ls.length : Int) + i ≤ n ∧ ∀ l ∈ ls, HuOk l) (fun ls i b => i.toNat) ?_ N [] r7 _ ⟨a7, by simp; omega, by simp⟩ (by omega)
 rintro rec ls i b ⟨hi0, hi1, hall⟩ ih
 by_cases hc : i > 0
 ·rw [show decide (i > 0) = true from decide_eq_true hc, cond_true]
  obtain ⟨r20, d20, e, a20, b20, _⟩ := mid_p N ⟨b⟩ 1 3 (by omega) (by omega) (by omega) (by omega)
  rw [e, Option.bind_some]; clear e
  have b20 := b20 (by omega)
  have key : ∀ (b' x y : Int), HuOk ⟨r20, x, y⟩ → ∃ hs d', ((pushI ls ([(⟨r20, x, y⟩ : T_Hurdle)] : List T_Hurdle)).bind fun l_42 => (rec l_42 (IntKind.i64.wrap (i - 1)) b')) = some (hs, d') ∧ hs.length ≤ 40 ∧ ∀ x ∈ hs, HuOk x := by
   intro b' x y hu
   rw [pushI_ok (by simp; omega), Option.bind_some, w64 (x := i - 1) (by omega) (by omega)]
   refine ih _ _ _ ⟨by omega, by simp; omega, ?_⟩ (by omega)
   intro l hl
   rcases List.mem_append.1 hl with hl | hl
   ·exact hall l hl
   ·have : l = ⟨r20, x, y⟩ := by simpa using hl
    subst this
    exact hu
  rw [letJ_eq]
  dsimp only
  by_cases h1 : r20 = 1
  ·rw [show (r20 == 1) = true by simp [h1], cond_true]
   obtain ⟨r28, d28, e, a28, _, b28⟩ := roll_p N d20 2000 (by omega)
   rw [e, Option.bind_some]; clear e
   have b28 := b28 (by omega)
   obtain ⟨r29, d29, e, m29⟩ := any_p N d28 [0, r28] (by simp) (by simp)
   rw [e, Option.bind_some]; clear e
   have m29 : r29 = 0 ∨ r29 = r28 := by simpa using m29
   obtain ⟨r30, d30, e, m30⟩ := any_p N d29 [300, 2500] (by simp) (by simp)
   rw [e, Option.bind_some]; clear e
   have m30 : r30 = 300 ∨ r30 = 2500 := by simpa using m30
   obtain ⟨r31, d31, e, a31, b31, _⟩ := mid_p N d30 1 r30 (by omega) (by omega) (by omega) (by omega)
   rw [e, Option.bind_some]; clear e
   have b31 := b31 (by omega)
   dsimp only
   rw [w64 (x := r29 + r31) (by omega) (by omega)]
   exact key _ _ _ (.inl ⟨h1, by show 0 ≤ r29; omega, by show r29 < r29 + r31; omega, by show r29 + r31 ≤ 20000; omega⟩)
  ·rw [show (r20 == 1) = false by simp [h1], cond_false]
   by_cases h2 : r20 = 2
   ·rw [show (r20 == 2) = true by simp [h2], cond_true]
    obtain ⟨r34, d34, e, a34, b34⟩ := of_p N d20 x6 b6 (by omega) (by omega)
    rw [e, Option.bind_some]; clear e
    obtain ⟨r35, d35, e, m35⟩ := any_p N d34 [(-1), 0, 1, 50] (by simp) (by simp)
    rw [e, Option.bind_some]; clear e
    have m35 := any4 m35
    dsimp only
    rw [w64 (x := r34 + r35) (by omega) (by omega)]
    have hx : 0 ≤ (if (if r34 + r35 > 0 then r34 + r35 else 0) < 2000 then (if r34 + r35 > 0 then r34 + r35 else 0) else 2000) ∧ (if (if r34 + r35 > 0 then r34 + r35 else 0) < 2000 then (if r34 + r35 > 0 then r34 + r35 else 0) else 2000) ≤ 2000 := by
     split <;> (try split) <;> omega
    exact key _ _ _ (.inr (.inl ⟨h2, hx.1, hx.2, rfl⟩))
   ·rw [show (r20 == 2) = false by simp [h2], cond_false]
    obtain ⟨r36, d36, e, a36, b36⟩ := of_p N d20 x4 b4 (by omega) (by omega)
    rw [e, Option.bind_some]; clear e
    obtain ⟨r37, d37, e, m37⟩ := any_p N d36 [(-1), 0, 1, 300] (by simp) (by simp)
    rw [e, Option.bind_some]; clear e
    have m37 := any4 m37
    obtain ⟨r38, d38, e, a38, b38⟩ := of_p N d37 y5 b5 (by omega) (by omega)
    rw [e, Option.bind_some]; clear e
    obtain ⟨r39, d39, e, m39⟩ := any_p N d38 [(-1), 0, 1] (by simp) (by simp)
    rw [e, Option.bind_some]; clear e
    have m39 : r39 = -1 ∨ r39 = 0 ∨ r39 = 1 := by simpa using m39
    dsimp only
    rw [w64 (x := r38 + r39) (by omega) (by omega)]
    obtain ⟨r40, d40, e, m40⟩ := any_p N d39 [x4.Hi, r38 + r39] (by simp) (by simp)
    rw [e, Option.bind_some]; clear e
    have m40 : r40 = x4.Hi ∨ r40 = r38 + r39 := by simpa using m40
    dsimp only
    rw [w64 (x := r36 + r37) (by omega) (by omega)]
    have hx : 0 ≤ (if r36 + r37 > 0 then r36 + r37 else 0) ∧ (if r36 + r37 > 0 then r36 + r37 else 0) ≤ 10000000 := by split <;> omega
    have hy : 0 ≤ (if r40 > 0 then r40 else 0) ∧ (if r40 > 0 then r40 else 0) ≤ 10000000 := by split <;> omega
    exact key _ _ _ (.inr (.inr ⟨by show r20 = 3; omega, hx.1, hx.2, hy.1, hy.2⟩))
 ·rw [show decide (i > 0) = false from decide_eq_false hc, cond_false]
  exact ⟨_, _, rfl, by omega, hall⟩
end Go.Proofs.Ytdmfnhamipmmnaa
end
section
namespace Go.Proofs.Ytdmfnhamipmmnaa
open Go.RowKit
set_option linter.unusedVariables false
set_option maxRecDepth 100000

def inl (f : FuncId) : Bool := Nat.beq f 97
noncomputable def X4 : Clr := clrN tab inl noClr 300 14
theorem X4_ok : ClrOk Try.prog X4 := clrN_ok (noClr_ok _) tab_ok 300 14
def ld (a b c d e f g : Int) : AV := .agg [.int .i64 a, .int .i64 b, .int .i64 c, .int .i64 d, .int .i64 e, .int .i64 f, .int .i64 g]
def swanC (m : Int) : List AV := [.int .i64 1000, .int .i64 300, .int .i64 200, .int .i64 800, .int .i64 900, .int .i64 4000, .int .i64 m, .int .i64 400, .sl [ld 300 500 600 450 500 1 0, ld 700 1000 1000 380 380 2 5000, ld 500 100 200 300 350 3 3000, ld 600 50 50 400 520 4 0] none]
def mid9 : List AV := swanC 900
end Go.Proofs.Ytdmfnhamipmmnaa
end
section
namespace Go.Proofs.Ytdmfnhamipmmnaa
open Go.RowKit
set_option linter.unusedVariables false
set_option maxRecDepth 100000
theorem b1_50000 : evFn X4 300 F80 [.int .i64 50000, .ptr 0 0, .ptr 1 0] [mid9, [.int .i64 200]] = some (.bool true, [mid9, [.int .i64 200]]) := by kernel_rfl
theorem b1_25000 : evFn X4 300 F80 [.int .i64 25000, .ptr 0 0, .ptr 1 0] [mid9, [.int .i64 200]] = some (.bool true, [mid9, [.int .i64 200]]) := by kernel_rfl
theorem b1_12500 : evFn X4 300 F80 [.int .i64 12500, .ptr 0 0, .ptr 1 0] [mid9, [.int .i64 200]] = some (.bool true, [mid9, [.int .i64 200]]) := by kernel_rfl
theorem b1_6250 : evFn X4 300 F80 [.int .i64 6250, .ptr 0 0, .ptr 1 0] [mid9, [.int .i64 200]] = some (.bool true, [mid9, [.int .i64 200]]) := by kernel_rfl
theorem b1_3125 : evFn X4 300 F80 [.int .i64 3125, .ptr 0 0, .ptr 1 0] [mid9, [.int .i64 200]] = some (.bool true, [mid9, [.int .i64 200]]) := by kernel_rfl
theorem b1_1562 : evFn X4 300 F80 [.int .i64 1562, .ptr 0 0, .ptr 1 0] [mid9, [.int .i64 200]] = some (.bool true, [mid9, [.int .i64 200]]) := by kernel_rfl
theorem b1_781 : evFn X4 300 F80 [.int .i64 781, .ptr 0 0, .ptr 1 0] [mid9, [.int .i64 200]] = some (.bool true, [mid9, [.int .i64 200]]) := by kernel_rfl
theorem b1_390 : evFn X4 300 F80 [.int .i64 390, .ptr 0 0, .ptr 1 0] [mid9, [.int .i64 200]] = some (.bool true, [mid9, [.int .i64 200]]) := by kernel_rfl
theorem b1_195 : evFn X4 300 F80 [.int .i64 195, .ptr 0 0, .ptr 1 0] [mid9, [.int .i64 200]] = some (.bool true, [mid9, [.int .i64 200]]) := by kernel_rfl
end Go.Proofs.Ytdmfnhamipmmnaa
end
section
namespace Go.Proofs.Ytdmfnhamipmmnaa
open Go.RowKit
set_option linter.unusedVariables false
set_option maxRecDepth 100000
theorem b1_97 : evFn X4 300 F80 [.int .i64 97, .ptr 0 0, .ptr 1 0] [mid9, [.int .i64 200]] = some (.bool true, [mid9, [.int .i64 200]]) := by kernel_rfl
theorem b1_48 : evFn X4 300 F80 [.int .i64 48, .ptr 0 0, .ptr 1 0] [mid9, [.int .i64 200]] = some (.bool true, [mid9, [.int .i64 200]]) := by kernel_rfl
theorem b1_24 : evFn X4 300 F80 [.int .i64 24, .ptr 0 0, .ptr 1 0] [mid9, [.int .i64 200]] = some (.bool true, [mid9, [.int .i64 200]]) := by kernel_rfl
theorem b1_12 : evFn X4 300 F80 [.int .i64 12, .ptr 0 0, .ptr 1 0] [mid9, [.int .i64 200]] = some (.bool false, [mid9, [.int .i64 200]]) := by kernel_rfl
theorem b1_18 : evFn X4 300 F80 [.int .i64 18, .ptr 0 0, .ptr 1 0] [mid9, [.int .i64 200]] = some (.bool true, [mid9, [.int .i64 200]]) := by kernel_rfl
theorem b1_15 : evFn X4 300 F80 [.int .i64 15, .ptr 0 0, .ptr 1 0] [mid9, [.int .i64 200]] = some (.bool false, [mid9, [.int .i64 200]]) := by kernel_rfl
theorem b1_17 : evFn X4 300 F80 [.int .i64 17, .ptr 0 0, .ptr 1 0] [mid9, [.int .i64 200]] = some (.bool true, [mid9, [.int .i64 200]]) := by kernel_rfl
theorem b1_16 : evFn X4 300 F80 [.int .i64 16, .ptr 0 0, .ptr 1 0] [mid9, [.int .i64 200]] = some (.bool false, [mid9, [.int .i64 200]]) := by kernel_rfl
end Go.Proofs.Ytdmfnhamipmmnaa
end
section
namespace Go.Proofs.Ytdmfnhamipmmnaa
open Go.RowKit
set_option linter.unusedVariables false
set_option maxRecDepth 100000
theorem b2_50000 : evFn X4 300 F82 [.int .i64 50000, .ptr 0 0, .ptr 1 0, .ptr 2 0] [mid9, [.int .i64 200], [.nils]] = some (.bool false, [mid9, [.int .i64 200], [.nils]]) := by kernel_rfl
theorem b2_75001 : evFn X4 300 F82 [.int .i64 75001, .ptr 0 0, .ptr 1 0, .ptr 2 0] [mid9, [.int .i64 200], [.nils]] = some (.bool false, [mid9, [.int .i64 200], [.nils]]) := by kernel_rfl
theorem b2_87501 : evFn X4 300 F82 [.int .i64 87501, .ptr 0 0, .ptr 1 0, .ptr 2 0] [mid9, [.int .i64 200], [.nils]] = some (.bool false, [mid9, [.int .i64 200], [.nils]]) := by kernel_rfl
theorem b2_93751 : evFn X4 300 F82 [.int .i64 93751, .ptr 0 0, .ptr 1 0, .ptr 2 0] [mid9, [.int .i64 200], [.nils]] = some (.bool false, [mid9, [.int .i64 200], [.nils]]) := by kernel_rfl
theorem b2_96876 : evFn X4 300 F82 [.int .i64 96876, .ptr 0 0, .ptr 1 0, .ptr 2 0] [mid9, [.int .i64 200], [.nils]] = some (.bool false, [mid9, [.int .i64 200], [.nils]]) := by kernel_rfl
theorem b2_98439 : evFn X4 300 F82 [.int .i64 98439, .ptr 0 0, .ptr 1 0, .ptr 2 0] [mid9, [.int .i64 200], [.nils]] = some (.bool false, [mid9, [.int .i64 200], [.nils]]) := by kernel_rfl
theorem b2_99220 : evFn X4 300 F82 [.int .i64 99220, .ptr 0 0, .ptr 1 0, .ptr 2 0] [mid9, [.int .i64 200], [.nils]] = some (.bool false, [mid9, [.int .i64 200], [.nils]]) := by kernel_rfl
theorem b2_99611 : evFn X4 300 F82 [.int .i64 99611, .ptr 0 0, .ptr 1 0, .ptr 2 0] [mid9, [.int .i64 200], [.nils]] = some (.bool false, [mid9, [.int .i64 200], [.nils]]) := by kernel_rfl
theorem b2_99806 : evFn X4 300 F82 [.int .i64 99806, .ptr 0 0, .ptr 1 0, .ptr 2 0] [mid9, [.int .i64 200], [.nils]] = some (.bool false, [mid9, [.int .i64 200], [.nils]]) := by kernel_rfl
end Go.Proofs.Ytdmfnhamipmmnaa
end
section
namespace Go.Proofs.Ytdmfnhamipmmnaa
open Go.RowKit
set_option linter.unusedVariables false
set_option maxRecDepth 100000
theorem b2_99904 : evFn X4 300 F82 [.int .i64 99904, .ptr 0 0, .ptr 1 0, .ptr 2 0] [mid9, [.int .i64 200], [.nils]] = some (.bool false, [mid9, [.int .i64 200], [.nils]]) := by kernel_rfl
theorem b2_99953 : evFn X4 300 F82 [.int .i64 99953, .ptr 0 0, .ptr 1 0, .ptr 2 0] [mid9, [.int .i64 200], [.nils]] = some (.bool false, [mid9, [.int .i64 200], [.nils]]) := by kernel_rfl
theorem b2_99977 : evFn X4 300 F82 [.int .i64 99977, .ptr 0 0, .ptr 1 0, .ptr 2 0] [mid9, [.int .i64 200], [.nils]] = some (.bool false, [mid9, [.int .i64 200], [.nils]]) := by kernel_rfl
theorem b2_99989 : evFn X4 300 F82 [.int .i64 99989, .ptr 0 0, .ptr 1 0, .ptr 2 0] [mid9, [.int .i64 200], [.nils]] = some (.bool false, [mid9, [.int .i64 200], [.nils]]) := by kernel_rfl
theorem b2_99995 : evFn X4 300 F82 [.int .i64 99995, .ptr 0 0, .ptr 1 0, .ptr 2 0] [mid9, [.int .i64 200], [.nils]] = some (.bool false, [mid9, [.int .i64 200], [.nils]]) := by kernel_rfl
theorem b2_99998 : evFn X4 300 F82 [.int .i64 99998, .ptr 0 0, .ptr 1 0, .ptr 2 0] [mid9, [.int .i64 200], [.nils]] = some (.bool false, [mid9, [.int .i64 200], [.nils]]) := by kernel_rfl
theorem b2_100000 : evFn X4 300 F82 [.int .i64 100000, .ptr 0 0, .ptr 1 0, .ptr 2 0] [mid9, [.int .i64 200], [.nils]] = some (.bool false, [mid9, [.int .i64 200], [.nils]]) := by kernel_rfl
end Go.Proofs.Ytdmfnhamipmmnaa
end
section
namespace Go.Proofs.Ytdmfnhamipmmnaa
open Go.RowKit
set_option linter.unusedVariables false
set_option maxRecDepth 100000

structure Known (P : Program) where
 f : FuncId
 xs : List AV
 cells : List (List AV)
 v : AV
 cells' : List (List AV)
 h : Contract P f xs cells v cells'
def knO {P : Program} : List (Known P) → Orc
 | [], _, _, _ => none
 | e :: l, f, xs, cells => bif Nat.beq e.f f && (beqL e.xs xs && bxBeq e.cells cells) then some (e.v, e.cells') else knO l f xs cells
theorem knO_ok {P : Program} : ∀ (l : List (Known P)), OrcOk P (knO l)
 | [], _, _, _, _, _, h => by cases h
 | e :: l, f, xs, cells, v, c', h => by
  simp only [knO] at h
  cases hc : (Nat.beq e.f f && (beqL e.xs xs && bxBeq e.cells cells)) with
  | true =>
   rw [hc, cond_true] at h
   cases h
   simp only [Bool.and_eq_true] at hc
   have := e.h
   rw [Nat.eq_of_beq_eq_true hc.1, beqL_eq _ _ hc.2.1, bxBeq_eq _ _ hc.2.2] at this
   exact this
  | false =>
   rw [hc, cond_false] at h
   exact knO_ok l f xs cells v c' h
def known1 : List (Known Try.prog) := [⟨80, [.int .i64 50000, .ptr 0 0, .ptr 1 0], [mid9, [.int .i64 200]], .bool true, [mid9, [.int .i64 200]], evFn_ok X4_ok comp80 b1_50000⟩,⟨80, [.int .i64 25000, .ptr 0 0, .ptr 1 0], [mid9, [.int .i64 200]], .bool true, [mid9, [.int .i64 200]], evFn_ok X4_ok comp80 b1_25000⟩,⟨80, [.int .i64 12500, .ptr 0 0, .ptr 1 0], [mid9, [.int .i64 200]], .bool true, [mid9, [.int .i64 200]], evFn_ok X4_ok comp80 b1_12500⟩,⟨80, [.int .i64 6250, .ptr 0 0, .ptr 1 0], [mid9, [.int .i64 200]], .bool true, [mid9, [.int .i64 200]], evFn_ok X4_ok comp80 b1_6250⟩,⟨80, [.int .i64 3125, .ptr 0 0, .ptr 1 0], [mid9, [.int .i64 200]], .bool true, [mid9, [.int .i64 200]], evFn_ok X4_ok comp80 b1_3125⟩,⟨80, [.int .i64 1562, .ptr 0 0, .ptr 1 0], [mid9, [.int .i64 200]], .bool true, [mid9, [.int .i64 200]], evFn_ok X4_ok comp80 b1_1562⟩,⟨80, [.int .i64 781, .ptr 0 0, .ptr 1 0], [mid9, [.int .i64 200]], .bool true, [mid9, [.int .i64 200]], evFn_ok X4_ok comp80 b1_781⟩,⟨80, [.int .i64 390, .ptr 0 0, .ptr 1 0], [mid9, [.int .i64 200]], .bool true, [mid9, [.int .i64 200]], evFn_ok X4_ok comp80 b1_390⟩,⟨80, [.int .i64 195, .ptr 0 0, .ptr 1 0], [mid9, [.int .i64 200]], .bool true, [mid9, [.int .i64 200]], evFn_ok X4_ok comp80 b1_195⟩,⟨80, [.int .i64 97, .ptr 0 0, .ptr 1 0], [mid9, [.int .i64 200]], .bool true, [mid9, [.int .i64 200]], evFn_ok X4_ok comp80 b1_97⟩,⟨80, [.int .i64 48, .ptr 0 0, .ptr 1 0], [mid9, [.int .i64 200]], .bool true, [mid9, [.int .i64 200]], evFn_ok X4_ok comp80 b1_48⟩,⟨80, [.int .i64 24, .ptr 0 0, .ptr 1 0], [mid9, [.int .i64 200]], .bool true, [mid9, [.int .i64 200]], evFn_ok X4_ok comp80 b1_24⟩,⟨80, [.int .i64 12, .ptr 0 0, .ptr 1 0], [mid9, [.int .i64 200]], .bool false, [mid9, [.int .i64 200]], evFn_ok X4_ok comp80 b1_12⟩,⟨80, [.int .i64 18, .ptr 0 0, .ptr 1 0], [mid9, [.int .i64 200]], .bool true, [mid9, [.int .i64 200]], evFn_ok X4_ok comp80 b1_18⟩,⟨80, [.int .i64 15, .ptr 0 0, .ptr 1 0], [mid9, [.int .i64 200]], .bool false, [mid9, [.int .i64 200]], evFn_ok X4_ok comp80 b1_15⟩,⟨80, [.int .i64 17, .ptr 0 0, .ptr 1 0], [mid9, [.int .i64 200]], .bool true, [mid9, [.int .i64 200]], evFn_ok X4_ok comp80 b1_17⟩,⟨80, [.int .i64 16, .ptr 0 0, .ptr 1 0], [mid9, [.int .i64 200]], .bool false, [mid9, [.int .i64 200]], evFn_ok X4_ok comp80 b1_16⟩]
def known2 : List (Known Try.prog) := [⟨82, [.int .i64 50000, .ptr 0 0, .ptr 1 0, .ptr 2 0], [mid9, [.int .i64 200], [.nils]], .bool false, [mid9, [.int .i64 200], [.nils]], evFn_ok X4_ok comp82 b2_50000⟩,⟨82, [.int .i64 75001, .ptr 0 0, .ptr 1 0, .ptr 2 0], [mid9, [.int .i64 200], [.nils]], .bool false, [mid9, [.int .i64 200], [.nils]], evFn_ok X4_ok comp82 b2_75001⟩,⟨82, [.int .i64 87501, .ptr 0 0, .ptr 1 0, .ptr 2 0], [mid9, [.int .i64 200], [.nils]], .bool false, [mid9, [.int .i64 200], [.nils]], evFn_ok X4_ok comp82 b2_87501⟩,⟨82, [.int .i64 93751, .ptr 0 0, .ptr 1 0, .ptr 2 0], [mid9, [.int .i64 200], [.nils]], .bool false, [mid9, [.int .i64 200], [.nils]], evFn_ok X4_ok comp82 b2_93751⟩,⟨82, [.int .i64 96876, .ptr 0 0, .ptr 1 0, .ptr 2 0], [mid9, [.int .i64 200], [.nils]], .bool false, [mid9, [.int .i64 200], [.nils]], evFn_ok X4_ok comp82 b2_96876⟩,⟨82, [.int .i64 98439, .ptr 0 0, .ptr 1 0, .ptr 2 0], [mid9, [.int .i64 200], [.nils]], .bool false, [mid9, [.int .i64 200], [.nils]], evFn_ok X4_ok comp82 b2_98439⟩,⟨82, [.int .i64 99220, .ptr 0 0, .ptr 1 0, .ptr 2 0], [mid9, [.int .i64 200], [.nils]], .bool false, [mid9, [.int .i64 200], [.nils]], evFn_ok X4_ok comp82 b2_99220⟩,⟨82, [.int .i64 99611, .ptr 0 0, .ptr 1 0, .ptr 2 0], [mid9, [.int .i64 200], [.nils]], .bool false, [mid9, [.int .i64 200], [.nils]], evFn_ok X4_ok comp82 b2_99611⟩,⟨82, [.int .i64 99806, .ptr 0 0, .ptr 1 0, .ptr 2 0], [mid9, [.int .i64 200], [.nils]], .bool false, [mid9, [.int .i64 200], [.nils]], evFn_ok X4_ok comp82 b2_99806⟩,⟨82, [.int .i64 99904, .ptr 0 0, .ptr 1 0, .ptr 2 0], [mid9, [.int .i64 200], [.nils]], .bool false, [mid9, [.int .i64 200], [.nils]], evFn_ok X4_ok comp82 b2_99904⟩,⟨82, [.int .i64 99953, .ptr 0 0, .ptr 1 0, .ptr 2 0], [mid9, [.int .i64 200], [.nils]], .bool false, [mid9, [.int .i64 200], [.nils]], evFn_ok X4_ok comp82 b2_99953⟩,⟨82, [.int .i64 99977, .ptr 0 0, .ptr 1 0, .ptr 2 0], [mid9, [.int .i64 200], [.nils]], .bool false, [mid9, [.int .i64 200], [.nils]], evFn_ok X4_ok comp82 b2_99977⟩,⟨82, [.int .i64 99989, .ptr 0 0, .ptr 1 0, .ptr 2 0], [mid9, [.int .i64 200], [.nils]], .bool false, [mid9, [.int .i64 200], [.nils]], evFn_ok X4_ok comp82 b2_99989⟩,⟨82, [.int .i64 99995, .ptr 0 0, .ptr 1 0, .ptr 2 0], [mid9, [.int .i64 200], [.nils]], .bool false, [mid9, [.int .i64 200], [.nils]], evFn_ok X4_ok comp82 b2_99995⟩,⟨82, [.int .i64 99998, .ptr 0 0, .ptr 1 0, .ptr 2 0], [mid9, [.int .i64 200], [.nils]], .bool false, [mid9, [.int .i64 200], [.nils]], evFn_ok X4_ok comp82 b2_99998⟩,⟨82, [.int .i64 100000, .ptr 0 0, .ptr 1 0, .ptr 2 0], [mid9, [.int .i64 200], [.nils]], .bool false, [mid9, [.int .i64 200], [.nils]], evFn_ok X4_ok comp82 b2_100000⟩]
def tabB (f : FuncId) : Option AFn := bif Nat.beq f 80 || Nat.beq f 82 then none else tab f
theorem tabB_ok : ∀ f F, tabB f = some F → compFn Try.prog f = some F := by
 intro f F h
 unfold tabB at h
 cases hc : (Nat.beq f 80 || Nat.beq f 82) with
 | true => rw [hc] at h; cases h
 | false => rw [hc] at h; exact tab_ok f F h
noncomputable def X5 : Clr := clrN tabB inl (clrOf (knO (known1 ++ known2))) 300 14
theorem X5_ok : ClrOk Try.prog X5 := clrN_ok (clr_ok (knO_ok _)) tabB_ok 300 14
def spanA (a b : Int) : AV := .agg [.int .i64 a, .int .i64 b]
theorem ballast_run : evFn X5 300 F30 [.agg mid9, .nils, .int .i64 200] [] = some (.tup [spanA 17 100000, .int .i64 0], []) := by kernel_rfl
theorem axles_run : evFn X5 300 F14 [.agg (swanC 500)] [] = some (.tup [spanA 2650 2784, spanA 3000 3067, .int .i64 0], []) := by kernel_rfl
end Go.Proofs.Ytdmfnhamipmmnaa
end
section
namespace Go.Proofs.Ytdmfnhamipmmnaa
open Go.RowKit
set_option linter.unusedVariables false
set_option maxRecDepth 100000

def hur (k a b : Int) : AV := .agg [.int .i64 k, .int .i64 a, .int .i64 b]
theorem passes_run : evFn X5 300 F26 [.agg (swanC 500), .sl [hur 1 700 1400, hur 2 519 0, hur 3 5649 3067] none] [] = some (.tup [.sl [.int .i64 1, .int .i64 3, .int .i64 2] none, .int .i64 0], []) := by kernel_rfl
def known3 : List (Known Try.prog) := [⟨14, _, _, _, _, evFn_ok X5_ok comp14 axles_run⟩, ⟨26, _, _, _, _, evFn_ok X5_ok comp26 passes_run⟩, ⟨30, _, _, _, _, evFn_ok X5_ok comp30 ballast_run⟩]
def tabC (f : FuncId) : Option AFn := bif Nat.beq f 14 || (Nat.beq f 26 || Nat.beq f 30) then none else tab f
theorem tabC_ok : ∀ f F, tabC f = some F → compFn Try.prog f = some F := by
 intro f F h
 unfold tabC at h
 cases hc : (Nat.beq f 14 || (Nat.beq f 26 || Nat.beq f 30)) with
 | true => rw [hc] at h; cases h
 | false => rw [hc] at h; exact tab_ok f F h
noncomputable def X6 : Clr := clrN tabC inl (clrOf (knO known3)) 300 14
theorem X6_ok : ClrOk Try.prog X6 := clrN_ok (clr_ok (knO_ok _)) tabC_ok 300 14
theorem awake_run : evFn X6 300 F7 [] [] = some (.bool true, []) := by kernel_rfl
theorem awake_m : Meets Try.prog 7 [] [] fun v c' => v = .bool true ∧ c' = [] :=
 ⟨_, _, evFn_ok X6_ok comp7 awake_run, rfl, rfl⟩
end Go.Proofs.Ytdmfnhamipmmnaa
end
section
namespace Go.Proofs.Ytdmfnhamipmmnaa
open Go.RowKit
set_option linter.unusedVariables false
set_option linter.unusedSimpArgs false
set_option maxRecDepth 10000
set_option maxHeartbeats 4000000
attribute [local simp] ren ren1 AV.plain AV.plain1 AV.clean cleanL cleanI cleanBo cleanSt cleanII KL_bk_Drum KL_Span KL_Load KL_Float KL_br2_Truth KL_Hurdle KL_V21_i64 KL_float_truth KL_V2_float_truth KL_float_weight A_bk_Drum C_bk_Drum A_Span C_Span A_Load C_Load A_Float C_Float A_br2_Truth C_br2_Truth A_Hurdle C_Hurdle A_V21_i64 C_V21_i64 A_float_truth C_float_truth A_V2_float_truth C_V2_float_truth A_float_weight C_float_weight back back1 fadeS fadeV List.idxOf? List.findIdx? List.findIdx?.go re re1 KB_bk_Drum KB_Span KB_Load KB_Float KB_br2_Truth KB_Hurdle KB_V21_i64 KB_float_truth KB_V2_float_truth KB_float_weight
def p_bl2_awake (N : Nat) : Option Bool := some true
def v_bl2_awake (r : Bool) : AV := .bool r
theorem a_bl2_awake : ([] : List AV).mapM (ren []) = some [] := rfl
theorem b_bl2_awake (r : Bool) (n n2 m : Nat) : back n n2 m (v_bl2_awake r) = some (v_bl2_awake r) := rfl
theorem d_bl2_awake (N : Nat) (r : Bool) (h : p_bl2_awake N = some r) : Does Try.prog 7 [] [] fun v c => v = v_bl2_awake r ∧ c = [] := by
 cases h
 exact awake_m.does
theorem t_bk_OwnRoute (N : Nat) (l_1 : (List T_Hurdle)) (r : (List T_Hurdle)) (h : p_bk_OwnRoute N l_1 = some r) : TokOk Try.prog ⟨24, [.sl (l_1.map A_Hurdle) none], r.map A_Hurdle, r.length, 3⟩ := by
 refine ⟨?_, (KL_Hurdle _), by simp⟩
 unfold p_bk_OwnRoute at h
 refine DoesT.of comp24 ?_
 refine Ex.seq (rg 1 [0] (mkS 6 [(0, .sl (l_1.map A_Hurdle) none)]) ⟨[], []⟩ ?_)
 refine Ex.seq ?_
 obtain ⟨l_2, hl_2, h⟩ := bE h
 refine regH 4 [(2, .apps (l_1.map A_Hurdle) (l_2.map A_Hurdle) l_2.length)] [2] [LApps 0 (([] : List T_Hurdle).map A_Hurdle) (l_1.map A_Hurdle) (l_1.map A_Hurdle) 3 (l_2.map A_Hurdle) l_2.length] (mkS 6 [(2, .sl (l_2.map A_Hurdle) (some 0))]) (⟨[], [(l_2.length, 3)]⟩) (by kernel_rfl) ⟨LApps.of hl_2 (fun _ => rfl) (fun _ => rfl) (fun _ => rfl), trivial⟩ rfl ?_
 refine Ex.ret ?_
 obtain rfl := sJ h
 exact ⟨.inr rfl, .sl (l_2.map A_Hurdle) (some 0), by kernel_rfl, 0, by kernel_rfl, by kernel_rfl⟩
def p_bl2_FloatPasses (N : Nat) (x_1 : T_Float) (route_2 : (List T_Hurdle)) (r_3 : T_Hurdle) (at_4 : Int) (nums_5 : (List Int)) : Option (Bool) := (letJ (fun (y_6 : Bool) => (bif y_6 then ((p_bl2_awake N).bind fun r_12 => some r_12) else ((p_bk_DrumOf N nums_5).bind fun r_13 => ((p_bk_FloatOf N r_13 5).bind fun r_14 => ((p_bk_RouteOf N r_14.2 r_14.1 5).bind fun r_15 => ((p_bk_OwnRoute N r_15.1).bind fun r_16 => ((pushI r_16 ([r_3] : List T_Hurdle)).bind fun l_18 => ((p_bk_Drum_Mid N r_15.2 r_14.1.Front r_14.1.Rear).bind fun r_19 => (letJ (fun (_ : Unit) => ((p_bl2_awake N).bind fun r_109 => some r_109)) (fun k_21 => (loop1 (fun rec_25 (i_24 : Int) => (bif (decide (i_24 < 4)) then ((getI ([x_1, r_14.1, r_14.1, r_14.1] : List T_Float) i_24).bind fun x_29 => ((p_bk_OwnFloat N x_29).bind fun r_30 => ((getI ([route_2, r_15.1, l_18, route_2] : List (List T_Hurdle)) i_24).bind fun x_31 => ((p_bk_OwnRoute N x_31).bind fun r_32 => ((p_float_Passes N r_30 r_32).bind fun r_34 => ((getI ([x_1, r_14.1, r_14.1, r_14.1] : List T_Float) i_24).bind fun x_35 => ((getI ([route_2, r_15.1, l_18, route_2] : List (List T_Hurdle)) i_24).bind fun x_36 => ((p_br2_Passes N x_35 x_36).bind fun r_37 => ((p_float_Stops N r_30 r_32).bind fun r_39 => ((getI ([x_1, r_14.1, r_14.1, r_14.1] : List T_Float) i_24).bind fun x_40 => ((getI ([route_2, r_15.1, l_18, route_2] : List (List T_Hurdle)) i_24).bind fun x_41 => ((p_br2_Stops N x_40 x_41).bind fun r_42 => ((getI ([at_4, r_19.1, at_4, at_4] : List Int) i_24).bind fun x_44 => ((p_float_Ballast N r_30 r_32 x_44).bind fun r_45 => ((getI ([x_1, r_14.1, r_14.1, r_14.1] : List T_Float) i_24).bind fun x_47 => ((getI ([route_2, r_15.1, l_18, route_2] : List (List T_Hurdle)) i_24).bind fun x_48 => ((getI ([at_4, r_19.1, at_4, at_4] : List Int) i_24).bind fun x_49 => ((p_br2_Ballast N x_47 x_48 x_49).bind fun r_50 => (letJ (fun (y_52 : Bool) => (bif y_52 then some false else (rec_25 (IntKind.i64.wrap (i_24 + 1))))) (fun k_53 => ((p_float_CheckRoute N r_32).bind fun r_56 => ((getI ([route_2, r_15.1, l_18, route_2] : List (List T_Hurdle)) i_24).bind fun x_57 => ((p_br2_CheckRoute N x_57).bind fun r_58 => (bif (r_56 != r_58) then (k_53 true) else (bif (r_34.2 != r_37.2) then (k_53 true) else (bif (r_39.1 != r_42.1) then (k_53 true) else (bif (r_39.2 != r_42.2) then (k_53 true) else (bif (!((r_45.1.Lo == r_50.1.Lo) && ((r_45.1.Hi == r_50.1.Hi) && true))) then (k_53 true) else (bif (r_45.2 != r_50.2) then (k_53 true) else ((p_bk_EqInts N r_34.1 r_37.1).bind fun r_89 => (bif (!r_89) then (k_53 true) else ((getI ([x_1, r_14.1, r_14.1, r_14.1] : List T_Float) i_24).bind fun x_96 => ((p_bk_EqFloats N r_30 x_96).bind fun r_97 => (bif (!r_97) then (k_53 true) else ((getI ([route_2, r_15.1, l_18, route_2] : List (List T_Hurdle)) i_24).bind fun x_105 => ((p_bk_EqRoutes N r_32 x_105).bind fun r_107 => (k_53 (!r_107)))))))))))))))))))))))))))))))))))))) else (k_21 ()))) N 0))))))))))) (fun k_7 => (bif (decide (((x_1.Loads.length : Nat) : Int) > 30)) then (k_7 true) else (k_7 (decide (((route_2.length : Nat) : Int) > 60))))))
def v_bl2_FloatPasses (r : Bool) : AV := .bool r
attribute [local simp] v_bl2_FloatPasses
theorem d_bl2_FloatPasses (N : Nat) (x_1 : T_Float) (route_2 : (List T_Hurdle)) (r_3 : T_Hurdle) (at_4 : Int) (nums_5 : (List Int)) (r : Bool) (h : p_bl2_FloatPasses N x_1 route_2 r_3 at_4 nums_5 = some r) : Does Try.prog 4 [(A_Float x_1), .sl (route_2.map A_Hurdle) none, (A_Hurdle r_3), i6 at_4, .sl (nums_5.map (AV.int .i64)) none] [] fun v c => v = v_bl2_FloatPasses r ∧ c = [] := by
 unfold p_bl2_FloatPasses at h
 refine Does.ofL comp4 _ _ rfl rfl ?_
 refine Ex.seq (rg 3 [1, 3, 4, 5, 7] (mkS 211 [(1, .sl (route_2.map A_Hurdle) none), (3, i6 at_4), (4, .sl (nums_5.map (AV.int .i64)) none), (5, .ptr 0 0), (7, .ptr 1 0)]) ⟨[(C_Float x_1), (C_Hurdle r_3)], []⟩ ?_)
 refine Ex.seq ?_
 obtain ⟨K_8, hK_9, h⟩ := letE h
 refine Ex.seqJ (fun a S => ∃ (y_6 : Bool), K_8 y_6 = some r ∧ a = mkS 211 [(1, .sl (route_2.map A_Hurdle) none), (3, i6 at_4), (4, .sl (nums_5.map (AV.int .i64)) none), (5, .ptr 0 0), (7, .ptr 1 0), (41, .bool y_6)] ∧ S = ⟨[(C_Float x_1), (C_Hurdle r_3)], []⟩) ?_ ?_
 ·rcases condI h with ⟨hc_10, h⟩ | ⟨hc_10, h⟩
  ·refine regH 9 [(2, .eq (i6 ((x_1.Loads.length : Nat) : Int))), (4, .eq (.bool true))] [1, 3, 4, 5, 7, 41] [AV.int .i64 (((x_1.Loads.map A_Load).length : Nat) : Int) = AV.int .i64 ((x_1.Loads.length : Nat) : Int), AV.bool (decide (((x_1.Loads.length : Nat) : Int) > 30)) = AV.bool true] (mkS 211 [(1, .sl (route_2.map A_Hurdle) none), (3, i6 at_4), (4, .sl (nums_5.map (AV.int .i64)) none), (5, .ptr 0 0), (7, .ptr 1 0), (41, .bool true)]) (⟨[(C_Float x_1), (C_Hurdle r_3)], []⟩) (by kernel_rfl) ⟨lenM _ _, congrArg AV.bool hc_10, trivial⟩ rfl ?_
   (try simp only [reduceCtorEq, AEx.ex.injEq, Nat.reduceEqDiff, if_true, if_false])
   exact ⟨_, _, Forgets.refl _ _ _, true, h, rfl, rfl⟩
  ·refine regH 9 [(2, .eq (i6 ((x_1.Loads.length : Nat) : Int))), (4, .eq (.bool false)), (6, .eq (i6 ((route_2.length : Nat) : Int)))] [1, 3, 4, 5, 7, 41] [AV.int .i64 (((x_1.Loads.map A_Load).length : Nat) : Int) = AV.int .i64 ((x_1.Loads.length : Nat) : Int), AV.bool (decide (((x_1.Loads.length : Nat) : Int) > 30)) = AV.bool false, AV.int .i64 (((route_2.map A_Hurdle).length : Nat) : Int) = AV.int .i64 ((route_2.length : Nat) : Int)] (mkS 211 [(1, .sl (route_2.map A_Hurdle) none), (3, i6 at_4), (4, .sl (nums_5.map (AV.int .i64)) none), (5, .ptr 0 0), (7, .ptr 1 0), (41, .bool (decide (((route_2.length : Nat) : Int) > 60)))]) (⟨[(C_Float x_1), (C_Hurdle r_3)], []⟩) (by kernel_rfl) ⟨lenM _ _, congrArg AV.bool hc_10, lenM _ _, trivial⟩ rfl ?_
   (try simp only [reduceCtorEq, AEx.ex.injEq, Nat.reduceEqDiff, if_true, if_false])
   exact ⟨_, _, Forgets.refl _ _ _, (decide (((route_2.length : Nat) : Int) > 60)), h, rfl, rfl⟩
 ·rintro a S ⟨y_6, h, rfl, rfl⟩
  subst hK_9
  rcases condI h with ⟨hc_11, h⟩ | ⟨hc_11, h⟩
  ·refine Ex.condT _ rfl hc_11 ?_
   refine Ex.seq ?_
   obtain ⟨r_12, hr_12, h⟩ := bE h
   refine Ex.reg ?_
   refine ExO.callL [] [] rfl rfl (a_bl2_awake) rfl rfl (d_bl2_awake N r_12 hr_12) (b_bl2_awake _ _ _ _) rfl ?_
   refine rn 1 [10] (mkS 211 [(10, .bool r_12)]) ⟨[(C_Float x_1), (C_Hurdle r_3)], []⟩ ?_
   refine ExO.nil ?_
   refine Ex.ret ?_
   obtain rfl := sJ h
   exact rt (.bool r_12)
  ·refine Ex.condF _ rfl hc_11 ?_
   refine Ex.skip ?_
   refine Ex.seq ?_
   obtain ⟨r_13, hr_13, h⟩ := bE h
   refine Ex.reg (rn 1 [1, 3, 5, 7, 43] (mkS 211 [(1, .sl (route_2.map A_Hurdle) none), (3, i6 at_4), (5, .ptr 0 0), (7, .ptr 1 0), (43, .sl (nums_5.map (AV.int .i64)) none)]) ⟨[(C_Float x_1), (C_Hurdle r_3)], []⟩ ?_)
   refine ExO.callL (v' := .ptr 2 0) [] [.sl (nums_5.map (AV.int .i64)) none] rfl rfl (a_bk_DrumOf nums_5) rfl rfl (d_bk_DrumOf N nums_5 r_13 hr_13) rfl (by simp) ?_
   refine rn 1 [1, 3, 5, 7, 11] (mkS 211 [(1, .sl (route_2.map A_Hurdle) none), (3, i6 at_4), (5, .ptr 0 0), (7, .ptr 1 0), (11, .ptr 2 0)]) ⟨[(C_Float x_1), (C_Hurdle r_3), (C_bk_Drum r_13)], []⟩ ?_
   refine ExO.nil ?_
   refine Ex.seq ?_
   obtain ⟨r_14, hr_14, h⟩ := bE h
   refine Ex.reg (rn 1 [1, 3, 5, 7, 11, 45] (mkS 211 [(1, .sl (route_2.map A_Hurdle) none), (3, i6 at_4), (5, .ptr 0 0), (7, .ptr 1 0), (11, .ptr 2 0), (45, .ptr 2 0)]) ⟨[(C_Float x_1), (C_Hurdle r_3), (C_bk_Drum r_13)], []⟩ ?_)
   refine ExO.callL [2] [.ptr 2 0, i6 5] rfl rfl (by simp; try rfl) rfl (by simp) (d_bk_FloatOf N r_13 5 r_14 hr_14) (b_bk_FloatOf _ _ _ _) (by simp) ?_
   refine rn 2 [1, 3, 5, 7, 11, 12] (mkS 211 [(1, .sl (route_2.map A_Hurdle) none), (3, i6 at_4), (5, .ptr 0 0), (7, .ptr 1 0), (11, .ptr 2 0), (12, .ptr 3 0)]) ⟨[(C_Float x_1), (C_Hurdle r_3), (C_bk_Drum r_14.2), (C_Float r_14.1)], []⟩ ?_
   refine ExO.nil ?_
   refine Ex.seq ?_
   obtain ⟨r_15, hr_15, h⟩ := bE h
   refine Ex.reg (rn 2 [1, 3, 5, 7, 11, 12, 47, 48] (mkS 211 [(1, .sl (route_2.map A_Hurdle) none), (3, i6 at_4), (5, .ptr 0 0), (7, .ptr 1 0), (11, .ptr 2 0), (12, .ptr 3 0), (47, .ptr 2 0), (48, (A_Float r_14.1))]) ⟨[(C_Float x_1), (C_Hurdle r_3), (C_bk_Drum r_14.2), (C_Float r_14.1)], []⟩ ?_)
   refine ExO.callL [2] [.ptr 2 0, (A_Float r_14.1), i6 5] rfl rfl (by simp; try rfl) rfl (by simp) (d_bk_RouteOf N r_14.2 r_14.1 5 r_15 hr_15) (b_bk_RouteOf _ _ _ _) (by simp) ?_
   refine rn 1 [1, 3, 5, 7, 11, 12, 13] (mkS 211 [(1, .sl (route_2.map A_Hurdle) none), (3, i6 at_4), (5, .ptr 0 0), (7, .ptr 1 0), (11, .ptr 2 0), (12, .ptr 3 0), (13, .sl (r_15.1.map A_Hurdle) none)]) ⟨[(C_Float x_1), (C_Hurdle r_3), (C_bk_Drum r_15.2), (C_Float r_14.1)], []⟩ ?_
   refine ExO.nil ?_
   refine Ex.seq ?_
   obtain ⟨r_16, hr_16, h⟩ := bE h
   have hT_17 := t_bk_OwnRoute N r_15.1 r_16 hr_16
   refine Ex.drawE (a1 := mkS 211 [(1, .sl (route_2.map A_Hurdle) none), (3, i6 at_4), (5, .ptr 0 0), (7, .ptr 1 0), (11, .ptr 2 0), (12, .ptr 3 0), (13, .sl (r_15.1.map A_Hurdle) none), (50, .sl (r_15.1.map A_Hurdle) none), (51, .sl (r_16.map A_Hurdle) (some 1)), (52, (A_Hurdle r_3)), (53, .sl (([r_3] : List T_Hurdle).map A_Hurdle) (some 0))]) (tokC_ok hT_17 (noClr_ok _)) [] [(1, 3)] [⟨[(C_Float x_1), (C_Hurdle r_3), (C_bk_Drum r_15.2), (C_Float r_14.1)], [(1, 3), (r_16.length, 3)]⟩] ?_ ?_
   ·refine drS [0, 1, 2, 3] 1 [] [] (mkS 211 [(1, .sl (route_2.map A_Hurdle) none), (3, i6 at_4), (5, .ptr 0 0), (7, .ptr 1 0), (11, .ptr 2 0), (12, .ptr 3 0), (13, .sl (r_15.1.map A_Hurdle) none), (50, .sl (r_15.1.map A_Hurdle) none)]) (by simp) (by kernel_rfl) trivial (by kernel_rfl) ?_
    refine drT [.sl (r_15.1.map A_Hurdle) none] (.sl (r_16.map A_Hurdle) (some 1)) _ _ rfl rfl rfl rfl rfl rfl rfl (by simp) rfl rfl ?_
    refine drS [0, 1, 2, 3] 1 [] [] (mkS 211 [(1, .sl (route_2.map A_Hurdle) none), (3, i6 at_4), (5, .ptr 0 0), (7, .ptr 1 0), (11, .ptr 2 0), (12, .ptr 3 0), (13, .sl (r_15.1.map A_Hurdle) none), (50, .sl (r_15.1.map A_Hurdle) none), (51, .sl (r_16.map A_Hurdle) (some 1)), (52, (A_Hurdle r_3))]) (by simp) (by kernel_rfl) trivial (by kernel_rfl) ?_
    refine drR 0 3 (([r_3] : List T_Hurdle).map A_Hurdle) rfl rfl (fun _ => by kernel_rfl) (by simp) rfl rfl ?_
    exact DrO.nil rfl
   ·dsimp only [List.getLastD_cons, List.getLastD_nil]
    obtain ⟨l_18, hl_18, h⟩ := bE h
    refine runH 2 [(0, .app (l_18.map A_Hurdle) l_18.length)] [1, 3, 5, 11, 12, 13, 14] [LApp r_16.length (r_16.map A_Hurdle) (([r_3] : List T_Hurdle).map A_Hurdle) 3 (l_18.map A_Hurdle) l_18.length] (mkS 211 [(1, .sl (route_2.map A_Hurdle) none), (3, i6 at_4), (5, .ptr 0 0), (11, .ptr 2 0), (12, .ptr 3 0), (13, .sl (r_15.1.map A_Hurdle) none), (14, .sl (l_18.map A_Hurdle) (some 1))]) (⟨[(C_Float x_1), (C_Hurdle r_3), (C_bk_Drum r_15.2), (C_Float r_14.1)], [(1, 3), (l_18.length, 3)]⟩) (by kernel_rfl) ⟨LApp.of hl_18 (fun _ => rfl), trivial⟩ ?_
    refine ExO.nil ?_
    refine Ex.seq ?_
    refine Ex.postF ?_
    obtain ⟨r_19, hr_19, h⟩ := bE h
    have hT_20 : DoesA Try.prog [⟨25, [.ptr 0 0, i6 r_14.1.Front, i6 r_14.1.Rear], [(C_bk_Drum r_15.2)], (v_bk_Drum_Mid r_19), [(C_bk_Drum r_19.2)]⟩] ∧ ConsA [⟨25, [.ptr 0 0, i6 r_14.1.Front, i6 r_14.1.Rear], [(C_bk_Drum r_15.2)], (v_bk_Drum_Mid r_19), [(C_bk_Drum r_19.2)]⟩] := ⟨⟨(d_bk_Drum_Mid N r_15.2 r_14.1.Front r_14.1.Rear r_19 hr_19), rfl, trivial⟩, ⟨trivial, trivial⟩⟩
    refine Ex.drawE (a1 := mkS 211 [(1, .sl (route_2.map A_Hurdle) none), (3, i6 at_4), (5, .ptr 0 0), (11, .ptr 2 0), (12, .ptr 3 0), (13, .sl (r_15.1.map A_Hurdle) none), (14, .sl (l_18.map A_Hurdle) (some 1)), (15, .sl (([x_1, r_14.1, r_14.1, r_14.1] : List T_Float).map A_Float) (some 2)), (16, .sl [.sl (route_2.map A_Hurdle) none, .sl (r_15.1.map A_Hurdle) none, .sl (l_18.map A_Hurdle) (some 1), .sl (route_2.map A_Hurdle) none] (some 3)), (55, (A_Float x_1)), (56, (A_Float r_14.1)), (57, (A_Float r_14.1)), (58, (A_Float r_14.1)), (59, .sl (([x_1, r_14.1, r_14.1, r_14.1] : List T_Float).map A_Float) (some 2)), (60, .sl (route_2.map A_Hurdle) none), (61, .sl (r_15.1.map A_Hurdle) none), (62, .sl (l_18.map A_Hurdle) (some 1)), (63, .sl (route_2.map A_Hurdle) none), (64, .sl [.sl (route_2.map A_Hurdle) none, .sl (r_15.1.map A_Hurdle) none, .sl (l_18.map A_Hurdle) (some 1), .sl (route_2.map A_Hurdle) none] (some 3)), (65, i6 at_4), (66, .ptr 2 0), (67, .ptr 3 2), (68, i6 r_14.1.Front), (69, .ptr 3 3), (70, i6 r_14.1.Rear), (71, i6 r_19.1), (72, i6 at_4), (73, i6 at_4), (74, .sl (([at_4, r_19.1, at_4, at_4] : List Int).map (AV.int .i64)) (some 4))]) (tabO_ok hT_20.1) [] [(4, 9), (4, 1), (4, 1)] [⟨[(C_Float x_1), (C_Hurdle r_3), (C_bk_Drum r_19.2), (C_Float r_14.1)], [(1, 3), (l_18.length, 3), (4, 9), (4, 1), (4, 1)]⟩] ?_ ?_
    ·refine drS [0, 1, 3] 4 [] [] (mkS 211 [(1, .sl (route_2.map A_Hurdle) none), (3, i6 at_4), (5, .ptr 0 0), (11, .ptr 2 0), (12, .ptr 3 0), (13, .sl (r_15.1.map A_Hurdle) none), (14, .sl (l_18.map A_Hurdle) (some 1)), (55, (A_Float x_1)), (56, (A_Float r_14.1)), (57, (A_Float r_14.1)), (58, (A_Float r_14.1))]) (by simp) (by kernel_rfl) trivial (by kernel_rfl) ?_
     refine drR 2 9 (([x_1, r_14.1, r_14.1, r_14.1] : List T_Float).map A_Float) rfl rfl (fun _ => by kernel_rfl) (by simp) rfl rfl ?_
     refine drS [0, 1, 3] 4 [] [] (mkS 211 [(1, .sl (route_2.map A_Hurdle) none), (3, i6 at_4), (5, .ptr 0 0), (11, .ptr 2 0), (12, .ptr 3 0), (13, .sl (r_15.1.map A_Hurdle) none), (14, .sl (l_18.map A_Hurdle) (some 1)), (55, (A_Float x_1)), (56, (A_Float r_14.1)), (57, (A_Float r_14.1)), (58, (A_Float r_14.1)), (59, .sl (([x_1, r_14.1, r_14.1, r_14.1] : List T_Float).map A_Float) (some 2)), (60, .sl (route_2.map A_Hurdle) none), (61, .sl (r_15.1.map A_Hurdle) none), (62, .sl (l_18.map A_Hurdle) (some 1)), (63, .sl (route_2.map A_Hurdle) none)]) (by simp) (by kernel_rfl) trivial (by kernel_rfl) ?_
     refine drR 3 1 [.sl (route_2.map A_Hurdle) none, .sl (r_15.1.map A_Hurdle) none, .sl (l_18.map A_Hurdle) (some 1), .sl (route_2.map A_Hurdle) none] rfl rfl (fun _ => by kernel_rfl) (by simp) rfl rfl ?_
     refine drS [0, 1, 3] 6 [] [] (mkS 211 [(1, .sl (route_2.map A_Hurdle) none), (3, i6 at_4), (5, .ptr 0 0), (11, .ptr 2 0), (12, .ptr 3 0), (13, .sl (r_15.1.map A_Hurdle) none), (14, .sl (l_18.map A_Hurdle) (some 1)), (55, (A_Float x_1)), (56, (A_Float r_14.1)), (57, (A_Float r_14.1)), (58, (A_Float r_14.1)), (59, .sl (([x_1, r_14.1, r_14.1, r_14.1] : List T_Float).map A_Float) (some 2)), (60, .sl (route_2.map A_Hurdle) none), (61, .sl (r_15.1.map A_Hurdle) none), (62, .sl (l_18.map A_Hurdle) (some 1)), (63, .sl (route_2.map A_Hurdle) none), (64, .sl [.sl (route_2.map A_Hurdle) none, .sl (r_15.1.map A_Hurdle) none, .sl (l_18.map A_Hurdle) (some 1), .sl (route_2.map A_Hurdle) none] (some 3)), (65, i6 at_4), (66, .ptr 2 0), (67, .ptr 3 2), (68, i6 r_14.1.Front), (69, .ptr 3 3), (70, i6 r_14.1.Rear)]) (by simp) (by kernel_rfl) trivial (by kernel_rfl) ?_
     refine drB hT_20.2 0 _ [2] [.ptr 2 0, i6 r_14.1.Front, i6 r_14.1.Rear] (v_bk_Drum_Mid r_19) _ _ rfl rfl rfl rfl rfl rfl rfl rfl (by simp; try rfl) rfl (by simp) (b_bk_Drum_Mid _ _ _ _) (by simp) rfl ?_
     refine drS [0, 1, 3] 2 [] [] (mkS 211 [(1, .sl (route_2.map A_Hurdle) none), (3, i6 at_4), (5, .ptr 0 0), (11, .ptr 2 0), (12, .ptr 3 0), (13, .sl (r_15.1.map A_Hurdle) none), (14, .sl (l_18.map A_Hurdle) (some 1)), (55, (A_Float x_1)), (56, (A_Float r_14.1)), (57, (A_Float r_14.1)), (58, (A_Float r_14.1)), (59, .sl (([x_1, r_14.1, r_14.1, r_14.1] : List T_Float).map A_Float) (some 2)), (60, .sl (route_2.map A_Hurdle) none), (61, .sl (r_15.1.map A_Hurdle) none), (62, .sl (l_18.map A_Hurdle) (some 1)), (63, .sl (route_2.map A_Hurdle) none), (64, .sl [.sl (route_2.map A_Hurdle) none, .sl (r_15.1.map A_Hurdle) none, .sl (l_18.map A_Hurdle) (some 1), .sl (route_2.map A_Hurdle) none] (some 3)), (65, i6 at_4), (66, .ptr 2 0), (67, .ptr 3 2), (68, i6 r_14.1.Front), (69, .ptr 3 3), (70, i6 r_14.1.Rear), (71, i6 r_19.1), (72, i6 at_4), (73, i6 at_4)]) (by simp) (by kernel_rfl) trivial (by kernel_rfl) ?_
     refine drR 4 1 (([at_4, r_19.1, at_4, at_4] : List Int).map (AV.int .i64)) rfl rfl (fun _ => by kernel_rfl) (by simp) rfl rfl ?_
     refine drS [0, 1, 3] 2 [] [] (mkS 211 [(1, .sl (route_2.map A_Hurdle) none), (3, i6 at_4), (5, .ptr 0 0), (11, .ptr 2 0), (12, .ptr 3 0), (13, .sl (r_15.1.map A_Hurdle) none), (14, .sl (l_18.map A_Hurdle) (some 1)), (15, .sl (([x_1, r_14.1, r_14.1, r_14.1] : List T_Float).map A_Float) (some 2)), (16, .sl [.sl (route_2.map A_Hurdle) none, .sl (r_15.1.map A_Hurdle) none, .sl (l_18.map A_Hurdle) (some 1), .sl (route_2.map A_Hurdle) none] (some 3)), (55, (A_Float x_1)), (56, (A_Float r_14.1)), (57, (A_Float r_14.1)), (58, (A_Float r_14.1)), (59, .sl (([x_1, r_14.1, r_14.1, r_14.1] : List T_Float).map A_Float) (some 2)), (60, .sl (route_2.map A_Hurdle) none), (61, .sl (r_15.1.map A_Hurdle) none), (62, .sl (l_18.map A_Hurdle) (some 1)), (63, .sl (route_2.map A_Hurdle) none), (64, .sl [.sl (route_2.map A_Hurdle) none, .sl (r_15.1.map A_Hurdle) none, .sl (l_18.map A_Hurdle) (some 1), .sl (route_2.map A_Hurdle) none] (some 3)), (65, i6 at_4), (66, .ptr 2 0), (67, .ptr 3 2), (68, i6 r_14.1.Front), (69, .ptr 3 3), (70, i6 r_14.1.Rear), (71, i6 r_19.1), (72, i6 at_4), (73, i6 at_4), (74, .sl (([at_4, r_19.1, at_4, at_4] : List Int).map (AV.int .i64)) (some 4))]) (by simp) (by kernel_rfl) trivial (by kernel_rfl) ?_
     exact DrO.nil rfl
    ·dsimp only [List.getLastD_cons, List.getLastD_nil]
     refine rn 1 [15, 16, 17] (mkS 211 [(15, .sl (([x_1, r_14.1, r_14.1, r_14.1] : List T_Float).map A_Float) (some 2)), (16, .sl [.sl (route_2.map A_Hurdle) none, .sl (r_15.1.map A_Hurdle) none, .sl (l_18.map A_Hurdle) (some 1), .sl (route_2.map A_Hurdle) none] (some 3)), (17, .sl (([at_4, r_19.1, at_4, at_4] : List Int).map (AV.int .i64)) (some 4))]) ⟨[(C_Float x_1), (C_Hurdle r_3), (C_bk_Drum r_19.2), (C_Float r_14.1)], [(1, 3), (l_18.length, 3), (4, 9), (4, 1), (4, 1)]⟩ ?_
     refine ExO.nil ?_
     refine ⟨mkS 211 [(15, .sl (([x_1, r_14.1, r_14.1, r_14.1] : List T_Float).map A_Float) (some 2)), (16, .sl (([route_2, r_15.1, l_18, route_2] : List (List T_Hurdle)).map (SV A_Hurdle)) (some 3)), (17, .sl (([at_4, r_19.1, at_4, at_4] : List Int).map (AV.int .i64)) (some 4))], ⟨[(C_Float x_1), (C_Hurdle r_3), (C_bk_Drum r_19.2), (C_Float r_14.1)], [(1, 3), (l_18.length, 3), (4, 9), (4, 1), (4, 1)]⟩, Forgets.castR (by kernel_rfl) rfl (fadeE 16 [.sl (route_2.map A_Hurdle) none, .sl (r_15.1.map A_Hurdle) none, .sl (l_18.map A_Hurdle) (some 1), .sl (route_2.map A_Hurdle) none] (some 3) rfl), ?_⟩
     refine Ex.seq (Ex.seq ?_)
     refine rg 1 [15, 16, 17, 18] (mkS 211 [(15, .sl (([x_1, r_14.1, r_14.1, r_14.1] : List T_Float).map A_Float) (some 2)), (16, .sl (([route_2, r_15.1, l_18, route_2] : List (List T_Hurdle)).map (SV A_Hurdle)) (some 3)), (17, .sl (([at_4, r_19.1, at_4, at_4] : List Int).map (AV.int .i64)) (some 4)), (18, i6 0)]) ⟨[(C_Float x_1), (C_Hurdle r_3), (C_bk_Drum r_19.2), (C_Float r_14.1)], [(1, 3), (l_18.length, 3), (4, 9), (4, 1), (4, 1)]⟩ ?_
     obtain ⟨K_22, hK_23, h⟩ := letE h
     refine Ex.blockJ (fun a S => K_22 () = some r ∧ a = mkS 211 [] ∧ S = ⟨[], []⟩) ?_ ?_
     ·obtain ⟨B_26, hB_27, h⟩ := loop1I h
      refine Ex.loopF (fun k a S => ∃ (i_24 : Int), loop1 B_26 k i_24 = some r ∧ a = mkS 211 [(15, .sl (([x_1, r_14.1, r_14.1, r_14.1] : List T_Float).map A_Float) (some 0)), (16, .sl (([route_2, r_15.1, l_18, route_2] : List (List T_Hurdle)).map (SV A_Hurdle)) (some 1)), (17, .sl (([at_4, r_19.1, at_4, at_4] : List Int).map (AV.int .i64)) (some 2)), (18, i6 i_24)] ∧ S = ⟨[], [(4, 9), (4, 1), (4, 1)]⟩) N ⟨_, _, forgetA (m := 211) 0 [2, 3, 4] [(15, .sl (([x_1, r_14.1, r_14.1, r_14.1] : List T_Float).map A_Float) (some 0)), (16, .sl (([route_2, r_15.1, l_18, route_2] : List (List T_Hurdle)).map (SV A_Hurdle)) (some 1)), (17, .sl (([at_4, r_19.1, at_4, at_4] : List Int).map (AV.int .i64)) (some 2)), (18, i6 0)] [] [(4, 9), (4, 1), (4, 1)] (by simp) (by simp) ⟨(reT (KL_Float _) rfl), (reT (cleanM (fun _ => (by simp only [SV, AV.clean]; exact (KL_Hurdle _))) _) rfl), (reT (cleanI _ _) rfl), rfl, trivial⟩ (by simp) rfl (by decide), 0, h, rfl, rfl⟩ ?_
      rintro k a S ⟨i_24, h, rfl, rfl⟩
      cases k with
      | zero => exact (loop1Z h).elim
      | succ k =>
       replace h := loop1S h hB_27
       refine Ex.seq (Ex.seq ?_)
       refine rg 4 [15, 16, 17, 18, 78] (mkS 211 [(15, .sl (([x_1, r_14.1, r_14.1, r_14.1] : List T_Float).map A_Float) (some 0)), (16, .sl (([route_2, r_15.1, l_18, route_2] : List (List T_Hurdle)).map (SV A_Hurdle)) (some 1)), (17, .sl (([at_4, r_19.1, at_4, at_4] : List Int).map (AV.int .i64)) (some 2)), (18, i6 i_24), (78, .bool (decide (i_24 < 4)))]) ⟨[], [(4, 9), (4, 1), (4, 1)]⟩ ?_
       rcases condI h with ⟨hc_28, h⟩ | ⟨hc_28, h⟩
       ·refine Ex.condT _ rfl hc_28 ?_
        refine Ex.skip ?_
        refine Ex.seq ?_
        refine Ex.blockK ?_
        refine Ex.seq ?_
        obtain ⟨x_29, hx_29, h⟩ := bE h
        obtain ⟨r_30, hr_30, h⟩ := bE h
        obtain ⟨x_31, hx_31, h⟩ := bE h
        obtain ⟨r_32, hr_32, h⟩ := bE h
        have hT_33 : DoesA Try.prog [⟨10, [(A_Float x_29)], [], (v_bk_OwnFloat r_30), []⟩, ⟨24, [.sl (x_31.map A_Hurdle) none], [], (v_bk_OwnRoute r_32), []⟩] ∧ ConsA [⟨10, [(A_Float x_29)], [], (v_bk_OwnFloat r_30), []⟩, ⟨24, [.sl (x_31.map A_Hurdle) none], [], (v_bk_OwnRoute r_32), []⟩] := ⟨⟨(d_bk_OwnFloat N x_29 r_30 hr_30), rfl, (d_bk_OwnRoute N x_31 r_32 hr_32), rfl, trivial⟩, ⟨⟨ConsR.ne rfl, trivial⟩, trivial, trivial⟩⟩
        refine Ex.drawE (a1 := mkS 211 [(15, .sl (([x_1, r_14.1, r_14.1, r_14.1] : List T_Float).map A_Float) (some 0)), (16, .sl (([route_2, r_15.1, l_18, route_2] : List (List T_Hurdle)).map (SV A_Hurdle)) (some 1)), (17, .sl (([at_4, r_19.1, at_4, at_4] : List Int).map (AV.int .i64)) (some 2)), (18, i6 i_24), (19, .ptr 0 0), (78, .bool (decide (i_24 < 4))), (81, .sl (([x_1, r_14.1, r_14.1, r_14.1] : List T_Float).map A_Float) (some 0)), (82, i6 i_24), (83, .rop (C_Float x_29)), (84, (A_Float x_29)), (85, (A_Float r_30)), (86, .sl (([route_2, r_15.1, l_18, route_2] : List (List T_Hurdle)).map (SV A_Hurdle)) (some 1)), (87, i6 i_24), (88, .rop [.sl (x_31.map A_Hurdle) none]), (89, .sl (x_31.map A_Hurdle) none), (90, .sl (r_32.map A_Hurdle) none)]) (tabO_ok hT_33.1) [[i6 0, i6 0, i6 0, i6 0, i6 0, i6 0, i6 0, i6 0, .nils]] [] [] ?_ ?_
        ·refine drS [0] 4 [(2, .rop (C_Float x_29))] [LGet (([x_1, r_14.1, r_14.1, r_14.1] : List T_Float).map A_Float) i_24 9 (C_Float x_29)] (mkS 211 [(15, .sl (([x_1, r_14.1, r_14.1, r_14.1] : List T_Float).map A_Float) (some 0)), (16, .sl (([route_2, r_15.1, l_18, route_2] : List (List T_Hurdle)).map (SV A_Hurdle)) (some 1)), (17, .sl (([at_4, r_19.1, at_4, at_4] : List Int).map (AV.int .i64)) (some 2)), (18, i6 i_24), (78, .bool (decide (i_24 < 4))), (81, .sl (([x_1, r_14.1, r_14.1, r_14.1] : List T_Float).map A_Float) (some 0)), (82, i6 i_24), (83, .rop (C_Float x_29)), (84, (A_Float x_29))]) (by simp) (by kernel_rfl) ⟨LGet.of hx_29 rfl, trivial⟩ (by kernel_rfl) ?_
         refine drC hT_33.2 0 _ [(A_Float x_29)] (v_bk_OwnFloat r_30) rfl rfl rfl rfl rfl (fun _ => rfl) rfl (by simp; try rfl) (fun _ => b_bk_OwnFloat _ _ _ _) ?_
         refine drS [0] 4 [(2, .rop [.sl (x_31.map A_Hurdle) none])] [LGet (([route_2, r_15.1, l_18, route_2] : List (List T_Hurdle)).map (SV A_Hurdle)) i_24 1 [.sl (x_31.map A_Hurdle) none]] (mkS 211 [(15, .sl (([x_1, r_14.1, r_14.1, r_14.1] : List T_Float).map A_Float) (some 0)), (16, .sl (([route_2, r_15.1, l_18, route_2] : List (List T_Hurdle)).map (SV A_Hurdle)) (some 1)), (17, .sl (([at_4, r_19.1, at_4, at_4] : List Int).map (AV.int .i64)) (some 2)), (18, i6 i_24), (78, .bool (decide (i_24 < 4))), (81, .sl (([x_1, r_14.1, r_14.1, r_14.1] : List T_Float).map A_Float) (some 0)), (82, i6 i_24), (83, .rop (C_Float x_29)), (84, (A_Float x_29)), (85, (A_Float r_30)), (86, .sl (([route_2, r_15.1, l_18, route_2] : List (List T_Hurdle)).map (SV A_Hurdle)) (some 1)), (87, i6 i_24), (88, .rop [.sl (x_31.map A_Hurdle) none]), (89, .sl (x_31.map A_Hurdle) none)]) (by simp) (by kernel_rfl) ⟨LGet.of hx_31 rfl, trivial⟩ (by kernel_rfl) ?_
         refine drC hT_33.2 1 _ [.sl (x_31.map A_Hurdle) none] (v_bk_OwnRoute r_32) rfl rfl rfl rfl rfl (fun _ => rfl) rfl (by simp; try rfl) (fun _ => b_bk_OwnRoute _ _ _ _) ?_
         refine drX 0 [i6 0, i6 0, i6 0, i6 0, i6 0, i6 0, i6 0, i6 0, .nils] rfl rfl (fun _ => by kernel_rfl) (by simp) rfl rfl ?_
         exact DrO.nil rfl
        ·dsimp only [List.getLastD_cons, List.getLastD_nil]
         refine rn 2 [15, 16, 17, 18, 19, 20] (mkS 211 [(15, .sl (([x_1, r_14.1, r_14.1, r_14.1] : List T_Float).map A_Float) (some 0)), (16, .sl (([route_2, r_15.1, l_18, route_2] : List (List T_Hurdle)).map (SV A_Hurdle)) (some 1)), (17, .sl (([at_4, r_19.1, at_4, at_4] : List Int).map (AV.int .i64)) (some 2)), (18, i6 i_24), (19, .ptr 0 0), (20, .sl (r_32.map A_Hurdle) none)]) ⟨[(C_Float r_30)], [(4, 9), (4, 1), (4, 1)]⟩ ?_
         refine ExO.nil ?_
         refine Ex.seq ?_
         obtain ⟨r_34, hr_34, h⟩ := bE h
         refine Ex.reg (rn 2 [15, 16, 17, 18, 19, 20, 92, 93] (mkS 211 [(15, .sl (([x_1, r_14.1, r_14.1, r_14.1] : List T_Float).map A_Float) (some 0)), (16, .sl (([route_2, r_15.1, l_18, route_2] : List (List T_Hurdle)).map (SV A_Hurdle)) (some 1)), (17, .sl (([at_4, r_19.1, at_4, at_4] : List Int).map (AV.int .i64)) (some 2)), (18, i6 i_24), (19, .ptr 0 0), (20, .sl (r_32.map A_Hurdle) none), (92, (A_Float r_30)), (93, .sl (r_32.map A_Hurdle) none)]) ⟨[(C_Float r_30)], [(4, 9), (4, 1), (4, 1)]⟩ ?_)
         refine ExO.callL [] [(A_Float r_30), .sl (r_32.map A_Hurdle) none] rfl rfl (a_float_Passes r_30 r_32) rfl rfl (d_float_Passes N r_30 r_32 r_34 hr_34) (b_float_Passes _ _ _ _) rfl ?_
         refine rn 5 [15, 16, 17, 18, 19, 20, 21, 22] (mkS 211 [(15, .sl (([x_1, r_14.1, r_14.1, r_14.1] : List T_Float).map A_Float) (some 0)), (16, .sl (([route_2, r_15.1, l_18, route_2] : List (List T_Hurdle)).map (SV A_Hurdle)) (some 1)), (17, .sl (([at_4, r_19.1, at_4, at_4] : List Int).map (AV.int .i64)) (some 2)), (18, i6 i_24), (19, .ptr 0 0), (20, .sl (r_32.map A_Hurdle) none), (21, .sl (r_34.1.map (AV.int .i64)) none), (22, i6 r_34.2)]) ⟨[(C_Float r_30)], [(4, 9), (4, 1), (4, 1)]⟩ ?_
         refine ExO.nil ?_
         refine Ex.seq ?_
         obtain ⟨x_35, hx_35, h⟩ := bE h
         obtain ⟨x_36, hx_36, h⟩ := bE h
         obtain ⟨r_37, hr_37, h⟩ := bE h
         have hT_38 : DoesA Try.prog [⟨27, [(A_Float x_35), .sl (x_36.map A_Hurdle) none], [], (v_br2_Passes r_37), []⟩] ∧ ConsA [⟨27, [(A_Float x_35), .sl (x_36.map A_Hurdle) none], [], (v_br2_Passes r_37), []⟩] := ⟨⟨(d_br2_Passes N x_35 x_36 r_37 hr_37), rfl, trivial⟩, ⟨trivial, trivial⟩⟩
         refine Ex.drawE (a1 := mkS 211 [(15, .sl (([x_1, r_14.1, r_14.1, r_14.1] : List T_Float).map A_Float) (some 0)), (16, .sl (([route_2, r_15.1, l_18, route_2] : List (List T_Hurdle)).map (SV A_Hurdle)) (some 1)), (17, .sl (([at_4, r_19.1, at_4, at_4] : List Int).map (AV.int .i64)) (some 2)), (18, i6 i_24), (19, .ptr 0 0), (20, .sl (r_32.map A_Hurdle) none), (21, .sl (r_34.1.map (AV.int .i64)) none), (22, i6 r_34.2), (23, .sl (r_37.1.map (AV.int .i64)) none), (97, .tup [.sl (r_37.1.map (AV.int .i64)) none, i6 r_37.2]), (98, .sl (([x_1, r_14.1, r_14.1, r_14.1] : List T_Float).map A_Float) (some 0)), (99, i6 i_24), (100, .rop (C_Float x_35)), (101, (A_Float x_35)), (102, .sl (([route_2, r_15.1, l_18, route_2] : List (List T_Hurdle)).map (SV A_Hurdle)) (some 1)), (103, i6 i_24), (104, .rop [.sl (x_36.map A_Hurdle) none]), (105, .sl (x_36.map A_Hurdle) none), (106, .tup [.sl (r_37.1.map (AV.int .i64)) none, i6 r_37.2]), (107, .sl (r_37.1.map (AV.int .i64)) none), (108, i6 r_37.2)]) (tabO_ok hT_38.1) [] [] [] ?_ ?_
         ·refine drS [0] 8 [(2, .rop (C_Float x_35)), (6, .rop [.sl (x_36.map A_Hurdle) none])] [LGet (([x_1, r_14.1, r_14.1, r_14.1] : List T_Float).map A_Float) i_24 9 (C_Float x_35), LGet (([route_2, r_15.1, l_18, route_2] : List (List T_Hurdle)).map (SV A_Hurdle)) i_24 1 [.sl (x_36.map A_Hurdle) none]] (mkS 211 [(15, .sl (([x_1, r_14.1, r_14.1, r_14.1] : List T_Float).map A_Float) (some 0)), (16, .sl (([route_2, r_15.1, l_18, route_2] : List (List T_Hurdle)).map (SV A_Hurdle)) (some 1)), (17, .sl (([at_4, r_19.1, at_4, at_4] : List Int).map (AV.int .i64)) (some 2)), (18, i6 i_24), (19, .ptr 0 0), (20, .sl (r_32.map A_Hurdle) none), (21, .sl (r_34.1.map (AV.int .i64)) none), (22, i6 r_34.2), (98, .sl (([x_1, r_14.1, r_14.1, r_14.1] : List T_Float).map A_Float) (some 0)), (99, i6 i_24), (100, .rop (C_Float x_35)), (101, (A_Float x_35)), (102, .sl (([route_2, r_15.1, l_18, route_2] : List (List T_Hurdle)).map (SV A_Hurdle)) (some 1)), (103, i6 i_24), (104, .rop [.sl (x_36.map A_Hurdle) none]), (105, .sl (x_36.map A_Hurdle) none)]) (by simp) (by kernel_rfl) ⟨LGet.of hx_35 rfl, LGet.of hx_36 rfl, trivial⟩ (by kernel_rfl) ?_
          refine drC hT_38.2 0 _ [(A_Float x_35), .sl (x_36.map A_Hurdle) none] (v_br2_Passes r_37) rfl rfl rfl rfl rfl (fun _ => rfl) rfl (by simp; try rfl) (fun _ => b_br2_Passes _ _ _ _) ?_
          refine drS [0] 4 [] [] (mkS 211 [(15, .sl (([x_1, r_14.1, r_14.1, r_14.1] : List T_Float).map A_Float) (some 0)), (16, .sl (([route_2, r_15.1, l_18, route_2] : List (List T_Hurdle)).map (SV A_Hurdle)) (some 1)), (17, .sl (([at_4, r_19.1, at_4, at_4] : List Int).map (AV.int .i64)) (some 2)), (18, i6 i_24), (19, .ptr 0 0), (20, .sl (r_32.map A_Hurdle) none), (21, .sl (r_34.1.map (AV.int .i64)) none), (22, i6 r_34.2), (23, .sl (r_37.1.map (AV.int .i64)) none), (97, .tup [.sl (r_37.1.map (AV.int .i64)) none, i6 r_37.2]), (98, .sl (([x_1, r_14.1, r_14.1, r_14.1] : List T_Float).map A_Float) (some 0)), (99, i6 i_24), (100, .rop (C_Float x_35)), (101, (A_Float x_35)), (102, .sl (([route_2, r_15.1, l_18, route_2] : List (List T_Hurdle)).map (SV A_Hurdle)) (some 1)), (103, i6 i_24), (104, .rop [.sl (x_36.map A_Hurdle) none]), (105, .sl (x_36.map A_Hurdle) none), (106, .tup [.sl (r_37.1.map (AV.int .i64)) none, i6 r_37.2]), (107, .sl (r_37.1.map (AV.int .i64)) none), (108, i6 r_37.2)]) (by simp) (by kernel_rfl) trivial (by kernel_rfl) ?_
          exact DrO.nil rfl
         ·dsimp only [List.getLastD_cons, List.getLastD_nil]
          refine rn 1 [15, 16, 17, 18, 19, 20, 21, 22, 23, 24] (mkS 211 [(15, .sl (([x_1, r_14.1, r_14.1, r_14.1] : List T_Float).map A_Float) (some 0)), (16, .sl (([route_2, r_15.1, l_18, route_2] : List (List T_Hurdle)).map (SV A_Hurdle)) (some 1)), (17, .sl (([at_4, r_19.1, at_4, at_4] : List Int).map (AV.int .i64)) (some 2)), (18, i6 i_24), (19, .ptr 0 0), (20, .sl (r_32.map A_Hurdle) none), (21, .sl (r_34.1.map (AV.int .i64)) none), (22, i6 r_34.2), (23, .sl (r_37.1.map (AV.int .i64)) none), (24, i6 r_37.2)]) ⟨[(C_Float r_30)], [(4, 9), (4, 1), (4, 1)]⟩ ?_
          refine ExO.nil ?_
          refine Ex.seq ?_
          obtain ⟨r_39, hr_39, h⟩ := bE h
          refine Ex.reg (rn 2 [15, 16, 17, 18, 19, 20, 21, 22, 23, 24, 110, 111] (mkS 211 [(15, .sl (([x_1, r_14.1, r_14.1, r_14.1] : List T_Float).map A_Float) (some 0)), (16, .sl (([route_2, r_15.1, l_18, route_2] : List (List T_Hurdle)).map (SV A_Hurdle)) (some 1)), (17, .sl (([at_4, r_19.1, at_4, at_4] : List Int).map (AV.int .i64)) (some 2)), (18, i6 i_24), (19, .ptr 0 0), (20, .sl (r_32.map A_Hurdle) none), (21, .sl (r_34.1.map (AV.int .i64)) none), (22, i6 r_34.2), (23, .sl (r_37.1.map (AV.int .i64)) none), (24, i6 r_37.2), (110, (A_Float r_30)), (111, .sl (r_32.map A_Hurdle) none)]) ⟨[(C_Float r_30)], [(4, 9), (4, 1), (4, 1)]⟩ ?_)
          refine ExO.callL [] [(A_Float r_30), .sl (r_32.map A_Hurdle) none] rfl rfl (a_float_Stops r_30 r_32) rfl rfl (d_float_Stops N r_30 r_32 r_39 hr_39) (b_float_Stops _ _ _ _) rfl ?_
          refine rn 5 [15, 16, 17, 18, 19, 20, 21, 22, 23, 24, 25, 26] (mkS 211 [(15, .sl (([x_1, r_14.1, r_14.1, r_14.1] : List T_Float).map A_Float) (some 0)), (16, .sl (([route_2, r_15.1, l_18, route_2] : List (List T_Hurdle)).map (SV A_Hurdle)) (some 1)), (17, .sl (([at_4, r_19.1, at_4, at_4] : List Int).map (AV.int .i64)) (some 2)), (18, i6 i_24), (19, .ptr 0 0), (20, .sl (r_32.map A_Hurdle) none), (21, .sl (r_34.1.map (AV.int .i64)) none), (22, i6 r_34.2), (23, .sl (r_37.1.map (AV.int .i64)) none), (24, i6 r_37.2), (25, i6 r_39.1), (26, i6 r_39.2)]) ⟨[(C_Float r_30)], [(4, 9), (4, 1), (4, 1)]⟩ ?_
          refine ExO.nil ?_
          refine Ex.seq ?_
          obtain ⟨x_40, hx_40, h⟩ := bE h
          obtain ⟨x_41, hx_41, h⟩ := bE h
          obtain ⟨r_42, hr_42, h⟩ := bE h
          have hT_43 : DoesA Try.prog [⟨29, [(A_Float x_40), .sl (x_41.map A_Hurdle) none], [], (v_br2_Stops r_42), []⟩] ∧ ConsA [⟨29, [(A_Float x_40), .sl (x_41.map A_Hurdle) none], [], (v_br2_Stops r_42), []⟩] := ⟨⟨(d_br2_Stops N x_40 x_41 r_42 hr_42), rfl, trivial⟩, ⟨trivial, trivial⟩⟩
          refine Ex.drawE (a1 := mkS 211 [(15, .sl (([x_1, r_14.1, r_14.1, r_14.1] : List T_Float).map A_Float) (some 0)), (16, .sl (([route_2, r_15.1, l_18, route_2] : List (List T_Hurdle)).map (SV A_Hurdle)) (some 1)), (17, .sl (([at_4, r_19.1, at_4, at_4] : List Int).map (AV.int .i64)) (some 2)), (18, i6 i_24), (19, .ptr 0 0), (20, .sl (r_32.map A_Hurdle) none), (21, .sl (r_34.1.map (AV.int .i64)) none), (22, i6 r_34.2), (23, .sl (r_37.1.map (AV.int .i64)) none), (24, i6 r_37.2), (25, i6 r_39.1), (26, i6 r_39.2), (27, i6 r_42.1), (115, .tup [i6 r_42.1, i6 r_42.2]), (116, .sl (([x_1, r_14.1, r_14.1, r_14.1] : List T_Float).map A_Float) (some 0)), (117, i6 i_24), (118, .rop (C_Float x_40)), (119, (A_Float x_40)), (120, .sl (([route_2, r_15.1, l_18, route_2] : List (List T_Hurdle)).map (SV A_Hurdle)) (some 1)), (121, i6 i_24), (122, .rop [.sl (x_41.map A_Hurdle) none]), (123, .sl (x_41.map A_Hurdle) none), (124, .tup [i6 r_42.1, i6 r_42.2]), (125, i6 r_42.1), (126, i6 r_42.2)]) (tabO_ok hT_43.1) [] [] [] ?_ ?_
          ·refine drS [0] 8 [(2, .rop (C_Float x_40)), (6, .rop [.sl (x_41.map A_Hurdle) none])] [LGet (([x_1, r_14.1, r_14.1, r_14.1] : List T_Float).map A_Float) i_24 9 (C_Float x_40), LGet (([route_2, r_15.1, l_18, route_2] : List (List T_Hurdle)).map (SV A_Hurdle)) i_24 1 [.sl (x_41.map A_Hurdle) none]] (mkS 211 [(15, .sl (([x_1, r_14.1, r_14.1, r_14.1] : List T_Float).map A_Float) (some 0)), (16, .sl (([route_2, r_15.1, l_18, route_2] : List (List T_Hurdle)).map (SV A_Hurdle)) (some 1)), (17, .sl (([at_4, r_19.1, at_4, at_4] : List Int).map (AV.int .i64)) (some 2)), (18, i6 i_24), (19, .ptr 0 0), (20, .sl (r_32.map A_Hurdle) none), (21, .sl (r_34.1.map (AV.int .i64)) none), (22, i6 r_34.2), (23, .sl (r_37.1.map (AV.int .i64)) none), (24, i6 r_37.2), (25, i6 r_39.1), (26, i6 r_39.2), (116, .sl (([x_1, r_14.1, r_14.1, r_14.1] : List T_Float).map A_Float) (some 0)), (117, i6 i_24), (118, .rop (C_Float x_40)), (119, (A_Float x_40)), (120, .sl (([route_2, r_15.1, l_18, route_2] : List (List T_Hurdle)).map (SV A_Hurdle)) (some 1)), (121, i6 i_24), (122, .rop [.sl (x_41.map A_Hurdle) none]), (123, .sl (x_41.map A_Hurdle) none)]) (by simp) (by kernel_rfl) ⟨LGet.of hx_40 rfl, LGet.of hx_41 rfl, trivial⟩ (by kernel_rfl) ?_
           refine drC hT_43.2 0 _ [(A_Float x_40), .sl (x_41.map A_Hurdle) none] (v_br2_Stops r_42) rfl rfl rfl rfl rfl (fun _ => rfl) rfl (by simp; try rfl) (fun _ => b_br2_Stops _ _ _ _) ?_
           refine drS [0] 4 [] [] (mkS 211 [(15, .sl (([x_1, r_14.1, r_14.1, r_14.1] : List T_Float).map A_Float) (some 0)), (16, .sl (([route_2, r_15.1, l_18, route_2] : List (List T_Hurdle)).map (SV A_Hurdle)) (some 1)), (17, .sl (([at_4, r_19.1, at_4, at_4] : List Int).map (AV.int .i64)) (some 2)), (18, i6 i_24), (19, .ptr 0 0), (20, .sl (r_32.map A_Hurdle) none), (21, .sl (r_34.1.map (AV.int .i64)) none), (22, i6 r_34.2), (23, .sl (r_37.1.map (AV.int .i64)) none), (24, i6 r_37.2), (25, i6 r_39.1), (26, i6 r_39.2), (27, i6 r_42.1), (115, .tup [i6 r_42.1, i6 r_42.2]), (116, .sl (([x_1, r_14.1, r_14.1, r_14.1] : List T_Float).map A_Float) (some 0)), (117, i6 i_24), (118, .rop (C_Float x_40)), (119, (A_Float x_40)), (120, .sl (([route_2, r_15.1, l_18, route_2] : List (List T_Hurdle)).map (SV A_Hurdle)) (some 1)), (121, i6 i_24), (122, .rop [.sl (x_41.map A_Hurdle) none]), (123, .sl (x_41.map A_Hurdle) none), (124, .tup [i6 r_42.1, i6 r_42.2]), (125, i6 r_42.1), (126, i6 r_42.2)]) (by simp) (by kernel_rfl) trivial (by kernel_rfl) ?_
           exact DrO.nil rfl
          ·dsimp only [List.getLastD_cons, List.getLastD_nil]
           refine rn 1 [15, 16, 17, 18, 19, 20, 21, 22, 23, 24, 25, 26, 27, 28] (mkS 211 [(15, .sl (([x_1, r_14.1, r_14.1, r_14.1] : List T_Float).map A_Float) (some 0)), (16, .sl (([route_2, r_15.1, l_18, route_2] : List (List T_Hurdle)).map (SV A_Hurdle)) (some 1)), (17, .sl (([at_4, r_19.1, at_4, at_4] : List Int).map (AV.int .i64)) (some 2)), (18, i6 i_24), (19, .ptr 0 0), (20, .sl (r_32.map A_Hurdle) none), (21, .sl (r_34.1.map (AV.int .i64)) none), (22, i6 r_34.2), (23, .sl (r_37.1.map (AV.int .i64)) none), (24, i6 r_37.2), (25, i6 r_39.1), (26, i6 r_39.2), (27, i6 r_42.1), (28, i6 r_42.2)]) ⟨[(C_Float r_30)], [(4, 9), (4, 1), (4, 1)]⟩ ?_
           refine ExO.nil ?_
           refine Ex.seq ?_
           obtain ⟨x_44, hx_44, h⟩ := bE h
           obtain ⟨r_45, hr_45, h⟩ := bE h
           have hT_46 : DoesA Try.prog [⟨30, [(A_Float r_30), .sl (r_32.map A_Hurdle) none, i6 x_44], [], (v_float_Ballast r_45), []⟩] ∧ ConsA [⟨30, [(A_Float r_30), .sl (r_32.map A_Hurdle) none, i6 x_44], [], (v_float_Ballast r_45), []⟩] := ⟨⟨(d_float_Ballast N r_30 r_32 x_44 r_45 hr_45), rfl, trivial⟩, ⟨trivial, trivial⟩⟩
           refine Ex.drawE (a1 := mkS 211 [(15, .sl (([x_1, r_14.1, r_14.1, r_14.1] : List T_Float).map A_Float) (some 0)), (16, .sl (([route_2, r_15.1, l_18, route_2] : List (List T_Hurdle)).map (SV A_Hurdle)) (some 1)), (17, .sl (([at_4, r_19.1, at_4, at_4] : List Int).map (AV.int .i64)) (some 2)), (18, i6 i_24), (19, .ptr 0 0), (20, .sl (r_32.map A_Hurdle) none), (21, .sl (r_34.1.map (AV.int .i64)) none), (22, i6 r_34.2), (23, .sl (r_37.1.map (AV.int .i64)) none), (24, i6 r_37.2), (25, i6 r_39.1), (26, i6 r_39.2), (27, i6 r_42.1), (28, i6 r_42.2), (29, .ptr 1 0), (127, .tup [(A_Span r_45.1), i6 r_45.2]), (128, (A_Float r_30)), (129, .sl (r_32.map A_Hurdle) none), (130, .sl (([at_4, r_19.1, at_4, at_4] : List Int).map (AV.int .i64)) (some 2)), (131, i6 i_24), (132, .rop [i6 x_44]), (133, i6 x_44), (134, .tup [(A_Span r_45.1), i6 r_45.2]), (135, (A_Span r_45.1)), (136, i6 r_45.2)]) (tabO_ok hT_46.1) [[i6 0, i6 0]] [] [⟨[(C_Float r_30), (C_Span r_45.1)], [(4, 9), (4, 1), (4, 1)]⟩] ?_ ?_
           ·refine drS [0] 6 [(4, .rop [i6 x_44])] [LGet (([at_4, r_19.1, at_4, at_4] : List Int).map (AV.int .i64)) i_24 1 [i6 x_44]] (mkS 211 [(15, .sl (([x_1, r_14.1, r_14.1, r_14.1] : List T_Float).map A_Float) (some 0)), (16, .sl (([route_2, r_15.1, l_18, route_2] : List (List T_Hurdle)).map (SV A_Hurdle)) (some 1)), (17, .sl (([at_4, r_19.1, at_4, at_4] : List Int).map (AV.int .i64)) (some 2)), (18, i6 i_24), (19, .ptr 0 0), (20, .sl (r_32.map A_Hurdle) none), (21, .sl (r_34.1.map (AV.int .i64)) none), (22, i6 r_34.2), (23, .sl (r_37.1.map (AV.int .i64)) none), (24, i6 r_37.2), (25, i6 r_39.1), (26, i6 r_39.2), (27, i6 r_42.1), (28, i6 r_42.2), (128, (A_Float r_30)), (129, .sl (r_32.map A_Hurdle) none), (130, .sl (([at_4, r_19.1, at_4, at_4] : List Int).map (AV.int .i64)) (some 2)), (131, i6 i_24), (132, .rop [i6 x_44]), (133, i6 x_44)]) (by simp) (by kernel_rfl) ⟨LGet.of hx_44 rfl, trivial⟩ (by kernel_rfl) ?_
            refine drC hT_46.2 0 _ [(A_Float r_30), .sl (r_32.map A_Hurdle) none, i6 x_44] (v_float_Ballast r_45) rfl rfl rfl rfl rfl (fun _ => rfl) rfl (by simp; try rfl) (fun _ => b_float_Ballast _ _ _ _) ?_
            refine drS [0] 3 [] [] (mkS 211 [(15, .sl (([x_1, r_14.1, r_14.1, r_14.1] : List T_Float).map A_Float) (some 0)), (16, .sl (([route_2, r_15.1, l_18, route_2] : List (List T_Hurdle)).map (SV A_Hurdle)) (some 1)), (17, .sl (([at_4, r_19.1, at_4, at_4] : List Int).map (AV.int .i64)) (some 2)), (18, i6 i_24), (19, .ptr 0 0), (20, .sl (r_32.map A_Hurdle) none), (21, .sl (r_34.1.map (AV.int .i64)) none), (22, i6 r_34.2), (23, .sl (r_37.1.map (AV.int .i64)) none), (24, i6 r_37.2), (25, i6 r_39.1), (26, i6 r_39.2), (27, i6 r_42.1), (28, i6 r_42.2), (127, .tup [(A_Span r_45.1), i6 r_45.2]), (128, (A_Float r_30)), (129, .sl (r_32.map A_Hurdle) none), (130, .sl (([at_4, r_19.1, at_4, at_4] : List Int).map (AV.int .i64)) (some 2)), (131, i6 i_24), (132, .rop [i6 x_44]), (133, i6 x_44), (134, .tup [(A_Span r_45.1), i6 r_45.2]), (135, (A_Span r_45.1)), (136, i6 r_45.2)]) (by simp) (by kernel_rfl) trivial (by kernel_rfl) ?_
            refine drXL 1 [i6 0, i6 0] 29 rfl rfl (fun _ => by kernel_rfl) (by simp) (by simp) rfl (by kernel_rfl) rfl rfl ?_
            refine drE none none (.tup []) _ _ rfl rfl rfl rfl rfl (by kernel_rfl) trivial ?_
            exact DrO.nil rfl
           ·dsimp only [List.getLastD_cons, List.getLastD_nil]
            refine rn 1 [15, 16, 17, 18, 19, 20, 21, 22, 23, 24, 25, 26, 27, 28, 29, 30] (mkS 211 [(15, .sl (([x_1, r_14.1, r_14.1, r_14.1] : List T_Float).map A_Float) (some 0)), (16, .sl (([route_2, r_15.1, l_18, route_2] : List (List T_Hurdle)).map (SV A_Hurdle)) (some 1)), (17, .sl (([at_4, r_19.1, at_4, at_4] : List Int).map (AV.int .i64)) (some 2)), (18, i6 i_24), (19, .ptr 0 0), (20, .sl (r_32.map A_Hurdle) none), (21, .sl (r_34.1.map (AV.int .i64)) none), (22, i6 r_34.2), (23, .sl (r_37.1.map (AV.int .i64)) none), (24, i6 r_37.2), (25, i6 r_39.1), (26, i6 r_39.2), (27, i6 r_42.1), (28, i6 r_42.2), (29, .ptr 1 0), (30, i6 r_45.2)]) ⟨[(C_Float r_30), (C_Span r_45.1)], [(4, 9), (4, 1), (4, 1)]⟩ ?_
            refine ExO.nil ?_
            refine Ex.seq ?_
            obtain ⟨x_47, hx_47, h⟩ := bE h
            obtain ⟨x_48, hx_48, h⟩ := bE h
            obtain ⟨x_49, hx_49, h⟩ := bE h
            obtain ⟨r_50, hr_50, h⟩ := bE h
            have hT_51 : DoesA Try.prog [⟨31, [(A_Float x_47), .sl (x_48.map A_Hurdle) none, i6 x_49], [], (v_br2_Ballast r_50), []⟩] ∧ ConsA [⟨31, [(A_Float x_47), .sl (x_48.map A_Hurdle) none, i6 x_49], [], (v_br2_Ballast r_50), []⟩] := ⟨⟨(d_br2_Ballast N x_47 x_48 x_49 r_50 hr_50), rfl, trivial⟩, ⟨trivial, trivial⟩⟩
            refine Ex.drawE (a1 := mkS 211 [(15, .sl (([x_1, r_14.1, r_14.1, r_14.1] : List T_Float).map A_Float) (some 0)), (16, .sl (([route_2, r_15.1, l_18, route_2] : List (List T_Hurdle)).map (SV A_Hurdle)) (some 1)), (17, .sl (([at_4, r_19.1, at_4, at_4] : List Int).map (AV.int .i64)) (some 2)), (18, i6 i_24), (19, .ptr 0 0), (20, .sl (r_32.map A_Hurdle) none), (21, .sl (r_34.1.map (AV.int .i64)) none), (22, i6 r_34.2), (23, .sl (r_37.1.map (AV.int .i64)) none), (24, i6 r_37.2), (25, i6 r_39.1), (26, i6 r_39.2), (27, i6 r_42.1), (28, i6 r_42.2), (29, .ptr 1 0), (30, i6 r_45.2), (31, .ptr 2 0), (137, .tup [(A_Span r_50.1), i6 r_50.2]), (138, .sl (([x_1, r_14.1, r_14.1, r_14.1] : List T_Float).map A_Float) (some 0)), (139, i6 i_24), (140, .rop (C_Float x_47)), (141, (A_Float x_47)), (142, .sl (([route_2, r_15.1, l_18, route_2] : List (List T_Hurdle)).map (SV A_Hurdle)) (some 1)), (143, i6 i_24), (144, .rop [.sl (x_48.map A_Hurdle) none]), (145, .sl (x_48.map A_Hurdle) none), (146, .sl (([at_4, r_19.1, at_4, at_4] : List Int).map (AV.int .i64)) (some 2)), (147, i6 i_24), (148, .rop [i6 x_49]), (149, i6 x_49), (150, .tup [(A_Span r_50.1), i6 r_50.2]), (151, (A_Span r_50.1)), (152, i6 r_50.2)]) (tabO_ok hT_51.1) [[i6 0, i6 0]] [] [⟨[(C_Float r_30), (C_Span r_45.1), (C_Span r_50.1)], [(4, 9), (4, 1), (4, 1)]⟩] ?_ ?_
            ·refine drS [0, 1] 12 [(2, .rop (C_Float x_47)), (6, .rop [.sl (x_48.map A_Hurdle) none]), (10, .rop [i6 x_49])] [LGet (([x_1, r_14.1, r_14.1, r_14.1] : List T_Float).map A_Float) i_24 9 (C_Float x_47), LGet (([route_2, r_15.1, l_18, route_2] : List (List T_Hurdle)).map (SV A_Hurdle)) i_24 1 [.sl (x_48.map A_Hurdle) none], LGet (([at_4, r_19.1, at_4, at_4] : List Int).map (AV.int .i64)) i_24 1 [i6 x_49]] (mkS 211 [(15, .sl (([x_1, r_14.1, r_14.1, r_14.1] : List T_Float).map A_Float) (some 0)), (16, .sl (([route_2, r_15.1, l_18, route_2] : List (List T_Hurdle)).map (SV A_Hurdle)) (some 1)), (17, .sl (([at_4, r_19.1, at_4, at_4] : List Int).map (AV.int .i64)) (some 2)), (18, i6 i_24), (19, .ptr 0 0), (20, .sl (r_32.map A_Hurdle) none), (21, .sl (r_34.1.map (AV.int .i64)) none), (22, i6 r_34.2), (23, .sl (r_37.1.map (AV.int .i64)) none), (24, i6 r_37.2), (25, i6 r_39.1), (26, i6 r_39.2), (27, i6 r_42.1), (28, i6 r_42.2), (29, .ptr 1 0), (30, i6 r_45.2), (138, .sl (([x_1, r_14.1, r_14.1, r_14.1] : List T_Float).map A_Float) (some 0)), (139, i6 i_24), (140, .rop (C_Float x_47)), (141, (A_Float x_47)), (142, .sl (([route_2, r_15.1, l_18, route_2] : List (List T_Hurdle)).map (SV A_Hurdle)) (some 1)), (143, i6 i_24), (144, .rop [.sl (x_48.map A_Hurdle) none]), (145, .sl (x_48.map A_Hurdle) none), (146, .sl (([at_4, r_19.1, at_4, at_4] : List Int).map (AV.int .i64)) (some 2)), (147, i6 i_24), (148, .rop [i6 x_49]), (149, i6 x_49)]) (by simp) (by kernel_rfl) ⟨LGet.of hx_47 rfl, LGet.of hx_48 rfl, LGet.of hx_49 rfl, trivial⟩ (by kernel_rfl) ?_
             refine drC hT_51.2 0 _ [(A_Float x_47), .sl (x_48.map A_Hurdle) none, i6 x_49] (v_br2_Ballast r_50) rfl rfl rfl rfl rfl (fun _ => rfl) rfl (by simp; try rfl) (fun _ => b_br2_Ballast _ _ _ _) ?_
             refine drS [0, 1] 3 [] [] (mkS 211 [(15, .sl (([x_1, r_14.1, r_14.1, r_14.1] : List T_Float).map A_Float) (some 0)), (16, .sl (([route_2, r_15.1, l_18, route_2] : List (List T_Hurdle)).map (SV A_Hurdle)) (some 1)), (17, .sl (([at_4, r_19.1, at_4, at_4] : List Int).map (AV.int .i64)) (some 2)), (18, i6 i_24), (19, .ptr 0 0), (20, .sl (r_32.map A_Hurdle) none), (21, .sl (r_34.1.map (AV.int .i64)) none), (22, i6 r_34.2), (23, .sl (r_37.1.map (AV.int .i64)) none), (24, i6 r_37.2), (25, i6 r_39.1), (26, i6 r_39.2), (27, i6 r_42.1), (28, i6 r_42.2), (29, .ptr 1 0), (30, i6 r_45.2), (137, .tup [(A_Span r_50.1), i6 r_50.2]), (138, .sl (([x_1, r_14.1, r_14.1, r_14.1] : List T_Float).map A_Float) (some 0)), (139, i6 i_24), (140, .rop (C_Float x_47)), (141, (A_Float x_47)), (142, .sl (([route_2, r_15.1, l_18, route_2] : List (List T_Hurdle)).map (SV A_Hurdle)) (some 1)), (143, i6 i_24), (144, .rop [.sl (x_48.map A_Hurdle) none]), (145, .sl (x_48.map A_Hurdle) none), (146, .sl (([at_4, r_19.1, at_4, at_4] : List Int).map (AV.int .i64)) (some 2)), (147, i6 i_24), (148, .rop [i6 x_49]), (149, i6 x_49), (150, .tup [(A_Span r_50.1), i6 r_50.2]), (151, (A_Span r_50.1)), (152, i6 r_50.2)]) (by simp) (by kernel_rfl) trivial (by kernel_rfl) ?_
             refine drXL 2 [i6 0, i6 0] 31 rfl rfl (fun _ => by kernel_rfl) (by simp) (by simp) rfl (by kernel_rfl) rfl rfl ?_
             refine drE none none (.tup []) _ _ rfl rfl rfl rfl rfl (by kernel_rfl) trivial ?_
             exact DrO.nil rfl
            ·dsimp only [List.getLastD_cons, List.getLastD_nil]
             refine rn 1 [15, 16, 17, 18, 19, 20, 21, 22, 23, 24, 25, 26, 27, 28, 29, 30, 31, 32] (mkS 211 [(15, .sl (([x_1, r_14.1, r_14.1, r_14.1] : List T_Float).map A_Float) (some 0)), (16, .sl (([route_2, r_15.1, l_18, route_2] : List (List T_Hurdle)).map (SV A_Hurdle)) (some 1)), (17, .sl (([at_4, r_19.1, at_4, at_4] : List Int).map (AV.int .i64)) (some 2)), (18, i6 i_24), (19, .ptr 0 0), (20, .sl (r_32.map A_Hurdle) none), (21, .sl (r_34.1.map (AV.int .i64)) none), (22, i6 r_34.2), (23, .sl (r_37.1.map (AV.int .i64)) none), (24, i6 r_37.2), (25, i6 r_39.1), (26, i6 r_39.2), (27, i6 r_42.1), (28, i6 r_42.2), (29, .ptr 1 0), (30, i6 r_45.2), (31, .ptr 2 0), (32, i6 r_50.2)]) ⟨[(C_Float r_30), (C_Span r_45.1), (C_Span r_50.1)], [(4, 9), (4, 1), (4, 1)]⟩ ?_
             refine ExO.nil ?_
             obtain ⟨K_54, hK_55, h⟩ := letE h
             refine Ex.seqJ (fun a S => ∃ (y_52 : Bool), K_54 y_52 = some r ∧ a = mkS 211 [(15, .sl (([x_1, r_14.1, r_14.1, r_14.1] : List T_Float).map A_Float) (some 0)), (16, .sl (([route_2, r_15.1, l_18, route_2] : List (List T_Hurdle)).map (SV A_Hurdle)) (some 1)), (17, .sl (([at_4, r_19.1, at_4, at_4] : List Int).map (AV.int .i64)) (some 2)), (18, i6 i_24), (209, .bool y_52)] ∧ S = ⟨[], [(4, 9), (4, 1), (4, 1)]⟩) ?_ ?_
             ·obtain ⟨r_56, hr_56, h⟩ := bE h
              obtain ⟨x_57, hx_57, h⟩ := bE h
              obtain ⟨r_58, hr_58, h⟩ := bE h
              rcases condI h with ⟨hc_59, h⟩ | ⟨hc_59, h⟩
              ·have hT_61 : DoesA Try.prog [⟨32, [.sl (r_32.map A_Hurdle) none], [], (v_float_CheckRoute r_56), []⟩, ⟨33, [.sl (x_57.map A_Hurdle) none], [], (v_br2_CheckRoute r_58), []⟩] ∧ ConsA [⟨32, [.sl (r_32.map A_Hurdle) none], [], (v_float_CheckRoute r_56), []⟩, ⟨33, [.sl (x_57.map A_Hurdle) none], [], (v_br2_CheckRoute r_58), []⟩] := ⟨⟨(d_float_CheckRoute N r_32 r_56 hr_56), rfl, (d_br2_CheckRoute N x_57 r_58 hr_58), rfl, trivial⟩, ⟨⟨ConsR.ne rfl, trivial⟩, trivial, trivial⟩⟩
               obtain ⟨X_60, hX_60, hcl_62, hcl_63⟩ : ∃ X : Clr, ClrOk Try.prog X ∧ X 32 [.sl (r_32.map A_Hurdle) none] ⟨[(C_Float r_30), (C_Span r_45.1), (C_Span r_50.1)], [(4, 9), (4, 1), (4, 1)]⟩ = some (v_float_CheckRoute r_56, none) ∧ X 33 [.sl (x_57.map A_Hurdle) none] ⟨[(C_Float r_30), (C_Span r_45.1), (C_Span r_50.1)], [(4, 9), (4, 1), (4, 1)]⟩ = some (v_br2_CheckRoute r_58, none) := ⟨_, tabO_ok hT_61.1, tabO_pure hT_61.2 0 _ [.sl (r_32.map A_Hurdle) none] _ rfl rfl rfl rfl (by simp; try rfl) (fun _ => b_float_CheckRoute _ _ _ _), tabO_pure hT_61.2 1 _ [.sl (x_57.map A_Hurdle) none] _ rfl rfl rfl rfl (by simp; try rfl) (fun _ => b_br2_CheckRoute _ _ _ _)⟩
               refine dregX hX_60 [(1, .cl (v_float_CheckRoute r_56)), (4, .rop [.sl (x_57.map A_Hurdle) none]), (6, .cl (v_br2_CheckRoute r_58)), (8, .eq (.bool true))] [] [15, 16, 17, 18, 209] [X_60 32 [.sl (r_32.map A_Hurdle) none] ⟨[(C_Float r_30), (C_Span r_45.1), (C_Span r_50.1)], [(4, 9), (4, 1), (4, 1)]⟩ = some (v_float_CheckRoute r_56, none), LGet (([route_2, r_15.1, l_18, route_2] : List (List T_Hurdle)).map (SV A_Hurdle)) i_24 1 [.sl (x_57.map A_Hurdle) none], X_60 33 [.sl (x_57.map A_Hurdle) none] ⟨[(C_Float r_30), (C_Span r_45.1), (C_Span r_50.1)], [(4, 9), (4, 1), (4, 1)]⟩ = some (v_br2_CheckRoute r_58, none), AV.bool (r_56 != r_58) = AV.bool true] [] (mkS 211 [(15, .sl (([x_1, r_14.1, r_14.1, r_14.1] : List T_Float).map A_Float) (some 0)), (16, .sl (([route_2, r_15.1, l_18, route_2] : List (List T_Hurdle)).map (SV A_Hurdle)) (some 1)), (17, .sl (([at_4, r_19.1, at_4, at_4] : List Int).map (AV.int .i64)) (some 2)), (18, i6 i_24), (19, .ptr 0 0), (20, .sl (r_32.map A_Hurdle) none), (21, .sl (r_34.1.map (AV.int .i64)) none), (22, i6 r_34.2), (23, .sl (r_37.1.map (AV.int .i64)) none), (24, i6 r_37.2), (25, i6 r_39.1), (26, i6 r_39.2), (27, i6 r_42.1), (28, i6 r_42.2), (29, .ptr 1 0), (30, i6 r_45.2), (31, .ptr 2 0), (32, i6 r_50.2), (153, .sl (r_32.map A_Hurdle) none), (154, i6 r_56), (155, .sl (([route_2, r_15.1, l_18, route_2] : List (List T_Hurdle)).map (SV A_Hurdle)) (some 1)), (156, i6 i_24), (157, .rop [.sl (x_57.map A_Hurdle) none]), (158, .sl (x_57.map A_Hurdle) none), (159, i6 r_58), (160, .bool (r_56 != r_58)), (161, .bool true), (162, .tup []), (163, .tup []), (164, .tup []), (165, .bool true), (166, .bool true), (167, .tup []), (168, .tup []), (169, .tup []), (170, .bool true), (171, .bool true), (172, .tup []), (173, .tup []), (174, .tup []), (175, .bool true), (176, .bool true), (177, .tup []), (178, .tup []), (179, .tup []), (180, .bool true), (181, .bool true), (182, .tup []), (183, .tup []), (184, .tup []), (185, .bool true), (186, .bool true), (187, .tup []), (188, .tup []), (189, .tup []), (190, .tup []), (191, .bool true), (192, .bool true), (193, .tup []), (194, .tup []), (195, .tup []), (196, .tup []), (197, .tup []), (198, .tup []), (199, .tup []), (200, .bool true), (201, .bool true), (202, .tup []), (203, .tup []), (204, .tup []), (205, .tup []), (206, .tup [])]) (mkS 211 [(15, .sl (([x_1, r_14.1, r_14.1, r_14.1] : List T_Float).map A_Float) (some 0)), (16, .sl (([route_2, r_15.1, l_18, route_2] : List (List T_Hurdle)).map (SV A_Hurdle)) (some 1)), (17, .sl (([at_4, r_19.1, at_4, at_4] : List Int).map (AV.int .i64)) (some 2)), (18, i6 i_24), (209, .bool true)]) (by kernel_rfl) (by kernel_rfl) ⟨hcl_62, LGet.of hx_57 rfl, hcl_63, congrArg AV.bool hc_59, trivial⟩ (by kernel_rfl) trivial ?_
               (try simp only [reduceCtorEq, AEx.ex.injEq, Nat.reduceEqDiff, if_true, if_false])
               exact ⟨_, _, forgetA (m := 211) 0 [0, 1, 2] [(15, .sl (([x_1, r_14.1, r_14.1, r_14.1] : List T_Float).map A_Float) (some 0)), (16, .sl (([route_2, r_15.1, l_18, route_2] : List (List T_Hurdle)).map (SV A_Hurdle)) (some 1)), (17, .sl (([at_4, r_19.1, at_4, at_4] : List Int).map (AV.int .i64)) (some 2)), (18, i6 i_24), (209, .bool true)] [] [(4, 9), (4, 1), (4, 1)] (by simp) (by simp) ⟨(reT (KL_Float _) rfl), (reT (cleanM (fun _ => (by simp only [SV, AV.clean]; exact (KL_Hurdle _))) _) rfl), (reT (cleanI _ _) rfl), rfl, rfl, trivial⟩ (by simp) rfl (by decide), true, h, rfl, rfl⟩
              ·rcases condI h with ⟨hc_64, h⟩ | ⟨hc_64, h⟩
               ·have hT_66 : DoesA Try.prog [⟨32, [.sl (r_32.map A_Hurdle) none], [], (v_float_CheckRoute r_56), []⟩, ⟨33, [.sl (x_57.map A_Hurdle) none], [], (v_br2_CheckRoute r_58), []⟩] ∧ ConsA [⟨32, [.sl (r_32.map A_Hurdle) none], [], (v_float_CheckRoute r_56), []⟩, ⟨33, [.sl (x_57.map A_Hurdle) none], [], (v_br2_CheckRoute r_58), []⟩] := ⟨⟨(d_float_CheckRoute N r_32 r_56 hr_56), rfl, (d_br2_CheckRoute N x_57 r_58 hr_58), rfl, trivial⟩, ⟨⟨ConsR.ne rfl, trivial⟩, trivial, trivial⟩⟩
                obtain ⟨X_65, hX_65, hcl_67, hcl_68⟩ : ∃ X : Clr, ClrOk Try.prog X ∧ X 32 [.sl (r_32.map A_Hurdle) none] ⟨[(C_Float r_30), (C_Span r_45.1), (C_Span r_50.1)], [(4, 9), (4, 1), (4, 1)]⟩ = some (v_float_CheckRoute r_56, none) ∧ X 33 [.sl (x_57.map A_Hurdle) none] ⟨[(C_Float r_30), (C_Span r_45.1), (C_Span r_50.1)], [(4, 9), (4, 1), (4, 1)]⟩ = some (v_br2_CheckRoute r_58, none) := ⟨_, tabO_ok hT_66.1, tabO_pure hT_66.2 0 _ [.sl (r_32.map A_Hurdle) none] _ rfl rfl rfl rfl (by simp; try rfl) (fun _ => b_float_CheckRoute _ _ _ _), tabO_pure hT_66.2 1 _ [.sl (x_57.map A_Hurdle) none] _ rfl rfl rfl rfl (by simp; try rfl) (fun _ => b_br2_CheckRoute _ _ _ _)⟩
                refine dregX hX_65 [(1, .cl (v_float_CheckRoute r_56)), (4, .rop [.sl (x_57.map A_Hurdle) none]), (6, .cl (v_br2_CheckRoute r_58)), (8, .eq (.bool false)), (13, .eq (.bool true))] [] [15, 16, 17, 18, 209] [X_65 32 [.sl (r_32.map A_Hurdle) none] ⟨[(C_Float r_30), (C_Span r_45.1), (C_Span r_50.1)], [(4, 9), (4, 1), (4, 1)]⟩ = some (v_float_CheckRoute r_56, none), LGet (([route_2, r_15.1, l_18, route_2] : List (List T_Hurdle)).map (SV A_Hurdle)) i_24 1 [.sl (x_57.map A_Hurdle) none], X_65 33 [.sl (x_57.map A_Hurdle) none] ⟨[(C_Float r_30), (C_Span r_45.1), (C_Span r_50.1)], [(4, 9), (4, 1), (4, 1)]⟩ = some (v_br2_CheckRoute r_58, none), AV.bool (r_56 != r_58) = AV.bool false, AV.bool (r_34.2 != r_37.2) = AV.bool true] [] (mkS 211 [(15, .sl (([x_1, r_14.1, r_14.1, r_14.1] : List T_Float).map A_Float) (some 0)), (16, .sl (([route_2, r_15.1, l_18, route_2] : List (List T_Hurdle)).map (SV A_Hurdle)) (some 1)), (17, .sl (([at_4, r_19.1, at_4, at_4] : List Int).map (AV.int .i64)) (some 2)), (18, i6 i_24), (19, .ptr 0 0), (20, .sl (r_32.map A_Hurdle) none), (21, .sl (r_34.1.map (AV.int .i64)) none), (22, i6 r_34.2), (23, .sl (r_37.1.map (AV.int .i64)) none), (24, i6 r_37.2), (25, i6 r_39.1), (26, i6 r_39.2), (27, i6 r_42.1), (28, i6 r_42.2), (29, .ptr 1 0), (30, i6 r_45.2), (31, .ptr 2 0), (32, i6 r_50.2), (153, .sl (r_32.map A_Hurdle) none), (154, i6 r_56), (155, .sl (([route_2, r_15.1, l_18, route_2] : List (List T_Hurdle)).map (SV A_Hurdle)) (some 1)), (156, i6 i_24), (157, .rop [.sl (x_57.map A_Hurdle) none]), (158, .sl (x_57.map A_Hurdle) none), (159, i6 r_58), (160, .bool (r_56 != r_58)), (161, .bool false), (162, i6 r_34.2), (163, i6 r_37.2), (164, .bool (r_34.2 != r_37.2)), (165, .bool (r_34.2 != r_37.2)), (166, .bool true), (167, .tup []), (168, .tup []), (169, .tup []), (170, .bool true), (171, .bool true), (172, .tup []), (173, .tup []), (174, .tup []), (175, .bool true), (176, .bool true), (177, .tup []), (178, .tup []), (179, .tup []), (180, .bool true), (181, .bool true), (182, .tup []), (183, .tup []), (184, .tup []), (185, .bool true), (186, .bool true), (187, .tup []), (188, .tup []), (189, .tup []), (190, .tup []), (191, .bool true), (192, .bool true), (193, .tup []), (194, .tup []), (195, .tup []), (196, .tup []), (197, .tup []), (198, .tup []), (199, .tup []), (200, .bool true), (201, .bool true), (202, .tup []), (203, .tup []), (204, .tup []), (205, .tup []), (206, .tup [])]) (mkS 211 [(15, .sl (([x_1, r_14.1, r_14.1, r_14.1] : List T_Float).map A_Float) (some 0)), (16, .sl (([route_2, r_15.1, l_18, route_2] : List (List T_Hurdle)).map (SV A_Hurdle)) (some 1)), (17, .sl (([at_4, r_19.1, at_4, at_4] : List Int).map (AV.int .i64)) (some 2)), (18, i6 i_24), (209, .bool true)]) (by kernel_rfl) (by kernel_rfl) ⟨hcl_67, LGet.of hx_57 rfl, hcl_68, congrArg AV.bool hc_59, congrArg AV.bool hc_64, trivial⟩ (by kernel_rfl) trivial ?_
                (try simp only [reduceCtorEq, AEx.ex.injEq, Nat.reduceEqDiff, if_true, if_false])
                exact ⟨_, _, forgetA (m := 211) 0 [0, 1, 2] [(15, .sl (([x_1, r_14.1, r_14.1, r_14.1] : List T_Float).map A_Float) (some 0)), (16, .sl (([route_2, r_15.1, l_18, route_2] : List (List T_Hurdle)).map (SV A_Hurdle)) (some 1)), (17, .sl (([at_4, r_19.1, at_4, at_4] : List Int).map (AV.int .i64)) (some 2)), (18, i6 i_24), (209, .bool true)] [] [(4, 9), (4, 1), (4, 1)] (by simp) (by simp) ⟨(reT (KL_Float _) rfl), (reT (cleanM (fun _ => (by simp only [SV, AV.clean]; exact (KL_Hurdle _))) _) rfl), (reT (cleanI _ _) rfl), rfl, rfl, trivial⟩ (by simp) rfl (by decide), true, h, rfl, rfl⟩
               ·rcases condI h with ⟨hc_69, h⟩ | ⟨hc_69, h⟩
                ·have hT_71 : DoesA Try.prog [⟨32, [.sl (r_32.map A_Hurdle) none], [], (v_float_CheckRoute r_56), []⟩, ⟨33, [.sl (x_57.map A_Hurdle) none], [], (v_br2_CheckRoute r_58), []⟩] ∧ ConsA [⟨32, [.sl (r_32.map A_Hurdle) none], [], (v_float_CheckRoute r_56), []⟩, ⟨33, [.sl (x_57.map A_Hurdle) none], [], (v_br2_CheckRoute r_58), []⟩] := ⟨⟨(d_float_CheckRoute N r_32 r_56 hr_56), rfl, (d_br2_CheckRoute N x_57 r_58 hr_58), rfl, trivial⟩, ⟨⟨ConsR.ne rfl, trivial⟩, trivial, trivial⟩⟩
                 obtain ⟨X_70, hX_70, hcl_72, hcl_73⟩ : ∃ X : Clr, ClrOk Try.prog X ∧ X 32 [.sl (r_32.map A_Hurdle) none] ⟨[(C_Float r_30), (C_Span r_45.1), (C_Span r_50.1)], [(4, 9), (4, 1), (4, 1)]⟩ = some (v_float_CheckRoute r_56, none) ∧ X 33 [.sl (x_57.map A_Hurdle) none] ⟨[(C_Float r_30), (C_Span r_45.1), (C_Span r_50.1)], [(4, 9), (4, 1), (4, 1)]⟩ = some (v_br2_CheckRoute r_58, none) := ⟨_, tabO_ok hT_71.1, tabO_pure hT_71.2 0 _ [.sl (r_32.map A_Hurdle) none] _ rfl rfl rfl rfl (by simp; try rfl) (fun _ => b_float_CheckRoute _ _ _ _), tabO_pure hT_71.2 1 _ [.sl (x_57.map A_Hurdle) none] _ rfl rfl rfl rfl (by simp; try rfl) (fun _ => b_br2_CheckRoute _ _ _ _)⟩
                 refine dregX hX_70 [(1, .cl (v_float_CheckRoute r_56)), (4, .rop [.sl (x_57.map A_Hurdle) none]), (6, .cl (v_br2_CheckRoute r_58)), (8, .eq (.bool false)), (13, .eq (.bool false)), (18, .eq (.bool true))] [] [15, 16, 17, 18, 209] [X_70 32 [.sl (r_32.map A_Hurdle) none] ⟨[(C_Float r_30), (C_Span r_45.1), (C_Span r_50.1)], [(4, 9), (4, 1), (4, 1)]⟩ = some (v_float_CheckRoute r_56, none), LGet (([route_2, r_15.1, l_18, route_2] : List (List T_Hurdle)).map (SV A_Hurdle)) i_24 1 [.sl (x_57.map A_Hurdle) none], X_70 33 [.sl (x_57.map A_Hurdle) none] ⟨[(C_Float r_30), (C_Span r_45.1), (C_Span r_50.1)], [(4, 9), (4, 1), (4, 1)]⟩ = some (v_br2_CheckRoute r_58, none), AV.bool (r_56 != r_58) = AV.bool false, AV.bool (r_34.2 != r_37.2) = AV.bool false, AV.bool (r_39.1 != r_42.1) = AV.bool true] [] (mkS 211 [(15, .sl (([x_1, r_14.1, r_14.1, r_14.1] : List T_Float).map A_Float) (some 0)), (16, .sl (([route_2, r_15.1, l_18, route_2] : List (List T_Hurdle)).map (SV A_Hurdle)) (some 1)), (17, .sl (([at_4, r_19.1, at_4, at_4] : List Int).map (AV.int .i64)) (some 2)), (18, i6 i_24), (19, .ptr 0 0), (20, .sl (r_32.map A_Hurdle) none), (21, .sl (r_34.1.map (AV.int .i64)) none), (22, i6 r_34.2), (23, .sl (r_37.1.map (AV.int .i64)) none), (24, i6 r_37.2), (25, i6 r_39.1), (26, i6 r_39.2), (27, i6 r_42.1), (28, i6 r_42.2), (29, .ptr 1 0), (30, i6 r_45.2), (31, .ptr 2 0), (32, i6 r_50.2), (153, .sl (r_32.map A_Hurdle) none), (154, i6 r_56), (155, .sl (([route_2, r_15.1, l_18, route_2] : List (List T_Hurdle)).map (SV A_Hurdle)) (some 1)), (156, i6 i_24), (157, .rop [.sl (x_57.map A_Hurdle) none]), (158, .sl (x_57.map A_Hurdle) none), (159, i6 r_58), (160, .bool (r_56 != r_58)), (161, .bool false), (162, i6 r_34.2), (163, i6 r_37.2), (164, .bool (r_34.2 != r_37.2)), (165, .bool (r_34.2 != r_37.2)), (166, .bool false), (167, i6 r_39.1), (168, i6 r_42.1), (169, .bool (r_39.1 != r_42.1)), (170, .bool (r_39.1 != r_42.1)), (171, .bool true), (172, .tup []), (173, .tup []), (174, .tup []), (175, .bool true), (176, .bool true), (177, .tup []), (178, .tup []), (179, .tup []), (180, .bool true), (181, .bool true), (182, .tup []), (183, .tup []), (184, .tup []), (185, .bool true), (186, .bool true), (187, .tup []), (188, .tup []), (189, .tup []), (190, .tup []), (191, .bool true), (192, .bool true), (193, .tup []), (194, .tup []), (195, .tup []), (196, .tup []), (197, .tup []), (198, .tup []), (199, .tup []), (200, .bool true), (201, .bool true), (202, .tup []), (203, .tup []), (204, .tup []), (205, .tup []), (206, .tup [])]) (mkS 211 [(15, .sl (([x_1, r_14.1, r_14.1, r_14.1] : List T_Float).map A_Float) (some 0)), (16, .sl (([route_2, r_15.1, l_18, route_2] : List (List T_Hurdle)).map (SV A_Hurdle)) (some 1)), (17, .sl (([at_4, r_19.1, at_4, at_4] : List Int).map (AV.int .i64)) (some 2)), (18, i6 i_24), (209, .bool true)]) (by kernel_rfl) (by kernel_rfl) ⟨hcl_72, LGet.of hx_57 rfl, hcl_73, congrArg AV.bool hc_59, congrArg AV.bool hc_64, congrArg AV.bool hc_69, trivial⟩ (by kernel_rfl) trivial ?_
                 (try simp only [reduceCtorEq, AEx.ex.injEq, Nat.reduceEqDiff, if_true, if_false])
                 exact ⟨_, _, forgetA (m := 211) 0 [0, 1, 2] [(15, .sl (([x_1, r_14.1, r_14.1, r_14.1] : List T_Float).map A_Float) (some 0)), (16, .sl (([route_2, r_15.1, l_18, route_2] : List (List T_Hurdle)).map (SV A_Hurdle)) (some 1)), (17, .sl (([at_4, r_19.1, at_4, at_4] : List Int).map (AV.int .i64)) (some 2)), (18, i6 i_24), (209, .bool true)] [] [(4, 9), (4, 1), (4, 1)] (by simp) (by simp) ⟨(reT (KL_Float _) rfl), (reT (cleanM (fun _ => (by simp only [SV, AV.clean]; exact (KL_Hurdle _))) _) rfl), (reT (cleanI _ _) rfl), rfl, rfl, trivial⟩ (by simp) rfl (by decide), true, h, rfl, rfl⟩
                ·rcases condI h with ⟨hc_74, h⟩ | ⟨hc_74, h⟩
                 ·have hT_76 : DoesA Try.prog [⟨32, [.sl (r_32.map A_Hurdle) none], [], (v_float_CheckRoute r_56), []⟩, ⟨33, [.sl (x_57.map A_Hurdle) none], [], (v_br2_CheckRoute r_58), []⟩] ∧ ConsA [⟨32, [.sl (r_32.map A_Hurdle) none], [], (v_float_CheckRoute r_56), []⟩, ⟨33, [.sl (x_57.map A_Hurdle) none], [], (v_br2_CheckRoute r_58), []⟩] := ⟨⟨(d_float_CheckRoute N r_32 r_56 hr_56), rfl, (d_br2_CheckRoute N x_57 r_58 hr_58), rfl, trivial⟩, ⟨⟨ConsR.ne rfl, trivial⟩, trivial, trivial⟩⟩
                  obtain ⟨X_75, hX_75, hcl_77, hcl_78⟩ : ∃ X : Clr, ClrOk Try.prog X ∧ X 32 [.sl (r_32.map A_Hurdle) none] ⟨[(C_Float r_30), (C_Span r_45.1), (C_Span r_50.1)], [(4, 9), (4, 1), (4, 1)]⟩ = some (v_float_CheckRoute r_56, none) ∧ X 33 [.sl (x_57.map A_Hurdle) none] ⟨[(C_Float r_30), (C_Span r_45.1), (C_Span r_50.1)], [(4, 9), (4, 1), (4, 1)]⟩ = some (v_br2_CheckRoute r_58, none) := ⟨_, tabO_ok hT_76.1, tabO_pure hT_76.2 0 _ [.sl (r_32.map A_Hurdle) none] _ rfl rfl rfl rfl (by simp; try rfl) (fun _ => b_float_CheckRoute _ _ _ _), tabO_pure hT_76.2 1 _ [.sl (x_57.map A_Hurdle) none] _ rfl rfl rfl rfl (by simp; try rfl) (fun _ => b_br2_CheckRoute _ _ _ _)⟩
                  refine dregX hX_75 [(1, .cl (v_float_CheckRoute r_56)), (4, .rop [.sl (x_57.map A_Hurdle) none]), (6, .cl (v_br2_CheckRoute r_58)), (8, .eq (.bool false)), (13, .eq (.bool false)), (18, .eq (.bool false)), (23, .eq (.bool true))] [] [15, 16, 17, 18, 209] [X_75 32 [.sl (r_32.map A_Hurdle) none] ⟨[(C_Float r_30), (C_Span r_45.1), (C_Span r_50.1)], [(4, 9), (4, 1), (4, 1)]⟩ = some (v_float_CheckRoute r_56, none), LGet (([route_2, r_15.1, l_18, route_2] : List (List T_Hurdle)).map (SV A_Hurdle)) i_24 1 [.sl (x_57.map A_Hurdle) none], X_75 33 [.sl (x_57.map A_Hurdle) none] ⟨[(C_Float r_30), (C_Span r_45.1), (C_Span r_50.1)], [(4, 9), (4, 1), (4, 1)]⟩ = some (v_br2_CheckRoute r_58, none), AV.bool (r_56 != r_58) = AV.bool false, AV.bool (r_34.2 != r_37.2) = AV.bool false, AV.bool (r_39.1 != r_42.1) = AV.bool false, AV.bool (r_39.2 != r_42.2) = AV.bool true] [] (mkS 211 [(15, .sl (([x_1, r_14.1, r_14.1, r_14.1] : List T_Float).map A_Float) (some 0)), (16, .sl (([route_2, r_15.1, l_18, route_2] : List (List T_Hurdle)).map (SV A_Hurdle)) (some 1)), (17, .sl (([at_4, r_19.1, at_4, at_4] : List Int).map (AV.int .i64)) (some 2)), (18, i6 i_24), (19, .ptr 0 0), (20, .sl (r_32.map A_Hurdle) none), (21, .sl (r_34.1.map (AV.int .i64)) none), (22, i6 r_34.2), (23, .sl (r_37.1.map (AV.int .i64)) none), (24, i6 r_37.2), (25, i6 r_39.1), (26, i6 r_39.2), (27, i6 r_42.1), (28, i6 r_42.2), (29, .ptr 1 0), (30, i6 r_45.2), (31, .ptr 2 0), (32, i6 r_50.2), (153, .sl (r_32.map A_Hurdle) none), (154, i6 r_56), (155, .sl (([route_2, r_15.1, l_18, route_2] : List (List T_Hurdle)).map (SV A_Hurdle)) (some 1)), (156, i6 i_24), (157, .rop [.sl (x_57.map A_Hurdle) none]), (158, .sl (x_57.map A_Hurdle) none), (159, i6 r_58), (160, .bool (r_56 != r_58)), (161, .bool false), (162, i6 r_34.2), (163, i6 r_37.2), (164, .bool (r_34.2 != r_37.2)), (165, .bool (r_34.2 != r_37.2)), (166, .bool false), (167, i6 r_39.1), (168, i6 r_42.1), (169, .bool (r_39.1 != r_42.1)), (170, .bool (r_39.1 != r_42.1)), (171, .bool false), (172, i6 r_39.2), (173, i6 r_42.2), (174, .bool (r_39.2 != r_42.2)), (175, .bool (r_39.2 != r_42.2)), (176, .bool true), (177, .tup []), (178, .tup []), (179, .tup []), (180, .bool true), (181, .bool true), (182, .tup []), (183, .tup []), (184, .tup []), (185, .bool true), (186, .bool true), (187, .tup []), (188, .tup []), (189, .tup []), (190, .tup []), (191, .bool true), (192, .bool true), (193, .tup []), (194, .tup []), (195, .tup []), (196, .tup []), (197, .tup []), (198, .tup []), (199, .tup []), (200, .bool true), (201, .bool true), (202, .tup []), (203, .tup []), (204, .tup []), (205, .tup []), (206, .tup [])]) (mkS 211 [(15, .sl (([x_1, r_14.1, r_14.1, r_14.1] : List T_Float).map A_Float) (some 0)), (16, .sl (([route_2, r_15.1, l_18, route_2] : List (List T_Hurdle)).map (SV A_Hurdle)) (some 1)), (17, .sl (([at_4, r_19.1, at_4, at_4] : List Int).map (AV.int .i64)) (some 2)), (18, i6 i_24), (209, .bool true)]) (by kernel_rfl) (by kernel_rfl) ⟨hcl_77, LGet.of hx_57 rfl, hcl_78, congrArg AV.bool hc_59, congrArg AV.bool hc_64, congrArg AV.bool hc_69, congrArg AV.bool hc_74, trivial⟩ (by kernel_rfl) trivial ?_
                  (try simp only [reduceCtorEq, AEx.ex.injEq, Nat.reduceEqDiff, if_true, if_false])
                  exact ⟨_, _, forgetA (m := 211) 0 [0, 1, 2] [(15, .sl (([x_1, r_14.1, r_14.1, r_14.1] : List T_Float).map A_Float) (some 0)), (16, .sl (([route_2, r_15.1, l_18, route_2] : List (List T_Hurdle)).map (SV A_Hurdle)) (some 1)), (17, .sl (([at_4, r_19.1, at_4, at_4] : List Int).map (AV.int .i64)) (some 2)), (18, i6 i_24), (209, .bool true)] [] [(4, 9), (4, 1), (4, 1)] (by simp) (by simp) ⟨(reT (KL_Float _) rfl), (reT (cleanM (fun _ => (by simp only [SV, AV.clean]; exact (KL_Hurdle _))) _) rfl), (reT (cleanI _ _) rfl), rfl, rfl, trivial⟩ (by simp) rfl (by decide), true, h, rfl, rfl⟩
                 ·rcases condI h with ⟨hc_79, h⟩ | ⟨hc_79, h⟩
                  ·have hT_81 : DoesA Try.prog [⟨32, [.sl (r_32.map A_Hurdle) none], [], (v_float_CheckRoute r_56), []⟩, ⟨33, [.sl (x_57.map A_Hurdle) none], [], (v_br2_CheckRoute r_58), []⟩] ∧ ConsA [⟨32, [.sl (r_32.map A_Hurdle) none], [], (v_float_CheckRoute r_56), []⟩, ⟨33, [.sl (x_57.map A_Hurdle) none], [], (v_br2_CheckRoute r_58), []⟩] := ⟨⟨(d_float_CheckRoute N r_32 r_56 hr_56), rfl, (d_br2_CheckRoute N x_57 r_58 hr_58), rfl, trivial⟩, ⟨⟨ConsR.ne rfl, trivial⟩, trivial, trivial⟩⟩
                   obtain ⟨X_80, hX_80, hcl_82, hcl_83⟩ : ∃ X : Clr, ClrOk Try.prog X ∧ X 32 [.sl (r_32.map A_Hurdle) none] ⟨[(C_Float r_30), (C_Span r_45.1), (C_Span r_50.1)], [(4, 9), (4, 1), (4, 1)]⟩ = some (v_float_CheckRoute r_56, none) ∧ X 33 [.sl (x_57.map A_Hurdle) none] ⟨[(C_Float r_30), (C_Span r_45.1), (C_Span r_50.1)], [(4, 9), (4, 1), (4, 1)]⟩ = some (v_br2_CheckRoute r_58, none) := ⟨_, tabO_ok hT_81.1, tabO_pure hT_81.2 0 _ [.sl (r_32.map A_Hurdle) none] _ rfl rfl rfl rfl (by simp; try rfl) (fun _ => b_float_CheckRoute _ _ _ _), tabO_pure hT_81.2 1 _ [.sl (x_57.map A_Hurdle) none] _ rfl rfl rfl rfl (by simp; try rfl) (fun _ => b_br2_CheckRoute _ _ _ _)⟩
                   refine dregX hX_80 [(1, .cl (v_float_CheckRoute r_56)), (4, .rop [.sl (x_57.map A_Hurdle) none]), (6, .cl (v_br2_CheckRoute r_58)), (8, .eq (.bool false)), (13, .eq (.bool false)), (18, .eq (.bool false)), (23, .eq (.bool false)), (28, .eq (.bool true))] [] [15, 16, 17, 18, 209] [X_80 32 [.sl (r_32.map A_Hurdle) none] ⟨[(C_Float r_30), (C_Span r_45.1), (C_Span r_50.1)], [(4, 9), (4, 1), (4, 1)]⟩ = some (v_float_CheckRoute r_56, none), LGet (([route_2, r_15.1, l_18, route_2] : List (List T_Hurdle)).map (SV A_Hurdle)) i_24 1 [.sl (x_57.map A_Hurdle) none], X_80 33 [.sl (x_57.map A_Hurdle) none] ⟨[(C_Float r_30), (C_Span r_45.1), (C_Span r_50.1)], [(4, 9), (4, 1), (4, 1)]⟩ = some (v_br2_CheckRoute r_58, none), AV.bool (r_56 != r_58) = AV.bool false, AV.bool (r_34.2 != r_37.2) = AV.bool false, AV.bool (r_39.1 != r_42.1) = AV.bool false, AV.bool (r_39.2 != r_42.2) = AV.bool false, AV.bool (!((r_45.1.Lo == r_50.1.Lo) && ((r_45.1.Hi == r_50.1.Hi) && true))) = AV.bool true] [] (mkS 211 [(15, .sl (([x_1, r_14.1, r_14.1, r_14.1] : List T_Float).map A_Float) (some 0)), (16, .sl (([route_2, r_15.1, l_18, route_2] : List (List T_Hurdle)).map (SV A_Hurdle)) (some 1)), (17, .sl (([at_4, r_19.1, at_4, at_4] : List Int).map (AV.int .i64)) (some 2)), (18, i6 i_24), (19, .ptr 0 0), (20, .sl (r_32.map A_Hurdle) none), (21, .sl (r_34.1.map (AV.int .i64)) none), (22, i6 r_34.2), (23, .sl (r_37.1.map (AV.int .i64)) none), (24, i6 r_37.2), (25, i6 r_39.1), (26, i6 r_39.2), (27, i6 r_42.1), (28, i6 r_42.2), (29, .ptr 1 0), (30, i6 r_45.2), (31, .ptr 2 0), (32, i6 r_50.2), (153, .sl (r_32.map A_Hurdle) none), (154, i6 r_56), (155, .sl (([route_2, r_15.1, l_18, route_2] : List (List T_Hurdle)).map (SV A_Hurdle)) (some 1)), (156, i6 i_24), (157, .rop [.sl (x_57.map A_Hurdle) none]), (158, .sl (x_57.map A_Hurdle) none), (159, i6 r_58), (160, .bool (r_56 != r_58)), (161, .bool false), (162, i6 r_34.2), (163, i6 r_37.2), (164, .bool (r_34.2 != r_37.2)), (165, .bool (r_34.2 != r_37.2)), (166, .bool false), (167, i6 r_39.1), (168, i6 r_42.1), (169, .bool (r_39.1 != r_42.1)), (170, .bool (r_39.1 != r_42.1)), (171, .bool false), (172, i6 r_39.2), (173, i6 r_42.2), (174, .bool (r_39.2 != r_42.2)), (175, .bool (r_39.2 != r_42.2)), (176, .bool false), (177, (A_Span r_45.1)), (178, (A_Span r_50.1)), (179, .bool (!((r_45.1.Lo == r_50.1.Lo) && ((r_45.1.Hi == r_50.1.Hi) && true)))), (180, .bool (!((r_45.1.Lo == r_50.1.Lo) && ((r_45.1.Hi == r_50.1.Hi) && true)))), (181, .bool true), (182, .tup []), (183, .tup []), (184, .tup []), (185, .bool true), (186, .bool true), (187, .tup []), (188, .tup []), (189, .tup []), (190, .tup []), (191, .bool true), (192, .bool true), (193, .tup []), (194, .tup []), (195, .tup []), (196, .tup []), (197, .tup []), (198, .tup []), (199, .tup []), (200, .bool true), (201, .bool true), (202, .tup []), (203, .tup []), (204, .tup []), (205, .tup []), (206, .tup [])]) (mkS 211 [(15, .sl (([x_1, r_14.1, r_14.1, r_14.1] : List T_Float).map A_Float) (some 0)), (16, .sl (([route_2, r_15.1, l_18, route_2] : List (List T_Hurdle)).map (SV A_Hurdle)) (some 1)), (17, .sl (([at_4, r_19.1, at_4, at_4] : List Int).map (AV.int .i64)) (some 2)), (18, i6 i_24), (209, .bool true)]) (by kernel_rfl) (by kernel_rfl) ⟨hcl_82, LGet.of hx_57 rfl, hcl_83, congrArg AV.bool hc_59, congrArg AV.bool hc_64, congrArg AV.bool hc_69, congrArg AV.bool hc_74, congrArg AV.bool hc_79, trivial⟩ (by kernel_rfl) trivial ?_
                   (try simp only [reduceCtorEq, AEx.ex.injEq, Nat.reduceEqDiff, if_true, if_false])
                   exact ⟨_, _, forgetA (m := 211) 0 [0, 1, 2] [(15, .sl (([x_1, r_14.1, r_14.1, r_14.1] : List T_Float).map A_Float) (some 0)), (16, .sl (([route_2, r_15.1, l_18, route_2] : List (List T_Hurdle)).map (SV A_Hurdle)) (some 1)), (17, .sl (([at_4, r_19.1, at_4, at_4] : List Int).map (AV.int .i64)) (some 2)), (18, i6 i_24), (209, .bool true)] [] [(4, 9), (4, 1), (4, 1)] (by simp) (by simp) ⟨(reT (KL_Float _) rfl), (reT (cleanM (fun _ => (by simp only [SV, AV.clean]; exact (KL_Hurdle _))) _) rfl), (reT (cleanI _ _) rfl), rfl, rfl, trivial⟩ (by simp) rfl (by decide), true, h, rfl, rfl⟩
                  ·rcases condI h with ⟨hc_84, h⟩ | ⟨hc_84, h⟩
                   ·have hT_86 : DoesA Try.prog [⟨32, [.sl (r_32.map A_Hurdle) none], [], (v_float_CheckRoute r_56), []⟩, ⟨33, [.sl (x_57.map A_Hurdle) none], [], (v_br2_CheckRoute r_58), []⟩] ∧ ConsA [⟨32, [.sl (r_32.map A_Hurdle) none], [], (v_float_CheckRoute r_56), []⟩, ⟨33, [.sl (x_57.map A_Hurdle) none], [], (v_br2_CheckRoute r_58), []⟩] := ⟨⟨(d_float_CheckRoute N r_32 r_56 hr_56), rfl, (d_br2_CheckRoute N x_57 r_58 hr_58), rfl, trivial⟩, ⟨⟨ConsR.ne rfl, trivial⟩, trivial, trivial⟩⟩
                    obtain ⟨X_85, hX_85, hcl_87, hcl_88⟩ : ∃ X : Clr, ClrOk Try.prog X ∧ X 32 [.sl (r_32.map A_Hurdle) none] ⟨[(C_Float r_30), (C_Span r_45.1), (C_Span r_50.1)], [(4, 9), (4, 1), (4, 1)]⟩ = some (v_float_CheckRoute r_56, none) ∧ X 33 [.sl (x_57.map A_Hurdle) none] ⟨[(C_Float r_30), (C_Span r_45.1), (C_Span r_50.1)], [(4, 9), (4, 1), (4, 1)]⟩ = some (v_br2_CheckRoute r_58, none) := ⟨_, tabO_ok hT_86.1, tabO_pure hT_86.2 0 _ [.sl (r_32.map A_Hurdle) none] _ rfl rfl rfl rfl (by simp; try rfl) (fun _ => b_float_CheckRoute _ _ _ _), tabO_pure hT_86.2 1 _ [.sl (x_57.map A_Hurdle) none] _ rfl rfl rfl rfl (by simp; try rfl) (fun _ => b_br2_CheckRoute _ _ _ _)⟩
                    refine dregX hX_85 [(1, .cl (v_float_CheckRoute r_56)), (4, .rop [.sl (x_57.map A_Hurdle) none]), (6, .cl (v_br2_CheckRoute r_58)), (8, .eq (.bool false)), (13, .eq (.bool false)), (18, .eq (.bool false)), (23, .eq (.bool false)), (28, .eq (.bool false)), (33, .eq (.bool true))] [] [15, 16, 17, 18, 209] [X_85 32 [.sl (r_32.map A_Hurdle) none] ⟨[(C_Float r_30), (C_Span r_45.1), (C_Span r_50.1)], [(4, 9), (4, 1), (4, 1)]⟩ = some (v_float_CheckRoute r_56, none), LGet (([route_2, r_15.1, l_18, route_2] : List (List T_Hurdle)).map (SV A_Hurdle)) i_24 1 [.sl (x_57.map A_Hurdle) none], X_85 33 [.sl (x_57.map A_Hurdle) none] ⟨[(C_Float r_30), (C_Span r_45.1), (C_Span r_50.1)], [(4, 9), (4, 1), (4, 1)]⟩ = some (v_br2_CheckRoute r_58, none), AV.bool (r_56 != r_58) = AV.bool false, AV.bool (r_34.2 != r_37.2) = AV.bool false, AV.bool (r_39.1 != r_42.1) = AV.bool false, AV.bool (r_39.2 != r_42.2) = AV.bool false, AV.bool (!((r_45.1.Lo == r_50.1.Lo) && ((r_45.1.Hi == r_50.1.Hi) && true))) = AV.bool false, AV.bool (r_45.2 != r_50.2) = AV.bool true] [] (mkS 211 [(15, .sl (([x_1, r_14.1, r_14.1, r_14.1] : List T_Float).map A_Float) (some 0)), (16, .sl (([route_2, r_15.1, l_18, route_2] : List (List T_Hurdle)).map (SV A_Hurdle)) (some 1)), (17, .sl (([at_4, r_19.1, at_4, at_4] : List Int).map (AV.int .i64)) (some 2)), (18, i6 i_24), (19, .ptr 0 0), (20, .sl (r_32.map A_Hurdle) none), (21, .sl (r_34.1.map (AV.int .i64)) none), (22, i6 r_34.2), (23, .sl (r_37.1.map (AV.int .i64)) none), (24, i6 r_37.2), (25, i6 r_39.1), (26, i6 r_39.2), (27, i6 r_42.1), (28, i6 r_42.2), (29, .ptr 1 0), (30, i6 r_45.2), (31, .ptr 2 0), (32, i6 r_50.2), (153, .sl (r_32.map A_Hurdle) none), (154, i6 r_56), (155, .sl (([route_2, r_15.1, l_18, route_2] : List (List T_Hurdle)).map (SV A_Hurdle)) (some 1)), (156, i6 i_24), (157, .rop [.sl (x_57.map A_Hurdle) none]), (158, .sl (x_57.map A_Hurdle) none), (159, i6 r_58), (160, .bool (r_56 != r_58)), (161, .bool false), (162, i6 r_34.2), (163, i6 r_37.2), (164, .bool (r_34.2 != r_37.2)), (165, .bool (r_34.2 != r_37.2)), (166, .bool false), (167, i6 r_39.1), (168, i6 r_42.1), (169, .bool (r_39.1 != r_42.1)), (170, .bool (r_39.1 != r_42.1)), (171, .bool false), (172, i6 r_39.2), (173, i6 r_42.2), (174, .bool (r_39.2 != r_42.2)), (175, .bool (r_39.2 != r_42.2)), (176, .bool false), (177, (A_Span r_45.1)), (178, (A_Span r_50.1)), (179, .bool (!((r_45.1.Lo == r_50.1.Lo) && ((r_45.1.Hi == r_50.1.Hi) && true)))), (180, .bool (!((r_45.1.Lo == r_50.1.Lo) && ((r_45.1.Hi == r_50.1.Hi) && true)))), (181, .bool false), (182, i6 r_45.2), (183, i6 r_50.2), (184, .bool (r_45.2 != r_50.2)), (185, .bool (r_45.2 != r_50.2)), (186, .bool true), (187, .tup []), (188, .tup []), (189, .tup []), (190, .tup []), (191, .bool true), (192, .bool true), (193, .tup []), (194, .tup []), (195, .tup []), (196, .tup []), (197, .tup []), (198, .tup []), (199, .tup []), (200, .bool true), (201, .bool true), (202, .tup []), (203, .tup []), (204, .tup []), (205, .tup []), (206, .tup [])]) (mkS 211 [(15, .sl (([x_1, r_14.1, r_14.1, r_14.1] : List T_Float).map A_Float) (some 0)), (16, .sl (([route_2, r_15.1, l_18, route_2] : List (List T_Hurdle)).map (SV A_Hurdle)) (some 1)), (17, .sl (([at_4, r_19.1, at_4, at_4] : List Int).map (AV.int .i64)) (some 2)), (18, i6 i_24), (209, .bool true)]) (by kernel_rfl) (by kernel_rfl) ⟨hcl_87, LGet.of hx_57 rfl, hcl_88, congrArg AV.bool hc_59, congrArg AV.bool hc_64, congrArg AV.bool hc_69, congrArg AV.bool hc_74, congrArg AV.bool hc_79, congrArg AV.bool hc_84, trivial⟩ (by kernel_rfl) trivial ?_
                    (try simp only [reduceCtorEq, AEx.ex.injEq, Nat.reduceEqDiff, if_true, if_false])
                    exact ⟨_, _, forgetA (m := 211) 0 [0, 1, 2] [(15, .sl (([x_1, r_14.1, r_14.1, r_14.1] : List T_Float).map A_Float) (some 0)), (16, .sl (([route_2, r_15.1, l_18, route_2] : List (List T_Hurdle)).map (SV A_Hurdle)) (some 1)), (17, .sl (([at_4, r_19.1, at_4, at_4] : List Int).map (AV.int .i64)) (some 2)), (18, i6 i_24), (209, .bool true)] [] [(4, 9), (4, 1), (4, 1)] (by simp) (by simp) ⟨(reT (KL_Float _) rfl), (reT (cleanM (fun _ => (by simp only [SV, AV.clean]; exact (KL_Hurdle _))) _) rfl), (reT (cleanI _ _) rfl), rfl, rfl, trivial⟩ (by simp) rfl (by decide), true, h, rfl, rfl⟩
                   ·obtain ⟨r_89, hr_89, h⟩ := bE h
                    rcases condI h with ⟨hc_90, h⟩ | ⟨hc_90, h⟩
                    ·have hT_92 : DoesA Try.prog [⟨32, [.sl (r_32.map A_Hurdle) none], [], (v_float_CheckRoute r_56), []⟩, ⟨33, [.sl (x_57.map A_Hurdle) none], [], (v_br2_CheckRoute r_58), []⟩, ⟨34, [.sl (r_34.1.map (AV.int .i64)) none, .sl (r_37.1.map (AV.int .i64)) none], [], (v_bk_EqInts r_89), []⟩] ∧ ConsA [⟨32, [.sl (r_32.map A_Hurdle) none], [], (v_float_CheckRoute r_56), []⟩, ⟨33, [.sl (x_57.map A_Hurdle) none], [], (v_br2_CheckRoute r_58), []⟩, ⟨34, [.sl (r_34.1.map (AV.int .i64)) none, .sl (r_37.1.map (AV.int .i64)) none], [], (v_bk_EqInts r_89), []⟩] := ⟨⟨(d_float_CheckRoute N r_32 r_56 hr_56), rfl, (d_br2_CheckRoute N x_57 r_58 hr_58), rfl, (d_bk_EqInts N r_34.1 r_37.1 r_89 hr_89), rfl, trivial⟩, ⟨⟨ConsR.ne rfl, ConsR.ne rfl, trivial⟩, ⟨ConsR.ne rfl, trivial⟩, trivial, trivial⟩⟩
                     obtain ⟨X_91, hX_91, hcl_93, hcl_94, hcl_95⟩ : ∃ X : Clr, ClrOk Try.prog X ∧ X 32 [.sl (r_32.map A_Hurdle) none] ⟨[(C_Float r_30), (C_Span r_45.1), (C_Span r_50.1)], [(4, 9), (4, 1), (4, 1)]⟩ = some (v_float_CheckRoute r_56, none) ∧ X 33 [.sl (x_57.map A_Hurdle) none] ⟨[(C_Float r_30), (C_Span r_45.1), (C_Span r_50.1)], [(4, 9), (4, 1), (4, 1)]⟩ = some (v_br2_CheckRoute r_58, none) ∧ X 34 [.sl (r_34.1.map (AV.int .i64)) none, .sl (r_37.1.map (AV.int .i64)) none] ⟨[(C_Float r_30), (C_Span r_45.1), (C_Span r_50.1)], [(4, 9), (4, 1), (4, 1)]⟩ = some (v_bk_EqInts r_89, none) := ⟨_, tabO_ok hT_92.1, tabO_pure hT_92.2 0 _ [.sl (r_32.map A_Hurdle) none] _ rfl rfl rfl rfl (by simp; try rfl) (fun _ => b_float_CheckRoute _ _ _ _), tabO_pure hT_92.2 1 _ [.sl (x_57.map A_Hurdle) none] _ rfl rfl rfl rfl (by simp; try rfl) (fun _ => b_br2_CheckRoute _ _ _ _), tabO_pure hT_92.2 2 _ [.sl (r_34.1.map (AV.int .i64)) none, .sl (r_37.1.map (AV.int .i64)) none] _ rfl rfl rfl rfl (by simp; try rfl) (fun _ => b_bk_EqInts _ _ _ _)⟩
                     refine dregX hX_91 [(1, .cl (v_float_CheckRoute r_56)), (4, .rop [.sl (x_57.map A_Hurdle) none]), (6, .cl (v_br2_CheckRoute r_58)), (8, .eq (.bool false)), (13, .eq (.bool false)), (18, .eq (.bool false)), (23, .eq (.bool false)), (28, .eq (.bool false)), (33, .eq (.bool false)), (36, .cl (v_bk_EqInts r_89)), (39, .eq (.bool true))] [] [15, 16, 17, 18, 209] [X_91 32 [.sl (r_32.map A_Hurdle) none] ⟨[(C_Float r_30), (C_Span r_45.1), (C_Span r_50.1)], [(4, 9), (4, 1), (4, 1)]⟩ = some (v_float_CheckRoute r_56, none), LGet (([route_2, r_15.1, l_18, route_2] : List (List T_Hurdle)).map (SV A_Hurdle)) i_24 1 [.sl (x_57.map A_Hurdle) none], X_91 33 [.sl (x_57.map A_Hurdle) none] ⟨[(C_Float r_30), (C_Span r_45.1), (C_Span r_50.1)], [(4, 9), (4, 1), (4, 1)]⟩ = some (v_br2_CheckRoute r_58, none), AV.bool (r_56 != r_58) = AV.bool false, AV.bool (r_34.2 != r_37.2) = AV.bool false, AV.bool (r_39.1 != r_42.1) = AV.bool false, AV.bool (r_39.2 != r_42.2) = AV.bool false, AV.bool (!((r_45.1.Lo == r_50.1.Lo) && ((r_45.1.Hi == r_50.1.Hi) && true))) = AV.bool false, AV.bool (r_45.2 != r_50.2) = AV.bool false, X_91 34 [.sl (r_34.1.map (AV.int .i64)) none, .sl (r_37.1.map (AV.int .i64)) none] ⟨[(C_Float r_30), (C_Span r_45.1), (C_Span r_50.1)], [(4, 9), (4, 1), (4, 1)]⟩ = some (v_bk_EqInts r_89, none), AV.bool (!r_89) = AV.bool true] [] (mkS 211 [(15, .sl (([x_1, r_14.1, r_14.1, r_14.1] : List T_Float).map A_Float) (some 0)), (16, .sl (([route_2, r_15.1, l_18, route_2] : List (List T_Hurdle)).map (SV A_Hurdle)) (some 1)), (17, .sl (([at_4, r_19.1, at_4, at_4] : List Int).map (AV.int .i64)) (some 2)), (18, i6 i_24), (19, .ptr 0 0), (20, .sl (r_32.map A_Hurdle) none), (21, .sl (r_34.1.map (AV.int .i64)) none), (22, i6 r_34.2), (23, .sl (r_37.1.map (AV.int .i64)) none), (24, i6 r_37.2), (25, i6 r_39.1), (26, i6 r_39.2), (27, i6 r_42.1), (28, i6 r_42.2), (29, .ptr 1 0), (30, i6 r_45.2), (31, .ptr 2 0), (32, i6 r_50.2), (153, .sl (r_32.map A_Hurdle) none), (154, i6 r_56), (155, .sl (([route_2, r_15.1, l_18, route_2] : List (List T_Hurdle)).map (SV A_Hurdle)) (some 1)), (156, i6 i_24), (157, .rop [.sl (x_57.map A_Hurdle) none]), (158, .sl (x_57.map A_Hurdle) none), (159, i6 r_58), (160, .bool (r_56 != r_58)), (161, .bool false), (162, i6 r_34.2), (163, i6 r_37.2), (164, .bool (r_34.2 != r_37.2)), (165, .bool (r_34.2 != r_37.2)), (166, .bool false), (167, i6 r_39.1), (168, i6 r_42.1), (169, .bool (r_39.1 != r_42.1)), (170, .bool (r_39.1 != r_42.1)), (171, .bool false), (172, i6 r_39.2), (173, i6 r_42.2), (174, .bool (r_39.2 != r_42.2)), (175, .bool (r_39.2 != r_42.2)), (176, .bool false), (177, (A_Span r_45.1)), (178, (A_Span r_50.1)), (179, .bool (!((r_45.1.Lo == r_50.1.Lo) && ((r_45.1.Hi == r_50.1.Hi) && true)))), (180, .bool (!((r_45.1.Lo == r_50.1.Lo) && ((r_45.1.Hi == r_50.1.Hi) && true)))), (181, .bool false), (182, i6 r_45.2), (183, i6 r_50.2), (184, .bool (r_45.2 != r_50.2)), (185, .bool (r_45.2 != r_50.2)), (186, .bool false), (187, .sl (r_34.1.map (AV.int .i64)) none), (188, .sl (r_37.1.map (AV.int .i64)) none), (189, .bool r_89), (190, .bool (!r_89)), (191, .bool (!r_89)), (192, .bool true), (193, .tup []), (194, .tup []), (195, .tup []), (196, .tup []), (197, .tup []), (198, .tup []), (199, .tup []), (200, .bool true), (201, .bool true), (202, .tup []), (203, .tup []), (204, .tup []), (205, .tup []), (206, .tup [])]) (mkS 211 [(15, .sl (([x_1, r_14.1, r_14.1, r_14.1] : List T_Float).map A_Float) (some 0)), (16, .sl (([route_2, r_15.1, l_18, route_2] : List (List T_Hurdle)).map (SV A_Hurdle)) (some 1)), (17, .sl (([at_4, r_19.1, at_4, at_4] : List Int).map (AV.int .i64)) (some 2)), (18, i6 i_24), (209, .bool true)]) (by kernel_rfl) (by kernel_rfl) ⟨hcl_93, LGet.of hx_57 rfl, hcl_94, congrArg AV.bool hc_59, congrArg AV.bool hc_64, congrArg AV.bool hc_69, congrArg AV.bool hc_74, congrArg AV.bool hc_79, congrArg AV.bool hc_84, hcl_95, congrArg AV.bool hc_90, trivial⟩ (by kernel_rfl) trivial ?_
                     (try simp only [reduceCtorEq, AEx.ex.injEq, Nat.reduceEqDiff, if_true, if_false])
                     exact ⟨_, _, forgetA (m := 211) 0 [0, 1, 2] [(15, .sl (([x_1, r_14.1, r_14.1, r_14.1] : List T_Float).map A_Float) (some 0)), (16, .sl (([route_2, r_15.1, l_18, route_2] : List (List T_Hurdle)).map (SV A_Hurdle)) (some 1)), (17, .sl (([at_4, r_19.1, at_4, at_4] : List Int).map (AV.int .i64)) (some 2)), (18, i6 i_24), (209, .bool true)] [] [(4, 9), (4, 1), (4, 1)] (by simp) (by simp) ⟨(reT (KL_Float _) rfl), (reT (cleanM (fun _ => (by simp only [SV, AV.clean]; exact (KL_Hurdle _))) _) rfl), (reT (cleanI _ _) rfl), rfl, rfl, trivial⟩ (by simp) rfl (by decide), true, h, rfl, rfl⟩
                    ·obtain ⟨x_96, hx_96, h⟩ := bE h
                     obtain ⟨r_97, hr_97, h⟩ := bE h
                     rcases condI h with ⟨hc_98, h⟩ | ⟨hc_98, h⟩
                     ·have hT_100 : DoesA Try.prog [⟨32, [.sl (r_32.map A_Hurdle) none], [], (v_float_CheckRoute r_56), []⟩, ⟨33, [.sl (x_57.map A_Hurdle) none], [], (v_br2_CheckRoute r_58), []⟩, ⟨34, [.sl (r_34.1.map (AV.int .i64)) none, .sl (r_37.1.map (AV.int .i64)) none], [], (v_bk_EqInts r_89), []⟩, ⟨22, [(A_Float r_30), (A_Float x_96)], [], (v_bk_EqFloats r_97), []⟩] ∧ ConsA [⟨32, [.sl (r_32.map A_Hurdle) none], [], (v_float_CheckRoute r_56), []⟩, ⟨33, [.sl (x_57.map A_Hurdle) none], [], (v_br2_CheckRoute r_58), []⟩, ⟨34, [.sl (r_34.1.map (AV.int .i64)) none, .sl (r_37.1.map (AV.int .i64)) none], [], (v_bk_EqInts r_89), []⟩, ⟨22, [(A_Float r_30), (A_Float x_96)], [], (v_bk_EqFloats r_97), []⟩] := ⟨⟨(d_float_CheckRoute N r_32 r_56 hr_56), rfl, (d_br2_CheckRoute N x_57 r_58 hr_58), rfl, (d_bk_EqInts N r_34.1 r_37.1 r_89 hr_89), rfl, (d_bk_EqFloats N r_30 x_96 r_97 hr_97), rfl, trivial⟩, ⟨⟨ConsR.ne rfl, ConsR.ne rfl, ConsR.ne rfl, trivial⟩, ⟨ConsR.ne rfl, ConsR.ne rfl, trivial⟩, ⟨ConsR.ne rfl, trivial⟩, trivial, trivial⟩⟩
                      obtain ⟨X_99, hX_99, hcl_101, hcl_102, hcl_103, hcl_104⟩ : ∃ X : Clr, ClrOk Try.prog X ∧ X 32 [.sl (r_32.map A_Hurdle) none] ⟨[(C_Float r_30), (C_Span r_45.1), (C_Span r_50.1)], [(4, 9), (4, 1), (4, 1)]⟩ = some (v_float_CheckRoute r_56, none) ∧ X 33 [.sl (x_57.map A_Hurdle) none] ⟨[(C_Float r_30), (C_Span r_45.1), (C_Span r_50.1)], [(4, 9), (4, 1), (4, 1)]⟩ = some (v_br2_CheckRoute r_58, none) ∧ X 34 [.sl (r_34.1.map (AV.int .i64)) none, .sl (r_37.1.map (AV.int .i64)) none] ⟨[(C_Float r_30), (C_Span r_45.1), (C_Span r_50.1)], [(4, 9), (4, 1), (4, 1)]⟩ = some (v_bk_EqInts r_89, none) ∧ X 22 [(A_Float r_30), (A_Float x_96)] ⟨[(C_Float r_30), (C_Span r_45.1), (C_Span r_50.1)], [(4, 9), (4, 1), (4, 1)]⟩ = some (v_bk_EqFloats r_97, none) := ⟨_, tabO_ok hT_100.1, tabO_pure hT_100.2 0 _ [.sl (r_32.map A_Hurdle) none] _ rfl rfl rfl rfl (by simp; try rfl) (fun _ => b_float_CheckRoute _ _ _ _), tabO_pure hT_100.2 1 _ [.sl (x_57.map A_Hurdle) none] _ rfl rfl rfl rfl (by simp; try rfl) (fun _ => b_br2_CheckRoute _ _ _ _), tabO_pure hT_100.2 2 _ [.sl (r_34.1.map (AV.int .i64)) none, .sl (r_37.1.map (AV.int .i64)) none] _ rfl rfl rfl rfl (by simp; try rfl) (fun _ => b_bk_EqInts _ _ _ _), tabO_pure hT_100.2 3 _ [(A_Float r_30), (A_Float x_96)] _ rfl rfl rfl rfl (by simp; try rfl) (fun _ => b_bk_EqFloats _ _ _ _)⟩
                      refine dregX hX_99 [(1, .cl (v_float_CheckRoute r_56)), (4, .rop [.sl (x_57.map A_Hurdle) none]), (6, .cl (v_br2_CheckRoute r_58)), (8, .eq (.bool false)), (13, .eq (.bool false)), (18, .eq (.bool false)), (23, .eq (.bool false)), (28, .eq (.bool false)), (33, .eq (.bool false)), (36, .cl (v_bk_EqInts r_89)), (39, .eq (.bool false)), (43, .rop (C_Float x_96)), (45, .cl (v_bk_EqFloats r_97)), (48, .eq (.bool true))] [] [15, 16, 17, 18, 209] [X_99 32 [.sl (r_32.map A_Hurdle) none] ⟨[(C_Float r_30), (C_Span r_45.1), (C_Span r_50.1)], [(4, 9), (4, 1), (4, 1)]⟩ = some (v_float_CheckRoute r_56, none), LGet (([route_2, r_15.1, l_18, route_2] : List (List T_Hurdle)).map (SV A_Hurdle)) i_24 1 [.sl (x_57.map A_Hurdle) none], X_99 33 [.sl (x_57.map A_Hurdle) none] ⟨[(C_Float r_30), (C_Span r_45.1), (C_Span r_50.1)], [(4, 9), (4, 1), (4, 1)]⟩ = some (v_br2_CheckRoute r_58, none), AV.bool (r_56 != r_58) = AV.bool false, AV.bool (r_34.2 != r_37.2) = AV.bool false, AV.bool (r_39.1 != r_42.1) = AV.bool false, AV.bool (r_39.2 != r_42.2) = AV.bool false, AV.bool (!((r_45.1.Lo == r_50.1.Lo) && ((r_45.1.Hi == r_50.1.Hi) && true))) = AV.bool false, AV.bool (r_45.2 != r_50.2) = AV.bool false, X_99 34 [.sl (r_34.1.map (AV.int .i64)) none, .sl (r_37.1.map (AV.int .i64)) none] ⟨[(C_Float r_30), (C_Span r_45.1), (C_Span r_50.1)], [(4, 9), (4, 1), (4, 1)]⟩ = some (v_bk_EqInts r_89, none), AV.bool (!r_89) = AV.bool false, LGet (([x_1, r_14.1, r_14.1, r_14.1] : List T_Float).map A_Float) i_24 9 (C_Float x_96), X_99 22 [(A_Float r_30), (A_Float x_96)] ⟨[(C_Float r_30), (C_Span r_45.1), (C_Span r_50.1)], [(4, 9), (4, 1), (4, 1)]⟩ = some (v_bk_EqFloats r_97, none), AV.bool (!r_97) = AV.bool true] [] (mkS 211 [(15, .sl (([x_1, r_14.1, r_14.1, r_14.1] : List T_Float).map A_Float) (some 0)), (16, .sl (([route_2, r_15.1, l_18, route_2] : List (List T_Hurdle)).map (SV A_Hurdle)) (some 1)), (17, .sl (([at_4, r_19.1, at_4, at_4] : List Int).map (AV.int .i64)) (some 2)), (18, i6 i_24), (19, .ptr 0 0), (20, .sl (r_32.map A_Hurdle) none), (21, .sl (r_34.1.map (AV.int .i64)) none), (22, i6 r_34.2), (23, .sl (r_37.1.map (AV.int .i64)) none), (24, i6 r_37.2), (25, i6 r_39.1), (26, i6 r_39.2), (27, i6 r_42.1), (28, i6 r_42.2), (29, .ptr 1 0), (30, i6 r_45.2), (31, .ptr 2 0), (32, i6 r_50.2), (153, .sl (r_32.map A_Hurdle) none), (154, i6 r_56), (155, .sl (([route_2, r_15.1, l_18, route_2] : List (List T_Hurdle)).map (SV A_Hurdle)) (some 1)), (156, i6 i_24), (157, .rop [.sl (x_57.map A_Hurdle) none]), (158, .sl (x_57.map A_Hurdle) none), (159, i6 r_58), (160, .bool (r_56 != r_58)), (161, .bool false), (162, i6 r_34.2), (163, i6 r_37.2), (164, .bool (r_34.2 != r_37.2)), (165, .bool (r_34.2 != r_37.2)), (166, .bool false), (167, i6 r_39.1), (168, i6 r_42.1), (169, .bool (r_39.1 != r_42.1)), (170, .bool (r_39.1 != r_42.1)), (171, .bool false), (172, i6 r_39.2), (173, i6 r_42.2), (174, .bool (r_39.2 != r_42.2)), (175, .bool (r_39.2 != r_42.2)), (176, .bool false), (177, (A_Span r_45.1)), (178, (A_Span r_50.1)), (179, .bool (!((r_45.1.Lo == r_50.1.Lo) && ((r_45.1.Hi == r_50.1.Hi) && true)))), (180, .bool (!((r_45.1.Lo == r_50.1.Lo) && ((r_45.1.Hi == r_50.1.Hi) && true)))), (181, .bool false), (182, i6 r_45.2), (183, i6 r_50.2), (184, .bool (r_45.2 != r_50.2)), (185, .bool (r_45.2 != r_50.2)), (186, .bool false), (187, .sl (r_34.1.map (AV.int .i64)) none), (188, .sl (r_37.1.map (AV.int .i64)) none), (189, .bool r_89), (190, .bool (!r_89)), (191, .bool (!r_89)), (192, .bool false), (193, (A_Float r_30)), (194, .sl (([x_1, r_14.1, r_14.1, r_14.1] : List T_Float).map A_Float) (some 0)), (195, i6 i_24), (196, .rop (C_Float x_96)), (197, (A_Float x_96)), (198, .bool r_97), (199, .bool (!r_97)), (200, .bool (!r_97)), (201, .bool true), (202, .tup []), (203, .tup []), (204, .tup []), (205, .tup []), (206, .tup [])]) (mkS 211 [(15, .sl (([x_1, r_14.1, r_14.1, r_14.1] : List T_Float).map A_Float) (some 0)), (16, .sl (([route_2, r_15.1, l_18, route_2] : List (List T_Hurdle)).map (SV A_Hurdle)) (some 1)), (17, .sl (([at_4, r_19.1, at_4, at_4] : List Int).map (AV.int .i64)) (some 2)), (18, i6 i_24), (209, .bool true)]) (by kernel_rfl) (by kernel_rfl) ⟨hcl_101, LGet.of hx_57 rfl, hcl_102, congrArg AV.bool hc_59, congrArg AV.bool hc_64, congrArg AV.bool hc_69, congrArg AV.bool hc_74, congrArg AV.bool hc_79, congrArg AV.bool hc_84, hcl_103, congrArg AV.bool hc_90, LGet.of hx_96 rfl, hcl_104, congrArg AV.bool hc_98, trivial⟩ (by kernel_rfl) trivial ?_
                      (try simp only [reduceCtorEq, AEx.ex.injEq, Nat.reduceEqDiff, if_true, if_false])
                      exact ⟨_, _, forgetA (m := 211) 0 [0, 1, 2] [(15, .sl (([x_1, r_14.1, r_14.1, r_14.1] : List T_Float).map A_Float) (some 0)), (16, .sl (([route_2, r_15.1, l_18, route_2] : List (List T_Hurdle)).map (SV A_Hurdle)) (some 1)), (17, .sl (([at_4, r_19.1, at_4, at_4] : List Int).map (AV.int .i64)) (some 2)), (18, i6 i_24), (209, .bool true)] [] [(4, 9), (4, 1), (4, 1)] (by simp) (by simp) ⟨(reT (KL_Float _) rfl), (reT (cleanM (fun _ => (by simp only [SV, AV.clean]; exact (KL_Hurdle _))) _) rfl), (reT (cleanI _ _) rfl), rfl, rfl, trivial⟩ (by simp) rfl (by decide), true, h, rfl, rfl⟩
                     ·obtain ⟨x_105, hx_105, h⟩ := bE h
                      have hT_106 : DoesA Try.prog [⟨32, [.sl (r_32.map A_Hurdle) none], [], (v_float_CheckRoute r_56), []⟩, ⟨33, [.sl (x_57.map A_Hurdle) none], [], (v_br2_CheckRoute r_58), []⟩, ⟨34, [.sl (r_34.1.map (AV.int .i64)) none, .sl (r_37.1.map (AV.int .i64)) none], [], (v_bk_EqInts r_89), []⟩, ⟨22, [(A_Float r_30), (A_Float x_96)], [], (v_bk_EqFloats r_97), []⟩] ∧ ConsA [⟨32, [.sl (r_32.map A_Hurdle) none], [], (v_float_CheckRoute r_56), []⟩, ⟨33, [.sl (x_57.map A_Hurdle) none], [], (v_br2_CheckRoute r_58), []⟩, ⟨34, [.sl (r_34.1.map (AV.int .i64)) none, .sl (r_37.1.map (AV.int .i64)) none], [], (v_bk_EqInts r_89), []⟩, ⟨22, [(A_Float r_30), (A_Float x_96)], [], (v_bk_EqFloats r_97), []⟩] := ⟨⟨(d_float_CheckRoute N r_32 r_56 hr_56), rfl, (d_br2_CheckRoute N x_57 r_58 hr_58), rfl, (d_bk_EqInts N r_34.1 r_37.1 r_89 hr_89), rfl, (d_bk_EqFloats N r_30 x_96 r_97 hr_97), rfl, trivial⟩, ⟨⟨ConsR.ne rfl, ConsR.ne rfl, ConsR.ne rfl, trivial⟩, ⟨ConsR.ne rfl, ConsR.ne rfl, trivial⟩, ⟨ConsR.ne rfl, trivial⟩, trivial, trivial⟩⟩
                      refine Ex.drawE (a1 := mkS 211 [(15, .sl (([x_1, r_14.1, r_14.1, r_14.1] : List T_Float).map A_Float) (some 0)), (16, .sl (([route_2, r_15.1, l_18, route_2] : List (List T_Hurdle)).map (SV A_Hurdle)) (some 1)), (17, .sl (([at_4, r_19.1, at_4, at_4] : List Int).map (AV.int .i64)) (some 2)), (18, i6 i_24), (19, .ptr 0 0), (20, .sl (r_32.map A_Hurdle) none), (21, .sl (r_34.1.map (AV.int .i64)) none), (22, i6 r_34.2), (23, .sl (r_37.1.map (AV.int .i64)) none), (24, i6 r_37.2), (25, i6 r_39.1), (26, i6 r_39.2), (27, i6 r_42.1), (28, i6 r_42.2), (29, .ptr 1 0), (30, i6 r_45.2), (31, .ptr 2 0), (32, i6 r_50.2), (153, .sl (r_32.map A_Hurdle) none), (154, i6 r_56), (155, .sl (([route_2, r_15.1, l_18, route_2] : List (List T_Hurdle)).map (SV A_Hurdle)) (some 1)), (156, i6 i_24), (157, .rop [.sl (x_57.map A_Hurdle) none]), (158, .sl (x_57.map A_Hurdle) none), (159, i6 r_58), (160, .bool (r_56 != r_58)), (161, .bool false), (162, i6 r_34.2), (163, i6 r_37.2), (164, .bool (r_34.2 != r_37.2)), (165, .bool (r_34.2 != r_37.2)), (166, .bool false), (167, i6 r_39.1), (168, i6 r_42.1), (169, .bool (r_39.1 != r_42.1)), (170, .bool (r_39.1 != r_42.1)), (171, .bool false), (172, i6 r_39.2), (173, i6 r_42.2), (174, .bool (r_39.2 != r_42.2)), (175, .bool (r_39.2 != r_42.2)), (176, .bool false), (177, (A_Span r_45.1)), (178, (A_Span r_50.1)), (179, .bool (!((r_45.1.Lo == r_50.1.Lo) && ((r_45.1.Hi == r_50.1.Hi) && true)))), (180, .bool (!((r_45.1.Lo == r_50.1.Lo) && ((r_45.1.Hi == r_50.1.Hi) && true)))), (181, .bool false), (182, i6 r_45.2), (183, i6 r_50.2), (184, .bool (r_45.2 != r_50.2)), (185, .bool (r_45.2 != r_50.2)), (186, .bool false), (187, .sl (r_34.1.map (AV.int .i64)) none), (188, .sl (r_37.1.map (AV.int .i64)) none), (189, .bool r_89), (190, .bool (!r_89)), (191, .bool (!r_89)), (192, .bool false), (193, (A_Float r_30)), (194, .sl (([x_1, r_14.1, r_14.1, r_14.1] : List T_Float).map A_Float) (some 0)), (195, i6 i_24), (196, .rop (C_Float x_96)), (197, (A_Float x_96)), (198, .bool r_97), (199, .bool (!r_97)), (200, .bool (!r_97)), (201, .bool false), (202, .sl (r_32.map A_Hurdle) none), (203, .sl (([route_2, r_15.1, l_18, route_2] : List (List T_Hurdle)).map (SV A_Hurdle)) (some 1)), (204, i6 i_24), (205, .rop [.sl (x_105.map A_Hurdle) none]), (206, .sl (x_105.map A_Hurdle) none)]) (tabO_ok hT_106.1) [] [] [] ?_ ?_
                      ·refine drS [0, 1, 2] 1 [] [] (mkS 211 [(15, .sl (([x_1, r_14.1, r_14.1, r_14.1] : List T_Float).map A_Float) (some 0)), (16, .sl (([route_2, r_15.1, l_18, route_2] : List (List T_Hurdle)).map (SV A_Hurdle)) (some 1)), (17, .sl (([at_4, r_19.1, at_4, at_4] : List Int).map (AV.int .i64)) (some 2)), (18, i6 i_24), (19, .ptr 0 0), (20, .sl (r_32.map A_Hurdle) none), (21, .sl (r_34.1.map (AV.int .i64)) none), (22, i6 r_34.2), (23, .sl (r_37.1.map (AV.int .i64)) none), (24, i6 r_37.2), (25, i6 r_39.1), (26, i6 r_39.2), (27, i6 r_42.1), (28, i6 r_42.2), (29, .ptr 1 0), (30, i6 r_45.2), (31, .ptr 2 0), (32, i6 r_50.2), (153, .sl (r_32.map A_Hurdle) none)]) (by simp) (by kernel_rfl) trivial (by kernel_rfl) ?_
                       refine drC hT_106.2 0 _ [.sl (r_32.map A_Hurdle) none] (v_float_CheckRoute r_56) rfl rfl rfl rfl rfl (fun _ => rfl) rfl (by simp; try rfl) (fun _ => b_float_CheckRoute _ _ _ _) ?_
                       refine drS [0, 1, 2] 4 [(2, .rop [.sl (x_57.map A_Hurdle) none])] [LGet (([route_2, r_15.1, l_18, route_2] : List (List T_Hurdle)).map (SV A_Hurdle)) i_24 1 [.sl (x_57.map A_Hurdle) none]] (mkS 211 [(15, .sl (([x_1, r_14.1, r_14.1, r_14.1] : List T_Float).map A_Float) (some 0)), (16, .sl (([route_2, r_15.1, l_18, route_2] : List (List T_Hurdle)).map (SV A_Hurdle)) (some 1)), (17, .sl (([at_4, r_19.1, at_4, at_4] : List Int).map (AV.int .i64)) (some 2)), (18, i6 i_24), (19, .ptr 0 0), (20, .sl (r_32.map A_Hurdle) none), (21, .sl (r_34.1.map (AV.int .i64)) none), (22, i6 r_34.2), (23, .sl (r_37.1.map (AV.int .i64)) none), (24, i6 r_37.2), (25, i6 r_39.1), (26, i6 r_39.2), (27, i6 r_42.1), (28, i6 r_42.2), (29, .ptr 1 0), (30, i6 r_45.2), (31, .ptr 2 0), (32, i6 r_50.2), (153, .sl (r_32.map A_Hurdle) none), (154, i6 r_56), (155, .sl (([route_2, r_15.1, l_18, route_2] : List (List T_Hurdle)).map (SV A_Hurdle)) (some 1)), (156, i6 i_24), (157, .rop [.sl (x_57.map A_Hurdle) none]), (158, .sl (x_57.map A_Hurdle) none)]) (by simp) (by kernel_rfl) ⟨LGet.of hx_57 rfl, trivial⟩ (by kernel_rfl) ?_
                       refine drC hT_106.2 1 _ [.sl (x_57.map A_Hurdle) none] (v_br2_CheckRoute r_58) rfl rfl rfl rfl rfl (fun _ => rfl) rfl (by simp; try rfl) (fun _ => b_br2_CheckRoute _ _ _ _) ?_
                       refine drS [0, 1, 2] 29 [(1, .eq (.bool false)), (6, .eq (.bool false)), (11, .eq (.bool false)), (16, .eq (.bool false)), (21, .eq (.bool false)), (26, .eq (.bool false))] [AV.bool (r_56 != r_58) = AV.bool false, AV.bool (r_34.2 != r_37.2) = AV.bool false, AV.bool (r_39.1 != r_42.1) = AV.bool false, AV.bool (r_39.2 != r_42.2) = AV.bool false, AV.bool (!((r_45.1.Lo == r_50.1.Lo) && ((r_45.1.Hi == r_50.1.Hi) && true))) = AV.bool false, AV.bool (r_45.2 != r_50.2) = AV.bool false] (mkS 211 [(15, .sl (([x_1, r_14.1, r_14.1, r_14.1] : List T_Float).map A_Float) (some 0)), (16, .sl (([route_2, r_15.1, l_18, route_2] : List (List T_Hurdle)).map (SV A_Hurdle)) (some 1)), (17, .sl (([at_4, r_19.1, at_4, at_4] : List Int).map (AV.int .i64)) (some 2)), (18, i6 i_24), (19, .ptr 0 0), (20, .sl (r_32.map A_Hurdle) none), (21, .sl (r_34.1.map (AV.int .i64)) none), (22, i6 r_34.2), (23, .sl (r_37.1.map (AV.int .i64)) none), (24, i6 r_37.2), (25, i6 r_39.1), (26, i6 r_39.2), (27, i6 r_42.1), (28, i6 r_42.2), (29, .ptr 1 0), (30, i6 r_45.2), (31, .ptr 2 0), (32, i6 r_50.2), (153, .sl (r_32.map A_Hurdle) none), (154, i6 r_56), (155, .sl (([route_2, r_15.1, l_18, route_2] : List (List T_Hurdle)).map (SV A_Hurdle)) (some 1)), (156, i6 i_24), (157, .rop [.sl (x_57.map A_Hurdle) none]), (158, .sl (x_57.map A_Hurdle) none), (159, i6 r_58), (160, .bool (r_56 != r_58)), (161, .bool false), (162, i6 r_34.2), (163, i6 r_37.2), (164, .bool (r_34.2 != r_37.2)), (165, .bool (r_34.2 != r_37.2)), (166, .bool false), (167, i6 r_39.1), (168, i6 r_42.1), (169, .bool (r_39.1 != r_42.1)), (170, .bool (r_39.1 != r_42.1)), (171, .bool false), (172, i6 r_39.2), (173, i6 r_42.2), (174, .bool (r_39.2 != r_42.2)), (175, .bool (r_39.2 != r_42.2)), (176, .bool false), (177, (A_Span r_45.1)), (178, (A_Span r_50.1)), (179, .bool (!((r_45.1.Lo == r_50.1.Lo) && ((r_45.1.Hi == r_50.1.Hi) && true)))), (180, .bool (!((r_45.1.Lo == r_50.1.Lo) && ((r_45.1.Hi == r_50.1.Hi) && true)))), (181, .bool false), (182, i6 r_45.2), (183, i6 r_50.2), (184, .bool (r_45.2 != r_50.2)), (185, .bool (r_45.2 != r_50.2)), (186, .bool false), (187, .sl (r_34.1.map (AV.int .i64)) none), (188, .sl (r_37.1.map (AV.int .i64)) none)]) (by simp) (by kernel_rfl) ⟨congrArg AV.bool hc_59, congrArg AV.bool hc_64, congrArg AV.bool hc_69, congrArg AV.bool hc_74, congrArg AV.bool hc_79, congrArg AV.bool hc_84, trivial⟩ (by kernel_rfl) ?_
                       refine drC hT_106.2 2 _ [.sl (r_34.1.map (AV.int .i64)) none, .sl (r_37.1.map (AV.int .i64)) none] (v_bk_EqInts r_89) rfl rfl rfl rfl rfl (fun _ => rfl) rfl (by simp; try rfl) (fun _ => b_bk_EqInts _ _ _ _) ?_
                       refine drS [0, 1, 2] 8 [(2, .eq (.bool false)), (6, .rop (C_Float x_96))] [AV.bool (!r_89) = AV.bool false, LGet (([x_1, r_14.1, r_14.1, r_14.1] : List T_Float).map A_Float) i_24 9 (C_Float x_96)] (mkS 211 [(15, .sl (([x_1, r_14.1, r_14.1, r_14.1] : List T_Float).map A_Float) (some 0)), (16, .sl (([route_2, r_15.1, l_18, route_2] : List (List T_Hurdle)).map (SV A_Hurdle)) (some 1)), (17, .sl (([at_4, r_19.1, at_4, at_4] : List Int).map (AV.int .i64)) (some 2)), (18, i6 i_24), (19, .ptr 0 0), (20, .sl (r_32.map A_Hurdle) none), (21, .sl (r_34.1.map (AV.int .i64)) none), (22, i6 r_34.2), (23, .sl (r_37.1.map (AV.int .i64)) none), (24, i6 r_37.2), (25, i6 r_39.1), (26, i6 r_39.2), (27, i6 r_42.1), (28, i6 r_42.2), (29, .ptr 1 0), (30, i6 r_45.2), (31, .ptr 2 0), (32, i6 r_50.2), (153, .sl (r_32.map A_Hurdle) none), (154, i6 r_56), (155, .sl (([route_2, r_15.1, l_18, route_2] : List (List T_Hurdle)).map (SV A_Hurdle)) (some 1)), (156, i6 i_24), (157, .rop [.sl (x_57.map A_Hurdle) none]), (158, .sl (x_57.map A_Hurdle) none), (159, i6 r_58), (160, .bool (r_56 != r_58)), (161, .bool false), (162, i6 r_34.2), (163, i6 r_37.2), (164, .bool (r_34.2 != r_37.2)), (165, .bool (r_34.2 != r_37.2)), (166, .bool false), (167, i6 r_39.1), (168, i6 r_42.1), (169, .bool (r_39.1 != r_42.1)), (170, .bool (r_39.1 != r_42.1)), (171, .bool false), (172, i6 r_39.2), (173, i6 r_42.2), (174, .bool (r_39.2 != r_42.2)), (175, .bool (r_39.2 != r_42.2)), (176, .bool false), (177, (A_Span r_45.1)), (178, (A_Span r_50.1)), (179, .bool (!((r_45.1.Lo == r_50.1.Lo) && ((r_45.1.Hi == r_50.1.Hi) && true)))), (180, .bool (!((r_45.1.Lo == r_50.1.Lo) && ((r_45.1.Hi == r_50.1.Hi) && true)))), (181, .bool false), (182, i6 r_45.2), (183, i6 r_50.2), (184, .bool (r_45.2 != r_50.2)), (185, .bool (r_45.2 != r_50.2)), (186, .bool false), (187, .sl (r_34.1.map (AV.int .i64)) none), (188, .sl (r_37.1.map (AV.int .i64)) none), (189, .bool r_89), (190, .bool (!r_89)), (191, .bool (!r_89)), (192, .bool false), (193, (A_Float r_30)), (194, .sl (([x_1, r_14.1, r_14.1, r_14.1] : List T_Float).map A_Float) (some 0)), (195, i6 i_24), (196, .rop (C_Float x_96)), (197, (A_Float x_96))]) (by simp) (by kernel_rfl) ⟨congrArg AV.bool hc_90, LGet.of hx_96 rfl, trivial⟩ (by kernel_rfl) ?_
                       refine drC hT_106.2 3 _ [(A_Float r_30), (A_Float x_96)] (v_bk_EqFloats r_97) rfl rfl rfl rfl rfl (fun _ => rfl) rfl (by simp; try rfl) (fun _ => b_bk_EqFloats _ _ _ _) ?_
                       refine drS [0, 1, 2] 8 [(2, .eq (.bool false)), (6, .rop [.sl (x_105.map A_Hurdle) none])] [AV.bool (!r_97) = AV.bool false, LGet (([route_2, r_15.1, l_18, route_2] : List (List T_Hurdle)).map (SV A_Hurdle)) i_24 1 [.sl (x_105.map A_Hurdle) none]] (mkS 211 [(15, .sl (([x_1, r_14.1, r_14.1, r_14.1] : List T_Float).map A_Float) (some 0)), (16, .sl (([route_2, r_15.1, l_18, route_2] : List (List T_Hurdle)).map (SV A_Hurdle)) (some 1)), (17, .sl (([at_4, r_19.1, at_4, at_4] : List Int).map (AV.int .i64)) (some 2)), (18, i6 i_24), (19, .ptr 0 0), (20, .sl (r_32.map A_Hurdle) none), (21, .sl (r_34.1.map (AV.int .i64)) none), (22, i6 r_34.2), (23, .sl (r_37.1.map (AV.int .i64)) none), (24, i6 r_37.2), (25, i6 r_39.1), (26, i6 r_39.2), (27, i6 r_42.1), (28, i6 r_42.2), (29, .ptr 1 0), (30, i6 r_45.2), (31, .ptr 2 0), (32, i6 r_50.2), (153, .sl (r_32.map A_Hurdle) none), (154, i6 r_56), (155, .sl (([route_2, r_15.1, l_18, route_2] : List (List T_Hurdle)).map (SV A_Hurdle)) (some 1)), (156, i6 i_24), (157, .rop [.sl (x_57.map A_Hurdle) none]), (158, .sl (x_57.map A_Hurdle) none), (159, i6 r_58), (160, .bool (r_56 != r_58)), (161, .bool false), (162, i6 r_34.2), (163, i6 r_37.2), (164, .bool (r_34.2 != r_37.2)), (165, .bool (r_34.2 != r_37.2)), (166, .bool false), (167, i6 r_39.1), (168, i6 r_42.1), (169, .bool (r_39.1 != r_42.1)), (170, .bool (r_39.1 != r_42.1)), (171, .bool false), (172, i6 r_39.2), (173, i6 r_42.2), (174, .bool (r_39.2 != r_42.2)), (175, .bool (r_39.2 != r_42.2)), (176, .bool false), (177, (A_Span r_45.1)), (178, (A_Span r_50.1)), (179, .bool (!((r_45.1.Lo == r_50.1.Lo) && ((r_45.1.Hi == r_50.1.Hi) && true)))), (180, .bool (!((r_45.1.Lo == r_50.1.Lo) && ((r_45.1.Hi == r_50.1.Hi) && true)))), (181, .bool false), (182, i6 r_45.2), (183, i6 r_50.2), (184, .bool (r_45.2 != r_50.2)), (185, .bool (r_45.2 != r_50.2)), (186, .bool false), (187, .sl (r_34.1.map (AV.int .i64)) none), (188, .sl (r_37.1.map (AV.int .i64)) none), (189, .bool r_89), (190, .bool (!r_89)), (191, .bool (!r_89)), (192, .bool false), (193, (A_Float r_30)), (194, .sl (([x_1, r_14.1, r_14.1, r_14.1] : List T_Float).map A_Float) (some 0)), (195, i6 i_24), (196, .rop (C_Float x_96)), (197, (A_Float x_96)), (198, .bool r_97), (199, .bool (!r_97)), (200, .bool (!r_97)), (201, .bool false), (202, .sl (r_32.map A_Hurdle) none), (203, .sl (([route_2, r_15.1, l_18, route_2] : List (List T_Hurdle)).map (SV A_Hurdle)) (some 1)), (204, i6 i_24), (205, .rop [.sl (x_105.map A_Hurdle) none]), (206, .sl (x_105.map A_Hurdle) none)]) (by simp) (by kernel_rfl) ⟨congrArg AV.bool hc_98, LGet.of hx_105 rfl, trivial⟩ (by kernel_rfl) ?_
                       exact DrO.nil rfl
                      ·dsimp only [List.getLastD_cons, List.getLastD_nil]
                       obtain ⟨r_107, hr_107, h⟩ := bE h
                       refine ExO.callL [] [.sl (r_32.map A_Hurdle) none, .sl (x_105.map A_Hurdle) none] rfl rfl (a_bk_EqRoutes r_32 x_105) rfl rfl (d_bk_EqRoutes N r_32 x_105 r_107 hr_107) (b_bk_EqRoutes _ _ _ _) rfl ?_
                       refine rn 2 [15, 16, 17, 18, 209] (mkS 211 [(15, .sl (([x_1, r_14.1, r_14.1, r_14.1] : List T_Float).map A_Float) (some 0)), (16, .sl (([route_2, r_15.1, l_18, route_2] : List (List T_Hurdle)).map (SV A_Hurdle)) (some 1)), (17, .sl (([at_4, r_19.1, at_4, at_4] : List Int).map (AV.int .i64)) (some 2)), (18, i6 i_24), (209, .bool (!r_107))]) ⟨[(C_Float r_30), (C_Span r_45.1), (C_Span r_50.1)], [(4, 9), (4, 1), (4, 1)]⟩ ?_
                       refine ExO.nil ?_
                       (try simp only [reduceCtorEq, AEx.ex.injEq, Nat.reduceEqDiff, if_true, if_false])
                       exact ⟨_, _, forgetA (m := 211) 0 [0, 1, 2] [(15, .sl (([x_1, r_14.1, r_14.1, r_14.1] : List T_Float).map A_Float) (some 0)), (16, .sl (([route_2, r_15.1, l_18, route_2] : List (List T_Hurdle)).map (SV A_Hurdle)) (some 1)), (17, .sl (([at_4, r_19.1, at_4, at_4] : List Int).map (AV.int .i64)) (some 2)), (18, i6 i_24), (209, .bool (!r_107))] [] [(4, 9), (4, 1), (4, 1)] (by simp) (by simp) ⟨(reT (KL_Float _) rfl), (reT (cleanM (fun _ => (by simp only [SV, AV.clean]; exact (KL_Hurdle _))) _) rfl), (reT (cleanI _ _) rfl), rfl, rfl, trivial⟩ (by simp) rfl (by decide), (!r_107), h, rfl, rfl⟩
             ·rintro a S ⟨y_52, h, rfl, rfl⟩
              subst hK_55
              rcases condI h with ⟨hc_108, h⟩ | ⟨hc_108, h⟩
              ·refine Ex.condT _ rfl hc_108 ?_
               refine Ex.seq (rg 1 [10] (mkS 211 [(10, .bool false)]) ⟨[], [(4, 9), (4, 1), (4, 1)]⟩ ?_)
               refine Ex.ret ?_
               obtain rfl := sJ h
               exact rt (.bool false)
              ·refine Ex.condF _ rfl hc_108 ?_
               refine Ex.skip ?_
               refine rg 3 [15, 16, 17, 18] (mkS 211 [(15, .sl (([x_1, r_14.1, r_14.1, r_14.1] : List T_Float).map A_Float) (some 0)), (16, .sl (([route_2, r_15.1, l_18, route_2] : List (List T_Hurdle)).map (SV A_Hurdle)) (some 1)), (17, .sl (([at_4, r_19.1, at_4, at_4] : List Int).map (AV.int .i64)) (some 2)), (18, i6 (IntKind.i64.wrap (i_24 + 1)))]) ⟨[], [(4, 9), (4, 1), (4, 1)]⟩ ?_
               dsimp only
               exact ⟨_, _, Forgets.refl _ _ _, k, Nat.lt_succ_self k, (IntKind.i64.wrap (i_24 + 1)), h, rfl, rfl⟩
       ·refine Ex.condF _ rfl hc_28 ?_
        refine Ex.exit ?_
        (try simp only [reduceCtorEq, AEx.ex.injEq, Nat.reduceEqDiff, if_true, if_false])
        exact ⟨_, _, forgetA (m := 211) 0 [] [] [] [] (by simp) (by simp) trivial (by simp) rfl (by decide), h, rfl, rfl⟩
     ·rintro a S ⟨h, rfl, rfl⟩
      subst hK_23
      refine Ex.seq ?_
      obtain ⟨r_109, hr_109, h⟩ := bE h
      refine Ex.reg ?_
      refine ExO.callL [] [] rfl rfl (a_bl2_awake) rfl rfl (d_bl2_awake N r_109 hr_109) (b_bl2_awake _ _ _ _) rfl ?_
      refine rn 1 [10] (mkS 211 [(10, .bool r_109)]) ⟨[], []⟩ ?_
      refine ExO.nil ?_
      refine Ex.ret ?_
      obtain rfl := sJ h
      exact rt (.bool r_109)
end Go.Proofs.Ytdmfnhamipmmnaa
end
section
namespace Go.Proofs.Ytdmfnhamipmmnaa
open Go.RowKit
set_option linter.unusedVariables false
set_option linter.unusedSimpArgs false
set_option maxRecDepth 10000
set_option maxHeartbeats 4000000

theorem ownRoute_t (N : Nat) (l : List T_Hurdle) (h : l.length ≤ 65536) : p_bk_OwnRoute N l = some l := by
 unfold p_bk_OwnRoute
 rw [pushI_ok (by simpa using h), Option.bind_some]
 rfl
theorem eqRoutes_t (N : Nat) (l : List T_Hurdle) (h : l.length < N) (h2 : l.length < 4611686018427387904) : p_bk_EqRoutes N l l = some true := by
 unfold p_bk_EqRoutes
 simp only [letJ_eq, beq_self_eq_true]
 refine st2z' l.length (fun _ => true) rfl (by omega) ?_ ?_
 ·intro rec
  simp only [ltE, cond_false, cond_true]
 ·intro rec i hi
  simp only [ltD hi, cond_true, getD_ok hi, Option.bind_some, beq_self_eq_true, Bool.and_self, nadd1 i (by omega)]
theorem eqInts_t (N : Nat) (l : List Int) (h : l.length < N) (h2 : l.length < 4611686018427387904) : p_bk_EqInts N l l = some true := by
 unfold p_bk_EqInts
 simp only [letJ_eq, bne_self_eq_false, cond_false]
 refine st1 l.length _ (some true) ?_ ?_ N 0 (by omega) (by omega)
 ·intro rec
  simp only [ltE, cond_false]
 ·intro rec i hi
  simp only [ltD hi, cond_true, getD_ok hi, Option.bind_some, bne_self_eq_false, cond_false, nadd1 i (by omega)]
theorem passes_law (N : Nat) (x : T_Float) (rs : List T_Hurdle) (r : T_Hurdle) (q : Int) (zs : List Int) (hN : zs.length + 200000 ≤ N) (hz : zs.length < 9223372036854775808) : p_bl2_FloatPasses N x rs r q zs = some true := by
 unfold p_bl2_FloatPasses
 rw [letJ_eq]
 dsimp only
 by_cases hx : ((x.Loads.length : Nat) : Int) > 30
 ·rw [show decide (((x.Loads.length : Nat) : Int) > 30) = true from decide_eq_true hx, cond_true]
  rfl
 rw [show decide (((x.Loads.length : Nat) : Int) > 30) = false from decide_eq_false hx, cond_false]
 by_cases hr : ((rs.length : Nat) : Int) > 60
 ·rw [show decide (((rs.length : Nat) : Int) > 60) = true from decide_eq_true hr]
  rfl
 rw [show decide (((rs.length : Nat) : Int) > 60) = false from decide_eq_false hr, cond_false]
 obtain ⟨d2, e⟩ := drumOf_p N zs (by omega) (by omega)
 rw [e, Option.bind_some]; clear e
 obtain ⟨f, d3, e, hf⟩ := floatOf_p N d2 5 (by omega) (by omega) (by omega)
 rw [e, Option.bind_some]; clear e
 dsimp only
 obtain ⟨hs, d4, e, hlen, _⟩ := routeOf_p N (by omega) d3 f hf 5 (by omega) (by omega)
 rw [e, Option.bind_some]; clear e
 dsimp only
 have hn := hf.n; have := hf.ok.f1; have := hf.ok.f2; have := hf.ok.f3; have := hf.ok.l2
 rw [ownRoute_t N hs (by omega), Option.bind_some, pushI_ok (by simp; omega), Option.bind_some]
 obtain ⟨p, d6, e, _⟩ := mid_p N d4 f.Front f.Rear (by omega) (by omega) (by omega) (by omega)
 rw [e, Option.bind_some]; clear e
 dsimp only
 rw [letJ_eq]
 have key : ∀ (y : T_Float) (l : List T_Hurdle) (n : Int), y.Loads.length ≤ 30 → l.length ≤ 60 → ∃ a b c d, p_float_Passes N y l = some a ∧ p_br2_Passes N y l = some a ∧ p_float_Stops N y l = some b ∧ p_br2_Stops N y l = some b ∧ p_float_Ballast N y l n = some c ∧ p_br2_Ballast N y l n = some c ∧ p_float_CheckRoute N l = some d ∧ p_br2_CheckRoute N l = some d ∧ p_bk_EqInts N a.1 a.1 = some true ∧ p_bk_OwnFloat N y = some y ∧ p_bk_OwnRoute N l = some l ∧ p_bk_EqFloats N y y = some true ∧ p_bk_EqRoutes N l l = some true := by
  intro y l n hy hl
  obtain ⟨a, b, c, d, h1, h2, h3, h4, h5, h6, h7, h8, h9⟩ := all_p N (by omega) y l n
  exact ⟨a, b, c, d, h1, h2, h3, h4, h5, h6, h7, h8, eqInts_t N _ (by omega) (by omega), ownFloat_t N y (by omega), ownRoute_t N l (by omega), eqFloats_t N y (by omega) (by omega), eqRoutes_t N l (by omega) (by omega)⟩
 refine st1 4 _ (some true) ?_ ?_ N 0 (by omega) (by omega)
 ·intro rec
  rfl
 ·intro rec i hi
  obtain ⟨y, l, n, hy, hl, g1, g2, g3⟩ : ∃ y l n, y.Loads.length ≤ 30 ∧ l.length ≤ 60 ∧ getI ([x, f, f, f] : List T_Float) (i : Int) = some y ∧ getI ([rs, hs, hs ++ [r], rs] : List (List T_Hurdle)) (i : Int) = some l ∧ getI ([q, p, q, q] : List Int) (i : Int) = some n := by
   match i, hi with
   | 0, _ => exact ⟨x, rs, q, by omega, by omega, rfl, rfl, rfl⟩
   | 1, _ => exact ⟨f, hs, p, by omega, by omega, rfl, rfl, rfl⟩
   | 2, _ => exact ⟨f, hs ++ [r], q, by omega, by simp; omega, rfl, rfl, rfl⟩
   | 3, _ => exact ⟨f, rs, q, by omega, by omega, rfl, rfl, rfl⟩
  obtain ⟨a, b, c, d, h1, h2, h3, h4, h5, h6, h7, h8, h9, h10, h11, h12, h13⟩ := key y l n hy hl
  rw [show decide ((i : Int) < 4) = true from decide_eq_true (by omega), cond_true]
  simp only [g1, g2, g3, Option.bind_some, h1, h2, h3, h4, h5, h6, h7, h8, h9, h10, h11, h12, h13, letJ_eq, bne_self_eq_false, beq_self_eq_true, Bool.and_self, cond_false, Bool.not_true, nadd1 i (by omega)]
theorem passes_m (x : T_Float) (rs : List T_Hurdle) (r : T_Hurdle) (q : Int) (zs : List Int) (h : zs.length < 9223372036854775808) : Does Try.prog 4 [A_Float x, .sl (rs.map A_Hurdle) none, A_Hurdle r, .int .i64 q, .sl (zs.map (AV.int .i64)) none] [] fun v _ => v = .bool true :=
 (d_bl2_FloatPasses _ x rs r q zs true (passes_law _ x rs r q zs (Nat.le_refl _) h)).mono fun v c h => h.1
end Go.Proofs.Ytdmfnhamipmmnaa
end
section
namespace Go.Proofs.Ytdmfnhamipmmnaa
open Go.RowKit Go.ChangeShapes Go.WideShapes Go.Deep
set_option linter.unusedVariables false
set_option linter.unusedSimpArgs false

section
variable {H : Type} {enc : TypeId × Value → H} {W : World} {base : Nat} {spare : Nat → Bool} {held : Bool}

theorem ex_of_len {α : Type} {xs : List α} {n i : Nat} (h : xs.length = n) (hi : i < n) : ∃ x, xs[i]? = some x := ⟨xs[i]'(by omega), List.getElem?_eq_getElem (by omega)⟩
theorem int_at {n : Nat} {off : Nat} {cs : List Value} {x : Option (DataW H × List MemPlace)} (hx : x ≠ none) (h : DataW.trod enc Try.prog W base spare held n 3 ((cs.drop off).take (Try.prog.cellsOf 3)) = x) : ∃ z : Int, (cs.drop off).take 1 = [.int .i64 z] := by
 have k : Try.prog.cellsOf 3 = 1 := by kernel_rfl
 rw [k] at h
 cases x with
 | none => exact absurd rfl hx
 | some y =>
  obtain ⟨lo, hl, _⟩ := DataW.trod_int Try.underlying3 h
  exact ⟨lo, hl⟩

set_option maxRecDepth 100000 in
theorem span_at {n : Nat} {a b : Value} {x : DataW H × List MemPlace} (h : DataW.trod enc Try.prog W base spare held n 26 [a, b] = some x) : ∃ lo hi : Int, a = .int .i64 lo ∧ b = .int .i64 hi := by
 obtain ⟨xs, m, _, _, _, hlen, hf⟩ := DataW.trod_struct Try.underlying26 h
 obtain ⟨x0, e0⟩ := ex_of_len hlen (i := 0) (by decide)
 obtain ⟨x1, e1⟩ := ex_of_len hlen (i := 1) (by decide)
 obtain ⟨lo, hl⟩ := int_at (cs := [a, b]) (off := 0) (by rw [e0]; simp) (hf 0 _ rfl)
 obtain ⟨hi, hh⟩ := int_at (cs := [a, b]) (off := 1) (by rw [e1]; simp) (hf 1 _ rfl)
 simp at hl hh
 exact ⟨lo, hi, hl, hh⟩

def lints (l : T_Load) : List Int := [l.At, l.Kilos.Lo, l.Kilos.Hi, l.Top.Lo, l.Top.Hi, l.Kind, l.Watts]

set_option maxRecDepth 100000 in
theorem load_at {n : Nat} {cs : List Value} {x : DataW H × List MemPlace} (h : DataW.trod enc Try.prog W base spare held n 28 cs = some x) : ∃ l : T_Load, cs = (lints l).map (Value.int .i64) := by
 obtain ⟨xs, m, _, _, hcl, hlen, hf⟩ := DataW.trod_struct Try.underlying28 h
 have kp : Try.prog.cellsOf 26 = 2 := by kernel_rfl
 have kw : Try.prog.cellsOf 28 = 7 := by kernel_rfl
 rw [kw] at hcl
 match cs, hcl with
 | [c0, c1, c2, c3, c4, c5, c6], _ =>
  obtain ⟨x0, e0⟩ := ex_of_len hlen (i := 0) (by decide)
  obtain ⟨x1, e1⟩ := ex_of_len hlen (i := 1) (by decide)
  obtain ⟨x2, e2⟩ := ex_of_len hlen (i := 2) (by decide)
  obtain ⟨x3, e3⟩ := ex_of_len hlen (i := 3) (by decide)
  obtain ⟨x4, e4⟩ := ex_of_len hlen (i := 4) (by decide)
  obtain ⟨z0, h0⟩ := int_at (cs := [c0, c1, c2, c3, c4, c5, c6]) (off := 0) (by rw [e0]; simp) (hf 0 _ rfl)
  have h1 : DataW.trod enc Try.prog W base spare held m 26 ((([c0, c1, c2, c3, c4, c5, c6] : List Value).drop 1).take (Try.prog.cellsOf 26)) = xs[1]? := by have := hf 1 _ rfl; exact this
  have h2 : DataW.trod enc Try.prog W base spare held m 26 ((([c0, c1, c2, c3, c4, c5, c6] : List Value).drop 3).take (Try.prog.cellsOf 26)) = xs[2]? := by have := hf 2 _ rfl; exact this
  obtain ⟨z3, h3⟩ := int_at (cs := [c0, c1, c2, c3, c4, c5, c6]) (off := 5) (by rw [e3]; simp) (hf 3 _ rfl)
  obtain ⟨z4, h4⟩ := int_at (cs := [c0, c1, c2, c3, c4, c5, c6]) (off := 6) (by rw [e4]; simp) (hf 4 _ rfl)
  rw [e1, kp] at h1
  rw [e2, kp] at h2
  obtain ⟨a1, b1, g1, g2⟩ := span_at h1
  obtain ⟨a2, b2, g3, g4⟩ := span_at h2
  simp at h0 h3 h4
  subst h0 h3 h4 g1 g2 g3 g4
  exact ⟨⟨z0, ⟨a1, b1⟩, ⟨a2, b2⟩, z3, z4⟩, rfl⟩

theorem loads_cells (l : T_Load) : (A_Load l).cells = (lints l).map (AV.int .i64) := rfl

set_option maxRecDepth 100000 in
theorem loads_vr {a : Option Addr} {len cap : Nat} {x : DataW H × List MemPlace} {fuel : Nat} (hsp : ∀ b, spare b = true) (h : DataW.trod enc Try.prog W base spare held fuel 22 [.slice a len cap] = some x) :
  ∃ ls : List T_Load, ls.length ≤ maxLen ∧ VR (Gh.all W) (.sl (ls.map A_Load) none) (.slice a len cap) := by
 have kw : Try.prog.cellsOf 28 = 7 := by kernel_rfl
 rcases open_slice Try.underlying22 h with ⟨hcs, _⟩ | ⟨ad, l, c, m, n, D, Pl, hcs, hb, hl, hm, hmm, hx, hi⟩
 ·simp at hcs
  obtain ⟨rfl, rfl, rfl⟩ := hcs
  exact ⟨[], by simp, .sl0 _ _⟩
 ·simp at hcs
  obtain ⟨rfl, rfl, rfl⟩ := hcs
  have hw : ∀ i, ∃ g : T_Load, i < len → ∀ j z, (lints g)[j]? = some z → W.cell? (ad.add (i * 7 + j)) = some (.int .i64 z) := by
   intro i
   by_cases hil : i < len
   ·obtain ⟨cs, hcells, ht⟩ := hi i (by rw [hmm]; split <;> omega)
    obtain ⟨g, rfl⟩ := load_at ht
    rw [kw] at hcells
    obtain ⟨_, hcl, hat⟩ := World.cells?_some hcells
    refine ⟨g, fun _ j z hz => ?_⟩
    have hj : j < 7 := (List.getElem?_eq_some_iff.1 hz).1
    rw [← Go.Deep.add_add, hat j hj, List.getElem?_map, hz]
    rfl
   ·exact ⟨default, fun h => absurd h hil⟩
  obtain ⟨f, hf⟩ := Classical.axiomOfChoice hw
  refine ⟨(List.range len).map f, by simp; omega, ?_⟩
  by_cases h0 : len = 0
  ·subst h0
   exact .sl0 _ _
  ·have hx : ∃ b o, ad = ⟨b, o, none⟩ := by
    have h1 := hf 0 (by omega) 0 _ rfl
    obtain ⟨b, o, sp⟩ := ad
    cases sp with
    | none => exact ⟨b, o, rfl⟩
    | some s =>
     exfalso
     unfold World.cell? at h1
     simp only [Addr.add] at h1
     split at h1 <;> simp_all
   obtain ⟨b, o, rfl⟩ := hx
   have hcl : ∀ i, i < len → ∀ j z, (lints (f i))[j]? = some z → W.cell? ⟨b, o + (i * 7 + j), none⟩ = some (.int .i64 z) := fun i hi j z hz => by
    have h1 := hf i hi j z hz
    have ej : ((⟨b, o, none⟩ : Addr).add (i * 7 + j)) = ⟨b, o + (i * 7 + j), none⟩ := by unfold Addr.add; split <;> simp_all
    rw [ej] at h1
    exact h1
   have hel : ∀ (i : Nat) y, (((List.range len).map f).map A_Load)[i]? = some y → i < len ∧ y = A_Load (f i) := fun i y hy => by
    rw [List.map_map, List.getElem?_map, Option.map_eq_some_iff] at hy
    obtain ⟨z, hz1, rfl⟩ := hy
    have hi : i < (List.range len).length := (List.getElem?_eq_some_iff.1 hz1).1
    rw [List.length_range] at hi
    rw [List.getElem?_range hi] at hz1
    cases hz1
    exact ⟨hi, rfl⟩
   have hcz : ∀ (i j : Nat) x, (A_Load (f i)).cells[j]? = some x → j < 7 ∧ ∃ z, (lints (f i))[j]? = some z ∧ x = .int .i64 z := fun i j x hx => by
    rw [loads_cells, List.getElem?_map, Option.map_eq_some_iff] at hx
    obtain ⟨z, hz, rfl⟩ := hx
    exact ⟨(List.getElem?_eq_some_iff.1 hz).1, z, hz, rfl⟩
   have hus : ∀ (i j : Nat) z, j < 7 → (lints (f i))[j]? = some z → (lints (f ((i * 7 + j) / 7))).getD ((i * 7 + j) % 7) 0 = z := fun i j z hj hz => by
    rw [show (i * 7 + j) / 7 = i by omega, show (i * 7 + j) % 7 = j by omega, List.getD_eq_getElem?_getD, hz]
    rfl
   have hlm : (((List.range len).map f).map A_Load).length = len := by simp
   have key := VR.sl (G := Gh.all W) (((List.range len).map f).map A_Load) 7 b o cap (fun k => .int .i64 ((lints (f (k / 7))).getD (k % 7) 0)) (by rw [hlm]; exact hl) (fun i y hy => by rw [(hel i y hy).2]; rfl)
    (fun i y j x hy hx => by
      obtain ⟨hi, rfl⟩ := hel i y hy
      obtain ⟨hj, z, hz, rfl⟩ := hcz i j x hx
      show W.cell? _ = _
      rw [hcl i hi j z hz, hus i j z hj hz])
    (fun i y j x hy hx => by
      obtain ⟨hi, rfl⟩ := hel i y hy
      obtain ⟨hj, z, hz, rfl⟩ := hcz i j x hx
      rw [hus i j z hj hz]
      exact .int _ _)
   rw [hlm] at key
   exact key

set_option maxRecDepth 100000 in
theorem float_vr {r0 : Reach} {b0 : Nat} {v : Value} {d : DataW H} {p : List MemPlace} (hv : Value.okWide Try.prog W r0 b0 24 v) (h : DataW.Trod enc Try.prog W base (fun _ => true) held 24 v d p) :
  ∃ x : T_Float, x.Loads.length ≤ maxLen ∧ VR (Gh.all W) (A_Float x) v := by
 obtain ⟨us, rfl, hsz⟩ := okWide_struct Try.underlying24 hv
 obtain ⟨fuel, hf⟩ := h
 have kw : Try.prog.cellsOf 24 = 9 := by kernel_rfl
 have ks : Try.prog.cellsOf 22 = 1 := by kernel_rfl
 rw [kw] at hsz
 obtain ⟨us⟩ := us
 match us, hsz with
 | [c0, c1, c2, c3, c4, c5, c6, c7, c8], _ =>
  obtain ⟨xs, m, _, _, _, hlen, hf⟩ := DataW.trod_struct Try.underlying24 hf
  obtain ⟨x0, e0⟩ := ex_of_len hlen (i := 0) (by decide)
  obtain ⟨x1, e1⟩ := ex_of_len hlen (i := 1) (by decide)
  obtain ⟨x2, e2⟩ := ex_of_len hlen (i := 2) (by decide)
  obtain ⟨x3, e3⟩ := ex_of_len hlen (i := 3) (by decide)
  obtain ⟨x4, e4⟩ := ex_of_len hlen (i := 4) (by decide)
  obtain ⟨x5, e5⟩ := ex_of_len hlen (i := 5) (by decide)
  obtain ⟨x6, e6⟩ := ex_of_len hlen (i := 6) (by decide)
  obtain ⟨x7, e7⟩ := ex_of_len hlen (i := 7) (by decide)
  obtain ⟨x8, e8⟩ := ex_of_len hlen (i := 8) (by decide)
  obtain ⟨z0, h0⟩ := int_at (cs := [c0, c1, c2, c3, c4, c5, c6, c7, c8]) (off := 0) (by rw [e0]; simp) (hf 0 _ rfl)
  obtain ⟨z1, h1⟩ := int_at (cs := [c0, c1, c2, c3, c4, c5, c6, c7, c8]) (off := 1) (by rw [e1]; simp) (hf 1 _ rfl)
  obtain ⟨z2, h2⟩ := int_at (cs := [c0, c1, c2, c3, c4, c5, c6, c7, c8]) (off := 2) (by rw [e2]; simp) (hf 2 _ rfl)
  obtain ⟨z3, h3⟩ := int_at (cs := [c0, c1, c2, c3, c4, c5, c6, c7, c8]) (off := 3) (by rw [e3]; simp) (hf 3 _ rfl)
  obtain ⟨z4, h4⟩ := int_at (cs := [c0, c1, c2, c3, c4, c5, c6, c7, c8]) (off := 4) (by rw [e4]; simp) (hf 4 _ rfl)
  obtain ⟨z5, h5⟩ := int_at (cs := [c0, c1, c2, c3, c4, c5, c6, c7, c8]) (off := 5) (by rw [e5]; simp) (hf 5 _ rfl)
  obtain ⟨z6, h6⟩ := int_at (cs := [c0, c1, c2, c3, c4, c5, c6, c7, c8]) (off := 6) (by rw [e6]; simp) (hf 6 _ rfl)
  obtain ⟨z7, h7⟩ := int_at (cs := [c0, c1, c2, c3, c4, c5, c6, c7, c8]) (off := 7) (by rw [e7]; simp) (hf 7 _ rfl)
  have h8 : DataW.trod enc Try.prog W base (fun _ => true) held m 22 ((([c0, c1, c2, c3, c4, c5, c6, c7, c8] : List Value).drop 8).take (Try.prog.cellsOf 22)) = xs[8]? := by have := hf 8 _ rfl; exact this
  rw [e8, ks] at h8
  replace h8 : DataW.trod enc Try.prog W base (fun _ => true) held m 22 [c8] = some x8 := h8
  simp at h0 h1 h2 h3 h4 h5 h6 h7
  subst h0 h1 h2 h3 h4 h5 h6 h7
  have hsl : ∃ a len cap, c8 = .slice a len cap := by
   rcases open_slice Try.underlying22 h8 with ⟨hcs, _⟩ | ⟨ad, l, c, m, n, D, Pl, hcs, _⟩
   ·simp at hcs; exact ⟨_, _, _, hcs⟩
   ·simp at hcs; exact ⟨_, _, _, hcs⟩
  obtain ⟨a, len, cap, rfl⟩ := hsl
  obtain ⟨ls, hl, hvr⟩ := loads_vr (fun _ => rfl) h8
  refine ⟨⟨z0, z1, z2, z3, z4, z5, z6, z7, ls⟩, hl, .agg _ _ rfl ?_⟩
  intro i x u hx hu
  match i with
  | 0 => simp [C_Float] at hx hu; subst hx; subst hu; exact .int _ _
  | 1 => simp [C_Float] at hx hu; subst hx; subst hu; exact .int _ _
  | 2 => simp [C_Float] at hx hu; subst hx; subst hu; exact .int _ _
  | 3 => simp [C_Float] at hx hu; subst hx; subst hu; exact .int _ _
  | 4 => simp [C_Float] at hx hu; subst hx; subst hu; exact .int _ _
  | 5 => simp [C_Float] at hx hu; subst hx; subst hu; exact .int _ _
  | 6 => simp [C_Float] at hx hu; subst hx; subst hu; exact .int _ _
  | 7 => simp [C_Float] at hx hu; subst hx; subst hu; exact .int _ _
  | 8 => simp [C_Float] at hx hu; subst hx; subst hu; exact hvr
  | i + 9 => simp [C_Float] at hx
end
end Go.Proofs.Ytdmfnhamipmmnaa
end
section
namespace Go.Proofs.Ytdmfnhamipmmnaa
open Go.RowKit Go.ChangeShapes Go.WideShapes Go.Deep
set_option linter.unusedVariables false
set_option linter.unusedSimpArgs false

section
variable {H : Type} {enc : TypeId × Value → H} {W : World} {base : Nat} {spare : Nat → Bool} {held : Bool}

def hurdle_ints (l : T_Hurdle) : List Int := [l.Kind, l.A, l.B]
set_option maxRecDepth 100000 in
theorem hurdle_at {n : Nat} {cs : List Value} {x : DataW H × List MemPlace} (h : DataW.trod enc Try.prog W base spare held n 49 cs = some x) : ∃ l : T_Hurdle, cs = (hurdle_ints l).map (Value.int .i64) := by
 obtain ⟨xs, m, _, _, hcl, hlen, hf⟩ := DataW.trod_struct Try.underlying49 h
 have kw : Try.prog.cellsOf 49 = 3 := by kernel_rfl
 rw [kw] at hcl
 match cs, hcl with
 | [c0, c1, c2], _ =>
  obtain ⟨x0, e0⟩ := ex_of_len hlen (i := 0) (by decide)
  obtain ⟨z0, h0⟩ := int_at (cs := [c0, c1, c2]) (off := 0) (by rw [e0]; simp) (hf 0 _ rfl)
  obtain ⟨x1, e1⟩ := ex_of_len hlen (i := 1) (by decide)
  obtain ⟨z1, h1⟩ := int_at (cs := [c0, c1, c2]) (off := 1) (by rw [e1]; simp) (hf 1 _ rfl)
  obtain ⟨x2, e2⟩ := ex_of_len hlen (i := 2) (by decide)
  obtain ⟨z2, h2⟩ := int_at (cs := [c0, c1, c2]) (off := 2) (by rw [e2]; simp) (hf 2 _ rfl)
  simp at h0 h1 h2
  subst h0 h1 h2
  exact ⟨⟨z0, z1, z2⟩, rfl⟩
theorem hurdle_cells (l : T_Hurdle) : (A_Hurdle l).cells = (hurdle_ints l).map (AV.int .i64) := rfl

set_option maxRecDepth 100000 in
theorem hurdles_vr {a : Option Addr} {len cap : Nat} {x : DataW H × List MemPlace} {fuel : Nat} (hsp : ∀ b, spare b = true) (h : DataW.trod enc Try.prog W base spare held fuel 47 [.slice a len cap] = some x) :
  ∃ ls : List T_Hurdle, ls.length ≤ maxLen ∧ VR (Gh.all W) (.sl (ls.map A_Hurdle) none) (.slice a len cap) := by
 have kw : Try.prog.cellsOf 49 = 3 := by kernel_rfl
 rcases open_slice Try.underlying47 h with ⟨hcs, _⟩ | ⟨ad, l, c, m, n, D, Pl, hcs, hb, hl, hm, hmm, hx, hi⟩
 ·simp at hcs
  obtain ⟨rfl, rfl, rfl⟩ := hcs
  exact ⟨[], by simp, .sl0 _ _⟩
 ·simp at hcs
  obtain ⟨rfl, rfl, rfl⟩ := hcs
  have hw : ∀ i, ∃ g : T_Hurdle, i < len → ∀ j z, (hurdle_ints g)[j]? = some z → W.cell? (ad.add (i * 3 + j)) = some (.int .i64 z) := by
   intro i
   by_cases hil : i < len
   ·obtain ⟨cs, hcells, ht⟩ := hi i (by rw [hmm]; split <;> omega)
    obtain ⟨g, rfl⟩ := hurdle_at ht
    rw [kw] at hcells
    obtain ⟨_, hcl, hat⟩ := World.cells?_some hcells
    refine ⟨g, fun _ j z hz => ?_⟩
    have hj : j < 3 := (List.getElem?_eq_some_iff.1 hz).1
    rw [← Go.Deep.add_add, hat j hj, List.getElem?_map, hz]
    rfl
   ·exact ⟨default, fun h => absurd h hil⟩
  obtain ⟨f, hf⟩ := Classical.axiomOfChoice hw
  refine ⟨(List.range len).map f, by simp; omega, ?_⟩
  by_cases h0 : len = 0
  ·subst h0
   exact .sl0 _ _
  ·have hx : ∃ b o, ad = ⟨b, o, none⟩ := by
    have h1 := hf 0 (by omega) 0 _ rfl
    obtain ⟨b, o, sp⟩ := ad
    cases sp with
    | none => exact ⟨b, o, rfl⟩
    | some s =>
     exfalso
     unfold World.cell? at h1
     simp only [Addr.add] at h1
     split at h1 <;> simp_all
   obtain ⟨b, o, rfl⟩ := hx
   have hcl : ∀ i, i < len → ∀ j z, (hurdle_ints (f i))[j]? = some z → W.cell? ⟨b, o + (i * 3 + j), none⟩ = some (.int .i64 z) := fun i hi j z hz => by
    have h1 := hf i hi j z hz
    have ej : ((⟨b, o, none⟩ : Addr).add (i * 3 + j)) = ⟨b, o + (i * 3 + j), none⟩ := by unfold Addr.add; split <;> simp_all
    rw [ej] at h1
    exact h1
   have hel : ∀ (i : Nat) y, (((List.range len).map f).map A_Hurdle)[i]? = some y → i < len ∧ y = A_Hurdle (f i) := fun i y hy => by
    rw [List.map_map, List.getElem?_map, Option.map_eq_some_iff] at hy
    obtain ⟨z, hz1, rfl⟩ := hy
    have hi : i < (List.range len).length := (List.getElem?_eq_some_iff.1 hz1).1
    rw [List.length_range] at hi
    rw [List.getElem?_range hi] at hz1
    cases hz1
    exact ⟨hi, rfl⟩
   have hcz : ∀ (i j : Nat) x, (A_Hurdle (f i)).cells[j]? = some x → j < 3 ∧ ∃ z, (hurdle_ints (f i))[j]? = some z ∧ x = .int .i64 z := fun i j x hx => by
    rw [hurdle_cells, List.getElem?_map, Option.map_eq_some_iff] at hx
    obtain ⟨z, hz, rfl⟩ := hx
    exact ⟨(List.getElem?_eq_some_iff.1 hz).1, z, hz, rfl⟩
   have hus : ∀ (i j : Nat) z, j < 3 → (hurdle_ints (f i))[j]? = some z → (hurdle_ints (f ((i * 3 + j) / 3))).getD ((i * 3 + j) % 3) 0 = z := fun i j z hj hz => by
    rw [show (i * 3 + j) / 3 = i by omega, show (i * 3 + j) % 3 = j by omega, List.getD_eq_getElem?_getD, hz]
    rfl
   have hlm : (((List.range len).map f).map A_Hurdle).length = len := by simp
   have key := VR.sl (G := Gh.all W) (((List.range len).map f).map A_Hurdle) 3 b o cap (fun k => .int .i64 ((hurdle_ints (f (k / 3))).getD (k % 3) 0)) (by rw [hlm]; exact hl) (fun i y hy => by rw [(hel i y hy).2]; rfl)
    (fun i y j x hy hx => by
      obtain ⟨hi, rfl⟩ := hel i y hy
      obtain ⟨hj, z, hz, rfl⟩ := hcz i j x hx
      show W.cell? _ = _
      rw [hcl i hi j z hz, hus i j z hj hz])
    (fun i y j x hy hx => by
      obtain ⟨hi, rfl⟩ := hel i y hy
      obtain ⟨hj, z, hz, rfl⟩ := hcz i j x hx
      rw [hus i j z hj hz]
      exact .int _ _)
   rw [hlm] at key
   exact key

set_option maxRecDepth 100000 in
theorem hurdle_vr {r0 : Reach} {b0 : Nat} {v : Value} {d : DataW H} {p : List MemPlace} (hv : Value.okWide Try.prog W r0 b0 49 v) (h : DataW.Trod enc Try.prog W base (fun _ => true) held 49 v d p) :
  ∃ x : T_Hurdle, VR (Gh.all W) (A_Hurdle x) v := by
 obtain ⟨us, rfl, hsz⟩ := okWide_struct Try.underlying49 hv
 obtain ⟨fuel, hf⟩ := h
 have kw : Try.prog.cellsOf 49 = 3 := by kernel_rfl
 rw [kw] at hsz
 obtain ⟨us⟩ := us
 match us, hsz with
 | [c0, c1, c2], _ =>
  obtain ⟨xs, m, _, _, _, hlen, hf⟩ := DataW.trod_struct Try.underlying49 hf
  obtain ⟨x0, e0⟩ := ex_of_len hlen (i := 0) (by decide)
  obtain ⟨z0, h0⟩ := int_at (cs := [c0, c1, c2]) (off := 0) (by rw [e0]; simp) (hf 0 _ rfl)
  obtain ⟨x1, e1⟩ := ex_of_len hlen (i := 1) (by decide)
  obtain ⟨z1, h1⟩ := int_at (cs := [c0, c1, c2]) (off := 1) (by rw [e1]; simp) (hf 1 _ rfl)
  obtain ⟨x2, e2⟩ := ex_of_len hlen (i := 2) (by decide)
  obtain ⟨z2, h2⟩ := int_at (cs := [c0, c1, c2]) (off := 2) (by rw [e2]; simp) (hf 2 _ rfl)
  simp at h0 h1 h2
  subst h0 h1 h2
  refine ⟨⟨z0, z1, z2⟩, .agg _ _ rfl ?_⟩
  intro i x u hx hu
  match i with
  | 0 => simp [C_Hurdle] at hx hu; subst hx; subst hu; exact .int _ _
  | 1 => simp [C_Hurdle] at hx hu; subst hx; subst hu; exact .int _ _
  | 2 => simp [C_Hurdle] at hx hu; subst hx; subst hu; exact .int _ _
  | i + 3 => simp [C_Hurdle] at hx
theorem hurdles_arg {v : Value} {a : Option Addr} {len cap : Nat} (hv : v = .slice a len cap) {d : DataW H} {p : List MemPlace} (h : DataW.Trod enc Try.prog W base (fun _ => true) held 47 v d p) :
  ∃ ls : List T_Hurdle, ls.length ≤ maxLen ∧ VR (Gh.all W) (.sl (ls.map A_Hurdle) none) v := by
 subst hv
 obtain ⟨fuel, hf⟩ := h
 exact hurdles_vr (fun _ => rfl) hf
end
end Go.Proofs.Ytdmfnhamipmmnaa
end
section
namespace Go.Proofs.Ytdmfnhamipmmnaa
open Go.RowKit Go.ChangeShapes Go.WideShapes Go.ChangeAt
set_option linter.unusedVariables false
set_option linter.unusedSimpArgs false

def nums (zs : List Int) : AV := .sl (zs.map fun z => .int .i64 z) none
theorem prog_own : ownKnob Try.prog.godebug = none := by kernel_rfl
theorem prog_laid : laidOutB Try.prog = true := by kernel_rfl

namespace floatPasses
set_option maxRecDepth 100000 in
theorem lifted (hM : ∀ (x0 : T_Float), x0.Loads.length ≤ maxLen → ∀ (x1 : List T_Hurdle), x1.length ≤ maxLen → ∀ (x2 : T_Hurdle), ∀ (x3 : Int), (Lit.int .i64 x3).wf = true → ∀ (x4 : List Int), (∀ z ∈ x4, (Lit.int .i64 z).wf = true) → x4.length ≤ maxLen → Does Try.prog 4 [A_Float x0, .sl (x1.map A_Hurdle) none, A_Hurdle x2, .int .i64 x3, nums x4] [] fun v _ => v = .bool true) (os : Os) (started : os.Started) (H : Type) (enc : TypeId × Value → H) :
  ReturnsInHanded {} Try.checked os 4 .any (Rows.floatPassesSpec.pre6 enc Try.prog Try.f4 Rows.floatPassesRow.domain false) (Rows.floatPassesSpec.post enc Try.prog Try.f4 false true false false) := by
 refine returnsInHanded_of_change (C := Try.checked) prog_own started (by kernel_rfl) Try.func4
  (ChangeSpec.witness6 (enc := enc) (C := Try.checked) false ⟨#[], #[.agg #[.int .i64 0, .int .i64 0, .int .i64 0, .int .i64 0, .int .i64 0, .int .i64 0, .int .i64 0, .int .i64 0, .slice none 0 0], .slice none 0 0, .agg #[.int .i64 0, .int .i64 0, .int .i64 0], .int .i64 0, .slice none 0 0], []⟩ 8 (by kernel_rfl) (by kernel_rfl) (by kernel_rfl) (by kernel_rfl)) ?_
 intro W base args ds gs before hval0 hW hcnd _
 have hval : ∀ (j : Nat) t v, Try.f4.params[j]? = some t → args[j]? = some v → Value.okWide Try.prog W .any base t v := hval0
 have hW' := hW
 obtain ⟨p, q, hA0, hV, rfl, hfz, hnd⟩ := hW
 have hA : DataW.TrodAll enc Try.prog W 0 (fun _ => true) true Try.f4.params.toList args.toList ds p := hA0
 rw [Try.params4] at hA hval
 obtain ⟨v0, vs0, d0, ds0, p0, q0, hargs, rfl, rfl, h0, r0⟩ := trodAll_cons hA
 obtain ⟨v1, vs1, d1, ds1, p1, q1, rfl, rfl, rfl, h1, r1⟩ := trodAll_cons r0
 obtain ⟨v2, vs2, d2, ds2, p2, q2, rfl, rfl, rfl, h2, r2⟩ := trodAll_cons r1
 obtain ⟨v3, vs3, d3, ds3, p3, q3, rfl, rfl, rfl, h3, r3⟩ := trodAll_cons r2
 obtain ⟨v4, vs4, d4, ds4, p4, q4, rfl, rfl, rfl, h4, r4⟩ := trodAll_cons r3
 obtain ⟨rfl, rfl, rfl⟩ := trodAll_nil r4
 obtain rfl : args = #[v0, v1, v2, v3, v4] := by cases args; simp_all
 obtain ⟨rfl, rfl⟩ := trodVars_none hV
 have k0 := h0
 have lt0 : ∀ x ∈ p0, x.block < W.heap.size := by obtain ⟨m, hm⟩ := k0; exact DataW.trod_lt m _ _ _ hm
 obtain ⟨zs0, hlen0, hvr0⟩ := float_vr (hval 0 24 v0 rfl rfl) h0
 have k1 := h1
 have lt1 : ∀ x ∈ p1, x.block < W.heap.size := by obtain ⟨m, hm⟩ := k1; exact DataW.trod_lt m _ _ _ hm
 obtain ⟨a1, len1, cap1, hs1⟩ := okWide_slice Try.underlying47 (hval 1 47 v1 rfl rfl)
 obtain ⟨zs1, hlen1, hvr1⟩ := hurdles_arg hs1 h1
 have k2 := h2
 have lt2 : ∀ x ∈ p2, x.block < W.heap.size := by obtain ⟨m, hm⟩ := k2; exact DataW.trod_lt m _ _ _ hm
 obtain ⟨zs2, hvr2⟩ := hurdle_vr (hval 2 49 v2 rfl rfl) h2
 obtain ⟨a3, rfl, rfl, rfl, w3⟩ := open_int Try.underlying3 (hval 3 3 v3 rfl rfl) h3
 have k4 := h4
 have lt4 : ∀ x ∈ p4, x.block < W.heap.size := by obtain ⟨m, hm⟩ := k4; exact DataW.trod_lt m _ _ _ hm
 obtain ⟨a4, len4, cap4, rfl⟩ := okWide_slice Try.underlying29 (hval 4 29 v4 rfl rfl)
 obtain ⟨zs4, hwf4, hlen4, hvr4⟩ := ints_vr Try.underlying29 Try.underlying3 (by kernel_rfl) h4
 clear hA0 hval0
 refine ((hM zs0 hlen0 zs1 hlen1 zs2 a3 w3 zs4 hwf4 hlen4).law (us := #[v0, v1, v2, .int .i64 a3, .slice a4 len4 cap4]) ⟨rfl, fun i x u hx hu => ?_⟩).mono fun e W' ⟨he, bel⟩ => ?_
 ·match i with
  | 0 => simp at hx hu; subst hx; subst hu; exact hvr0
  | 1 => simp at hx hu; subst hx; subst hu; exact hvr1
  | 2 => simp at hx hu; subst hx; subst hu; exact hvr2
  | 3 => simp at hx hu; subst hx; subst hu; exact .int _ _
  | 4 => simp at hx hu; subst hx; subst hu; exact hvr4
  | i + 5 => simp at hx
 subst he
 exact ⟨_, rfl, _, _, _, [], _, [], hW', trodAll_mk1 (shut_bool Try.underlying4 _), (trodAll_cons_mk (Below.trod prog_laid (by kernel_rfl) (of_decide_eq_true (by kernel_rfl)) k0 bel lt0) (trodAll_cons_mk (Below.trod prog_laid (by kernel_rfl) (of_decide_eq_true (by kernel_rfl)) k1 bel lt1) (trodAll_cons_mk (Below.trod prog_laid (by kernel_rfl) (of_decide_eq_true (by kernel_rfl)) k2 bel lt2) (trodAll_cons_mk (shut_int Try.underlying3 w3) (trodAll_cons_mk (Below.trod prog_laid (by kernel_rfl) (of_decide_eq_true (by kernel_rfl)) k4 bel lt4) trodAll_mk0))))), rfl, bel.frame _, fun h => by cases h⟩

theorem frame (hM : ∀ (x0 : T_Float), x0.Loads.length ≤ maxLen → ∀ (x1 : List T_Hurdle), x1.length ≤ maxLen → ∀ (x2 : T_Hurdle), ∀ (x3 : Int), (Lit.int .i64 x3).wf = true → ∀ (x4 : List Int), (∀ z ∈ x4, (Lit.int .i64 z).wf = true) → x4.length ≤ maxLen → Does Try.prog 4 [A_Float x0, .sl (x1.map A_Hurdle) none, A_Hurdle x2, .int .i64 x3, nums x4] [] fun v _ => v = .bool true) : Rows.FloatPassesSaid :=
 OpenClaim.holds_of_wide 4 Try.f4 rfl rfl rfl rfl rfl rfl rfl ⟨rfl, rfl, rfl, rfl, rfl⟩ rfl rfl rfl rfl rfl (by kernel_rfl) Try.func4 (by kernel_rfl)
  (of_decide_eq_true (by kernel_rfl)) (by unfold Func.isWrapper; first | (rw [if_pos (by decide +kernel)]; kernel_rfl) | (rw [if_neg (by decide +kernel)]; exact ⟨rfl, rfl⟩))
  (fun os started H enc _ => lifted hM os started H enc)
end floatPasses
end Go.Proofs.Ytdmfnhamipmmnaa
end
