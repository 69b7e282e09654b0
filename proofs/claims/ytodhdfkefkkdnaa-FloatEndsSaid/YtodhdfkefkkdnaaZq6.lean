/- Part 7 of what the law needs: own work, put together. -/
import Derived.ProofKit
import Derived.Test.YtodhdfkefkkdnaaRows
import Derived.Test.YtodhdfkefkkdnaaZq5
set_option linter.unusedVariables false
set_option linter.unusedSimpArgs false
set_option maxRecDepth 10000
set_option maxHeartbeats 4000000
section
namespace Go.Proofs.Ytodhdfkefkkdnaa
open Go.RowKit

def GOk (g : T_Load → Int) (f : T_Float) : Prop := ∀ l ∈ f.Loads, 0 ≤ g l ∧ g l ≤ 100000
theorem gLo (f : T_Float) (h : FlOk f) : GOk (fun l => l.Kilos.Lo) f := fun l hl => by
 have a := h.all l hl
 exact ⟨a.k1, by have h2 := a.k2; have h3 := a.k3; show l.Kilos.Lo ≤ 100000; omega⟩
theorem gHi (f : T_Float) (h : FlOk f) : GOk (fun l => l.Kilos.Hi) f := fun l hl => by
 have := h.all l hl
 exact ⟨by have h1 := this.k1; have h2 := this.k2; show 0 ≤ l.Kilos.Hi; omega, this.k3⟩
theorem ws_ok (f : T_Float) (h : FlOk f) (g : T_Load → Int) (hg : GOk g f) (q : Int) (q1 : f.Front ≤ q) (q2 : q ≤ f.Rear) : ∀ w ∈ wsF f g f.Loads, 0 ≤ w.kilos_ ∧ w.kilos_ ≤ 100000 ∧ -3000 ≤ w.at_ - q ∧ w.at_ - q ≤ 3000 := by
 have := h.l2; have := h.f1; have := h.f2; have := h.f3; have := h.m1; have := h.m2; have := h.k1; have := h.k2
 intro w hw
 rcases List.mem_cons.1 hw with rfl | hw
 ·exact ⟨h.k1, h.k2, by show -3000 ≤ f.Middle - q; omega, by show f.Middle - q ≤ 3000; omega⟩
 ·obtain ⟨l, hl, rfl⟩ := List.mem_map.1 hw
  have a1 := (h.all l hl).a1; have a2 := (h.all l hl).a2
  exact ⟨(hg l hl).1, (hg l hl).2, by show -3000 ≤ l.At - q; omega, by show l.At - q ≤ 3000; omega⟩
theorem ws_len (f : T_Float) (h : FlOk f) (g : T_Load → Int) : (wsF f g f.Loads).length ≤ 22 := by
 have := h.n
 simp [wsF]; omega
section
variable (N : Nat) (hN : 30 < N) (t : T_truth) (f : T_Float) (hf : FlOk f) (g k : T_Load → Int) (hg : GOk g f) (ht : TrIs t f g k f.Loads.length)
include hN hf hg ht
theorem onFront_p : p_t_onFront N t = some (-(momW f.Rear (wsF f g f.Loads))) ∧ -6600000000 ≤ momW f.Rear (wsF f g f.Loads) ∧ momW f.Rear (wsF f g f.Loads) ≤ 6600000000 := by
 obtain ⟨e, b1, b2⟩ := moment_p N f.Rear (wsF f g f.Loads) (ws_ok f hf g hg f.Rear (by have := hf.f2; omega) (Int.le_refl _)) (ws_len f hf g) hN
 refine ⟨?_, b1, b2⟩
 unfold p_t_onFront
 rw [weights_p N t f g k ht hf.n hN, Option.bind_some, ht.e, e, Option.bind_some, w64 (x := 0 - momW f.Rear (wsF f g f.Loads)) (by omega) (by omega)]
 congr 1
 omega
theorem onRear_p : p_t_onRear N t = some (momW f.Front (wsF f g f.Loads)) ∧ -6600000000 ≤ momW f.Front (wsF f g f.Loads) ∧ momW f.Front (wsF f g f.Loads) ≤ 6600000000 := by
 obtain ⟨e, b1, b2⟩ := moment_p N f.Front (wsF f g f.Loads) (ws_ok f hf g hg f.Front (Int.le_refl _) (by have := hf.f2; omega)) (ws_len f hf g) hN
 refine ⟨?_, b1, b2⟩
 unfold p_t_onRear
 rw [weights_p N t f g k ht hf.n hN, Option.bind_some, ht.e, e, Option.bind_some]
theorem stands_p : p_t_stands N t = some (decide (momW f.Rear (wsF f g f.Loads) ≤ 0) && decide (0 ≤ momW f.Front (wsF f g f.Loads))) := by
 unfold p_t_stands
 rw [(onFront_p N hN t f hf g k hg ht).1, Option.bind_some, (onRear_p N hN t f hf g k hg ht).1, Option.bind_some]
 generalize momW f.Rear (wsF f g f.Loads) = a
 generalize momW f.Front (wsF f g f.Loads) = b
 by_cases h : a ≤ 0
 ·simp [h, show -a ≥ 0 by omega]
 ·simp [h, show ¬ -a ≥ 0 by omega]
omit hg in
theorem height_p : p_t_height N t = some (talL (f.Loads.map k) f.High) := by
 have hn := hf.n
 unfold p_t_height
 rw [letJ_eq, ht.e]
 refine loop2_T (fun (r : Option Int) => r = some (talL (f.Loads.map k) f.High)) (fun a i => ∃ j : Nat, i = (j : Int) ∧ j ≤ f.Loads.length ∧ a = talL ((f.Loads.take j).map k) f.High) (fun a i => f.Loads.length - i.toNat) ?_ N _ 0 ⟨0, rfl, by omega, by simp [talL]⟩ (by simp; omega)
 rintro rec a i ⟨j, rfl, hj, rfl⟩ ih
 by_cases hlt : j < f.Loads.length
 ·have hx : f.Loads[j]? = some f.Loads[j] := List.getElem?_eq_getElem hlt
  obtain ⟨e1, e2, e3, e4⟩ := lt_dec hx
  simp only [e1, cond_true, Option.bind_some, idxI_ok (show 0 ≤ (j : Int) by omega) (show (j : Int) < ((21 : Nat) : Int) by omega), nat_add1 j (by omega), Int.toNat_natCast, ht.ht j _ hlt hx]
  refine ih _ _ ⟨j + 1, rfl, hlt, ?_⟩ (by omega)
  rw [List.take_succ_eq_append_getElem hlt]
  simp only [talL, List.map_append, List.map_cons, List.map_nil, List.foldl_append, List.foldl_cons, List.foldl_nil]
  rfl
 ·have : j = f.Loads.length := by omega
  subst this
  rw [len_dec, cond_false, List.take_length]
theorem total_p : p_t_total N t = some (((wsF f g f.Loads).map fun w => w.kilos_).sum) ∧ 0 ≤ ((wsF f g f.Loads).map fun w => w.kilos_).sum ∧ ((wsF f g f.Loads).map fun w => w.kilos_).sum ≤ 2200000 := by
 have hw := ws_ok f hf g hg f.Rear (by have := hf.f2; omega) (Int.le_refl _)
 have hn := ws_len f hf g
 unfold p_t_total
 rw [weights_p N t f g k ht hf.n hN, Option.bind_some, letJ_eq]
 generalize wsF f g f.Loads = ws at hw hn
 have hb : ∀ (j : Nat), j ≤ ws.length → 0 ≤ (((ws.take j).map fun w => w.kilos_).sum) ∧ (((ws.take j).map fun w => w.kilos_).sum) ≤ 100000 * (j : Int) := by
  intro j
  induction j with
  | zero => intro _; simp
  | succ j ih =>
   intro hj
   have ih := ih (by omega)
   have hlt : j < ws.length := by omega
   obtain ⟨a, b, _, _⟩ := hw _ (List.getElem_mem hlt)
   rw [List.take_succ_eq_append_getElem hlt]
   simp only [List.map_append, List.sum_append, List.map_cons, List.map_nil, List.sum_cons, List.sum_nil] at ih ⊢
   omega
 have hall := hb ws.length (Nat.le_refl _)
 rw [List.take_length] at hall
 refine ⟨?_, by omega, by omega⟩
 refine loop2_T (fun (r : Option Int) => r = some ((ws.map fun w => w.kilos_).sum)) (fun a i => ∃ j : Nat, i = (j : Int) ∧ j ≤ ws.length ∧ a = ((ws.take j).map fun w => w.kilos_).sum) (fun a i => ws.length - i.toNat) ?_ N 0 0 ⟨0, rfl, by omega, by simp⟩ (by simp; omega)
 rintro rec a i ⟨j, rfl, hj, rfl⟩ ih
 by_cases hlt : j < ws.length
 ·have hx : ws[j]? = some ws[j] := List.getElem?_eq_getElem hlt
  obtain ⟨e1, e2, e3, e4⟩ := lt_dec hx
  obtain ⟨a, b, _, _⟩ := hw _ e3
  have b1 := hb j hj
  have s1 : (((ws.take (j + 1)).map fun w => w.kilos_).sum) = (((ws.take j).map fun w => w.kilos_).sum) + ws[j].kilos_ := by
   rw [List.take_succ_eq_append_getElem hlt]
   simp only [List.map_append, List.sum_append, List.map_cons, List.map_nil, List.sum_cons, List.sum_nil]
   omega
  rw [e1, cond_true, e2, Option.bind_some, nat_add1 j (by omega), w64 (x := (((ws.take j).map fun w => w.kilos_).sum) + ws[j].kilos_) (by omega) (by omega)]
  exact ih _ _ ⟨j + 1, rfl, hlt, s1.symm⟩ (by omega)
 ·have : j = ws.length := by omega
  subst this
  rw [len_dec, cond_false, List.take_length]
theorem bridge_p (a b : Int) (b0 : 0 ≤ b) (b1 : b ≤ 10000000) : p_t_passesBridge N t a b = some (decide (((wsF f g f.Loads).map fun w => w.kilos_).sum ≤ a) && (decide (-(momW f.Rear (wsF f g f.Loads)) ≤ b * (f.Rear - f.Front)) && decide (momW f.Front (wsF f g f.Loads) ≤ b * (f.Rear - f.Front)))) := by
 have := hf.l2; have := hf.f1; have := hf.f2; have := hf.f3
 have m := mulB (A := 10000000) (B := 3000) b0 b1 (show 0 ≤ f.Rear - f.Front by omega) (by omega)
 unfold p_t_passesBridge
 rw [ht.e, w64 (x := f.Rear - f.Front) (by omega) (by omega), w64 (x := b * (f.Rear - f.Front)) (by omega) (by omega), (total_p N hN t f hf g k hg ht).1, Option.bind_some, (onFront_p N hN t f hf g k hg ht).1, Option.bind_some, (onRear_p N hN t f hf g k hg ht).1, Option.bind_some]
 generalize ((wsF f g f.Loads).map fun w => w.kilos_).sum = x
 generalize momW f.Rear (wsF f g f.Loads) = y
 generalize momW f.Front (wsF f g f.Loads) = z
 by_cases h1 : x ≤ a
 ·rw [show decide (x ≤ a) = true from decide_eq_true h1, cond_true, Bool.true_and]
  by_cases h2 : -y ≤ b * (f.Rear - f.Front)
  ·rw [show decide (-y ≤ b * (f.Rear - f.Front)) = true from decide_eq_true h2, cond_true, Bool.true_and]
  ·rw [show decide (-y ≤ b * (f.Rear - f.Front)) = false from decide_eq_false h2, cond_false, Bool.false_and]
 ·rw [show decide (x ≤ a) = false from decide_eq_false h1, cond_false, Bool.false_and]
end
theorem srch (F : Int → Option Bool) (n : Int) (h0 : 0 ≤ n) (hn : n ≤ 1000000) (b : Int → Bool) (hF : ∀ k, 0 ≤ k → k < n → F k = some (b k))
  (body : (Int → Int → Option Int) → Int → Int → Option Int)
  (hbody : ∀ rec i_8 j_9, body rec i_8 j_9 = (bif (decide (i_8 < j_9)) then (((some (Int.fdiv (IntKind.u64.wrap (IntKind.i64.wrap (i_8 + j_9))) ((2 : Int) ^ (min (Int.toNat 1) (IntKind.bits .u64))))).bind fun n_19 => ((F (IntKind.i64.wrap n_19)).bind fun r_20 => (bif (!r_20) then (rec (IntKind.i64.wrap ((IntKind.i64.wrap n_19) + 1)) j_9) else (rec i_8 (IntKind.i64.wrap n_19)))))) else some i_8))
  (N : Nat) (hN : n.toNat < N) : ∃ r, loop2 body N 0 n = some r ∧ 0 ≤ r ∧ r ≤ n ∧ ((∀ x y, 0 ≤ x → x ≤ y → y < n → b x = true → b y = true) → ∀ k, 0 ≤ k → k < n → (b k = true ↔ r ≤ k)) := by
 refine loop2_T (fun (o : Option Int) => ∃ r, o = some r ∧ 0 ≤ r ∧ r ≤ n ∧ ((∀ x y, 0 ≤ x → x ≤ y → y < n → b x = true → b y = true) → ∀ k, 0 ≤ k → k < n → (b k = true ↔ r ≤ k)))
  (fun i j => 0 ≤ i ∧ i ≤ j ∧ j ≤ n ∧ ((∀ x y, 0 ≤ x → x ≤ y → y < n → b x = true → b y = true) → (∀ k, 0 ≤ k → k < i → b k = false) ∧ ∀ k, j ≤ k → k < n → b k = true)) (fun i j => (j - i).toNat) ?_ N 0 n ⟨Int.le_refl _, h0, Int.le_refl _, fun _ => ⟨fun k a c => by omega, fun k a c => by omega⟩⟩ (by simpa using hN)
 rintro rec i j ⟨i0, ij, jn, hm⟩ ih
 rw [hbody]
 by_cases hlt : i < j
 ·have e2 : (2 : Int) ^ (min (Int.toNat 1) (IntKind.bits .u64)) = 2 := rfl
  rw [show decide (i < j) = true from decide_eq_true hlt, cond_true, Option.bind_some, w64 (x := i + j) (by omega) (by omega), wu64_id (x := i + j) (by omega) (by omega), e2, Int.fdiv_eq_ediv_of_nonneg _ (by omega), w64 (x := (i + j) / 2) (by omega) (by omega), w64 (x := (i + j) / 2 + 1) (by omega) (by omega), hF _ (by omega) (by omega), Option.bind_some]
  generalize hc : (i + j) / 2 = c
  have hc1 : i ≤ c ∧ c < j := by omega
  cases hb : b c with
  | false =>
   rw [Bool.not_false, cond_true]
   refine ih _ _ ⟨by omega, by omega, jn, fun mono => ⟨fun k k0 k1 => ?_, (hm mono).2⟩⟩ (by omega)
   cases hk : b k with
   | false => rfl
   | true =>
    have := mono k c k0 (by omega) (by omega) hk
    rw [hb] at this
    exact this.symm
  | true =>
   rw [Bool.not_true, cond_false]
   refine ih _ _ ⟨i0, by omega, by omega, fun mono => ⟨(hm mono).1, fun k k0 k1 => mono c k (by omega) k0 k1 hb⟩⟩ (by omega)
 ·rw [show decide (i < j) = false from decide_eq_false hlt, cond_false]
  refine ⟨i, rfl, i0, by omega, fun mono k k0 k1 => ⟨fun hk => ?_, fun hk => (hm mono).2 k (by omega) k1⟩⟩
  have q := (hm mono).1 k k0
  by_cases hki : k < i
  ·rw [q hki] at hk
   exact absurd hk (by simp)
  ·omega
end Go.Proofs.Ytodhdfkefkkdnaa
end
section
namespace Go.Proofs.Ytodhdfkefkkdnaa
open Go.RowKit

theorem momW_eq (q : Int) (f : T_Float) (g : T_Load → Int) (ls : List T_Load) : momW q (wsF f g ls) = f.Kilos * (f.Middle - q) + momL g q ls := by
 simp only [momW, wsF, List.map_cons, List.sum_cons, List.map_map]
 rfl
theorem momR_eq (g : T_Load → Int) (q : Int) : ∀ ls : List T_Load, momR g q ls = -(momL g q ls)
 | [] => rfl
 | l :: ls => by
  have := momR_eq g q ls
  simp only [momR, momL, List.map_cons, List.sum_cons] at this ⊢
  rw [this, show g l * (q - l.At) = -(g l * (l.At - q)) by rw [Int.mul_sub, Int.mul_sub]; omega]
  omega
theorem front_eq (f : T_Float) (g : T_Load → Int) : f.Kilos * (f.Rear - f.Middle) + momR g f.Rear f.Loads = -(momW f.Rear (wsF f g f.Loads)) := by
 rw [momW_eq, momR_eq, show f.Kilos * (f.Rear - f.Middle) = -(f.Kilos * (f.Middle - f.Rear)) by rw [Int.mul_sub, Int.mul_sub]; omega]
 omega
theorem total_eq (f : T_Float) (g : T_Load → Int) : ((wsF f g f.Loads).map fun w => w.kilos_).sum = f.Kilos + (f.Loads.map g).sum := by
 simp only [wsF, List.map_cons, List.sum_cons, List.map_map]
 rfl
theorem bend_g (N : Nat) (hN : 22000 < N) (f : T_Float) (hf : FlOk f) (t : T_truth) (ht : t.Float = f) (h : T_Hurdle) (a0 : 0 ≤ h.A) (ab : h.A < h.B) (b1 : h.B ≤ 20000) : ∃ b, p_t_passesBend N t h.A h.B = some b ∧ ((p_br2_Up N (IntKind.i64.wrap ((IntKind.i64.wrap (2 * h.A)) + f.Width)) 2).bind fun r_5 => ((p_br2_Turns N f h (if r_5 > f.Turn then r_5 else f.Turn)).bind fun r_7 => some r_7)) = some b := by
 have := hf.w1; have := hf.w2; have := hf.t1; have := hf.t2
 have hF : ∀ k, 0 ≤ k → k < 21000 → p_t_passesBend_1 N k t h.A = some (decide (2 * (f.Turn + k) - f.Width ≥ 2 * h.A)) := by
  intro k k0 k1
  unfold p_t_passesBend_1
  rw [ht, Option.bind_some, w64 (x := f.Turn + k) (by omega) (by omega), w64 (x := 2 * (f.Turn + k)) (by omega) (by omega), w64 (x := 2 * (f.Turn + k) - f.Width) (by omega) (by omega), w64 (x := 2 * h.A) (by omega) (by omega)]
 obtain ⟨r, er, r0, r1, hr⟩ := srch (fun m => p_t_passesBend_1 N m t h.A) 21000 (by omega) (by omega) _ hF _ (fun rec i j => rfl) N (by omega)
 have hr := hr (fun x y x0 xy yn hb => by
  have hb := of_decide_eq_true hb
  exact decide_eq_true (by omega))
 have hlt : r ≤ 20999 := (hr 20999 (by omega) (by omega)).1 (decide_eq_true (by omega))
 have h2 := of_decide_eq_true ((hr r r0 (by omega)).2 (Int.le_refl _))
 have h3 : 0 < r → ¬ (2 * (f.Turn + (r - 1)) - f.Width ≥ 2 * h.A) := fun hp hh => by
  have := (hr (r - 1) (by omega) (by omega)).1 (decide_eq_true hh)
  omega
 rw [w64 (x := 2 * h.A) (by omega) (by omega), w64 (x := 2 * h.A + f.Width) (by omega) (by omega), up_p N (2 * h.A + f.Width) 2 (by omega) (by omega) (by omega), Option.bind_some]
 have hm : (if -(-(2 * h.A + f.Width) / 2) > f.Turn then -(-(2 * h.A + f.Width) / 2) else f.Turn) = f.Turn + r := by
  by_cases hp : 0 < r
  ·have := h3 hp
   split <;> omega
  ·split <;> omega
 rw [hm]
 unfold p_t_passesBend p_br2_Turns
 rw [show p_sort_Search_t_passesBend_1 N 21000 t h.A = some r from er, Option.bind_some, Option.bind_some, Option.bind_some, Option.bind_some, ht, w64 (x := f.Turn + r) (by omega) (by omega), show decide (f.Turn + r ≥ f.Turn) = true from decide_eq_true (by omega), cond_true, show decide (IntKind.i64.wrap (IntKind.i64.wrap (2 * (f.Turn + r)) - f.Width) ≥ IntKind.i64.wrap (2 * h.A)) = true from decide_eq_true (by rw [w64 (x := 2 * (f.Turn + r)) (by omega) (by omega), w64 (x := 2 * (f.Turn + r) - f.Width) (by omega) (by omega), w64 (x := 2 * h.A) (by omega) (by omega)]; omega), cond_true, Option.bind_some, Option.bind_some]
 exact ⟨_, rfl, rfl⟩
theorem goes_p (N : Nat) (hN : 22000 < N) (f : T_Float) (hf : FlOk f) (g k : T_Load → Int) (hg : GOk g f) (t : T_truth) (ht : TrIs t f g k f.Loads.length) (h : T_Hurdle) (hh : HuOk h) : ∃ b, p_t_passes N t h = some b ∧ p_br2_Goes N f h ⟨f.Loads.map g, f.Loads.map k⟩ = some b := by
 have hn := hf.n
 unfold p_t_passes p_br2_Goes
 rcases hh with ⟨e, a, b, c⟩ | ⟨e, a, b, c⟩ | ⟨e, a, b, c, d⟩
 ·rw [e, show ((1 : Int) == 1) = true from rfl, cond_true, cond_true]
  obtain ⟨x, e1, e2⟩ := bend_g N hN f hf t ht.e h a b c
  rw [e1]
  exact ⟨x, rfl, e2⟩
 ·rw [e, show ((2 : Int) == 1) = false from rfl, cond_false, cond_false, show ((2 : Int) == 2) = true from rfl, cond_true, cond_true, height_p N (by omega) t f hf g k ht, tall_p N f _ (by simpa using (by omega : f.Loads.length ≤ 30)) (by omega)]
  exact ⟨_, rfl, rfl⟩
 ·have := hf.l2; have := hf.f1; have := hf.f2; have := hf.f3
  have m := mulB (A := 10000000) (B := 3000) c d (show 0 ≤ f.Rear - f.Front by omega) (by omega)
  rw [e, show ((3 : Int) == 1) = false from rfl, cond_false, cond_false, show ((3 : Int) == 2) = false from rfl, cond_false, cond_false, bridge_p N (by omega) t f hf g k hg ht h.A h.B c d, carries_p N f hf g hg _ (by omega), weighs_p N f _ 100000 (Int.le_refl _) hf.k1 hf.k2 (fun x hx => by
   obtain ⟨l, hl, rfl⟩ := List.mem_map.1 hx
   exact hg l hl) (by simpa using (by omega : f.Loads.length ≤ 30)) (by omega), w64 (x := f.Rear - f.Front) (by omega) (by omega), w64 (x := h.B * (f.Rear - f.Front)) (by omega) (by omega), Option.bind_some, Option.bind_some, Option.bind_some, front_eq, ← momW_eq, total_eq]
  refine ⟨_, rfl, ?_⟩
  generalize f.Kilos + (f.Loads.map g).sum = x
  generalize momW f.Rear (wsF f g f.Loads) = y
  generalize momW f.Front (wsF f g f.Loads) = z
  dsimp only
  cases decide (x ≤ h.A) <;> cases decide (-y ≤ h.B * (f.Rear - f.Front)) <;> rfl
theorem divided_eq (N : Nat) (l g d : Int) : p_divided N l g d = (p_br2_Down N l d).bind fun a => (p_br2_Up N g d).bind fun b => some (⟨a, b⟩ : T_Span) := by
 have hd : p_dividedDown = p_br2_Down := rfl
 unfold p_divided p_br2_Up
 rw [hd]
 cases p_br2_Down N l d <;> cases p_br2_Down N (IntKind.i64.wrap (0 - g)) d <;> rfl
end Go.Proofs.Ytodhdfkefkkdnaa
end
section
namespace Go.Proofs.Ytodhdfkefkkdnaa
open Go.RowKit

structure LdSmall (l : T_Load) : Prop where
 k : l.Kilos.Hi ≤ l.Kilos.Lo + 2
 t : l.Top.Hi ≤ l.Top.Lo + 1
structure FlSmall (f : T_Float) : Prop where
 ok : FlMade f 3
 all : ∀ l ∈ f.Loads, LdSmall l
theorem setL_p {α : Type} (l : List α) (i : Nat) (g : α → α) (h : i < l.length) : setI l (i : Int) g = some (l.set i (g l[i])) := by
 have hx : l[i]? = some l[i] := List.getElem?_eq_getElem h
 unfold setI
 rw [Int.toNat_natCast, hx]
 rfl
theorem smallFloat_p (N : Nat) (d : T_bk_Drum) (hN : 30 < N) : ∃ f d', p_bk_SmallFloat N d = some (f, d') ∧ FlSmall f := by
 unfold p_bk_SmallFloat
 obtain ⟨f, d1, e, hf⟩ := floatOf_p N d 3 (by omega) (by omega) hN
 rw [e, Option.bind_some]; clear e
 obtain ⟨r3, d3, e, a3, _, b3⟩ := roll_p N d1 30 (by omega)
 have b3 := b3 (by omega)
 rw [e, Option.bind_some, letJ_eq]; clear e
 try dsimp only
 have hn := hf.n
 refine loop3_T (fun (x : Option (T_Float × T_bk_Drum)) => ∃ f d', x = some (f, d') ∧ FlSmall f) (fun i b w => ∃ j : Nat, i = (j : Int) ∧ j ≤ f.Loads.length ∧ w.length = f.Loads.length ∧ (∀ l ∈ w, LdOk f.Front f.Rear l ∧ l.Kilos.Hi ≤ 900) ∧ ∀ (m : Nat) l, m < j → w[m]? = some l → LdSmall l) (fun i b w => f.Loads.length - i.toNat) ?_ N 0 d3.beat_ f.Loads ⟨0, rfl, Nat.zero_le _, rfl, fun l hl => ⟨hf.ok.all l hl, hf.a l hl⟩, fun m l hm => absurd hm (Nat.not_lt_zero _)⟩ (by simp; omega)
 rintro rec i b w ⟨j, rfl, hj, hw, hall, hsm⟩ ih
 try dsimp only
 by_cases hlt : j < f.Loads.length
 ·rw [show decide ((j : Int) < ((f.Loads.length : Nat) : Int)) = true from decide_eq_true (by omega), cond_true]
  obtain ⟨k, dk, e, k0, _, k1⟩ := roll_p N ⟨b⟩ 20 (by omega)
  have k1 := k1 (by omega)
  rw [e, Option.bind_some]; clear e
  obtain ⟨t, dt, e, t0, _, t1⟩ := roll_p N dk 40 (by omega)
  have t1 := t1 (by omega)
  rw [e, Option.bind_some]; clear e
  obtain ⟨x, dx, e, x0, _, x1⟩ := roll_p N dt 3 (by omega)
  have x1 := x1 (by omega)
  rw [e, Option.bind_some]; clear e
  obtain ⟨y, dy, e, y0, _, y1⟩ := roll_p N dx 2 (by omega)
  have y1 := y1 (by omega)
  rw [e, Option.bind_some]; clear e
  try dsimp only
  have hi : idxI (j : Int) f.Loads.length = some () := if_pos ⟨by omega, by omega⟩
  have hjw : j < w.length := by omega
  have h1 : j < (w.set j (⟨w[j].At, (⟨k, IntKind.i64.wrap (k + x)⟩ : T_Span), w[j].Top, w[j].Kind, w[j].Watts⟩ : T_Load)).length := by rw [List.length_set]; exact hjw
  rw [hi, Option.bind_some, setL_p w j _ hjw, Option.bind_some, Option.bind_some, setL_p _ j _ h1, Option.bind_some, w64 (x := (j : Int) + 1) (by omega) (by omega), List.getElem_set_self, List.set_set, w64 (x := k + x) (by omega) (by omega), w64 (x := t + y) (by omega) (by omega)]
  have hlj := hall w[j] (List.getElem_mem hjw)
  have hnew : LdOk f.Front f.Rear (⟨w[j].At, (⟨k, k + x⟩ : T_Span), (⟨t, t + y⟩ : T_Span), w[j].Kind, w[j].Watts⟩ : T_Load) :=
   ⟨hlj.1.a1, hlj.1.a2, k0, by show k ≤ k + x; omega, by show k + x ≤ 100000; omega, t0, by show t ≤ t + y; omega, by show t + y ≤ 2000; omega, hlj.1.d1, hlj.1.d2, hlj.1.w1, hlj.1.w2, hlj.1.w3⟩
  refine ih _ _ _ ⟨j + 1, by omega, hlt, by rw [List.length_set]; exact hw, ?_, ?_⟩ (by omega)
  ·intro l hl
   rcases List.mem_or_eq_of_mem_set hl with hl | hl
   ·exact hall l hl
   ·subst hl
    exact ⟨hnew, by show k + x ≤ 900; omega⟩
  ·intro m l hm hl
   by_cases hmj : m = j
   ·subst hmj
    rw [List.getElem?_set_self (by omega)] at hl
    cases hl
    exact ⟨by show k + x ≤ k + 2; omega, by show t + y ≤ t + 1; omega⟩
   ·rw [List.getElem?_set_ne (by omega)] at hl
    exact hsm m l (by omega) hl
 ·have : j = f.Loads.length := by omega
  subst this
  rw [show decide (((f.Loads.length : Nat) : Int) < ((f.Loads.length : Nat) : Int)) = false from decide_eq_false (by omega), cond_false]
  obtain ⟨r, d4, e, h0, _, h1⟩ := roll_p N ⟨b⟩ 40 (by omega)
  have h1 := h1 (by omega)
  rw [e, Option.bind_some]; clear e
  rw [show lenI w f.Loads.length = some () from if_pos hw, Option.bind_some]
  have o := hf.ok
  refine ⟨_, _, rfl, ⟨⟨⟨o.l1, o.l2, o.w1, o.w2, o.f1, o.f2, o.f3, o.t1, o.t2, a3, by show r3 ≤ 100000; omega, o.m1, o.m2, h0, by show r ≤ 2000; omega, by show w.length ≤ 21; omega, fun l hl => (hall l hl).1⟩, by show (w.length : Int) ≤ 3; omega, by show r3 ≤ 5000; omega, hf.l, fun l hl => (hall l hl).2⟩, ?_⟩⟩
  intro l (hl : l ∈ w)
  obtain ⟨m, hm, rfl⟩ := List.getElem_of_mem hl
  exact hsm m _ (by omega) (List.getElem?_eq_getElem hm)
end Go.Proofs.Ytodhdfkefkkdnaa
end
section
namespace Go.Proofs.Ytodhdfkefkkdnaa
open Go.RowKit

noncomputable def atC (n : Nat) (X Y : Clr) : Clr := fun f xs S => if S.lv.length = n then X f xs S else Y f xs S
theorem atC_eq {n : Nat} {X Y : Clr} {f : FuncId} {xs : List AV} {S : St} {r : Option (AV × St)} (h : S.lv.length = n) (hc : callS X f xs S = r) : callS (atC n X Y) f xs S = r := by
 rw [← hc]
 simp only [callS, atC, if_pos h]
theorem atC_ne {n : Nat} {X Y : Clr} {f : FuncId} {xs : List AV} {S : St} {r : Option (AV × St)} (h : ¬ S.lv.length = n) (hc : callS Y f xs S = r) : callS (atC n X Y) f xs S = r := by
 rw [← hc]
 simp only [callS, atC, if_neg h]
theorem atC_ok {P : Program} (n : Nat) {X Y : Clr} (hX : ClrOk P X) (hY : ClrOk P Y) : ClrOk P (atC n X Y) := ⟨by
 intro f gs S v S' h G w us hI hv
 by_cases hc : S.lv.length = n
 ·exact hX.ok f gs S v S' (by rw [← atC_eq hc rfl]; exact h) G w us hI hv
 ·exact hY.ok f gs S v S' (by rw [← atC_ne hc rfl]; exact h) G w us hI hv⟩
theorem drL {X : Clr} {b0 k0 : Nat} {sts : List St} {x : AOper} {l : List AOper} {a a1 : List AV} {lv : Nat} {bs ts : List Nat} {f : FuncId} {v' : AV} {S' : St} (xs : List AV) (v : AV) (st st' : St) (hw : wantedA x.guard a = some true) (hd : dstOk x a.length = true) (hl : loudA x.op = true) (hv : aop x.op (evd a) st = some (.call f xs)) (hs : sts[lv]? = some st) (hs' : sts[lv + 1]? = some st') (hc : callS X f xs st = some (v', S')) (hv' : v' = v) (hst : S' = st') (h : DrO X b0 k0 sts l (putA a x.dst v) (lv + 1) bs ts a1) : DrO X b0 k0 sts (x :: l) a lv bs ts a1 :=
 DrO.eff v st st' hw hd hl hs hs' (by rw [evOp_call hv, hc, hv', hst]) h
end Go.Proofs.Ytodhdfkefkkdnaa
end
section
namespace Go.Proofs.Ytodhdfkefkkdnaa
open Go.RowKit
attribute [local simp] ren ren1 AV.plain AV.plain1 AV.clean cleanL cleanI cleanBo cleanSt cleanII KL_bk_Drum KL_Span KL_Load KL_Float KL_br2_Truth KL_Hurdle KL_V21_i64 KL_truth KL_V2_truth KL_weight A_bk_Drum C_bk_Drum A_Span C_Span A_Load C_Load A_Float C_Float A_br2_Truth C_br2_Truth A_Hurdle C_Hurdle A_V21_i64 C_V21_i64 A_truth C_truth A_V2_truth C_V2_truth A_weight C_weight back back1 List.idxOf? List.findIdx? List.findIdx?.go fadeS fadeV re re1 KB_bk_Drum KB_Span KB_Load KB_Float KB_br2_Truth KB_Hurdle KB_V21_i64 KB_truth KB_V2_truth KB_weight
def p_bl2_span (N : Nat) (low_1 : Int) (high_2 : Int) : Option (T_Span) := some (⟨low_1, high_2⟩ : T_Span)
def v_bl2_span (r : T_Span) : AV := (A_Span r)
attribute [local simp] v_bl2_span
theorem a_bl2_span (low_1 : Int) (high_2 : Int) : [i6 low_1, i6 high_2].mapM (ren []) = some [i6 low_1, i6 high_2] := by simp
theorem b_bl2_span (r : T_Span) (n n2 m : Nat) : back n n2 m (v_bl2_span r) = some (v_bl2_span r) := by simp
theorem d_bl2_span (N : Nat) (low_1 : Int) (high_2 : Int) (r : T_Span) (h : p_bl2_span N low_1 high_2 = some r) : Does Try.prog 19 [i6 low_1, i6 high_2] [] fun v c => v = v_bl2_span r ∧ c = [] := by
 unfold p_bl2_span at h
 refine Does.ofL comp19 _ _ rfl rfl ?_
 refine Ex.seq (rg 1 [0, 1, 4] (mkS 8 [(0, i6 low_1), (1, i6 high_2), (4, .ptr 0 0)]) ⟨[[i6 0, i6 0]], []⟩ ?_)
 refine Ex.seq (rg 4 [4] (mkS 8 [(4, .ptr 0 0)]) ⟨[[i6 low_1, i6 high_2]], []⟩ ?_)
 refine Ex.ret ?_
 obtain rfl := sJ h
 exact rt (.agg [i6 low_1, i6 high_2])
def p_bl2_one (N : Nat) (n_1 : Int) : Option (T_Span) := ((p_bl2_span N n_1 n_1).bind fun r_2 => some r_2)
def v_bl2_one (r : T_Span) : AV := (A_Span r)
attribute [local simp] v_bl2_one
theorem a_bl2_one (n_1 : Int) : [i6 n_1].mapM (ren []) = some [i6 n_1] := by simp
theorem b_bl2_one (r : T_Span) (n n2 m : Nat) : back n n2 m (v_bl2_one r) = some (v_bl2_one r) := by simp
theorem d_bl2_one (N : Nat) (n_1 : Int) (r : T_Span) (h : p_bl2_one N n_1 = some r) : Does Try.prog 33 [i6 n_1] [] fun v c => v = v_bl2_one r ∧ c = [] := by
 unfold p_bl2_one at h
 refine Does.ofL comp33 _ _ rfl rfl ?_
 refine Ex.seq (rg 1 [0, 2] (mkS 6 [(0, i6 n_1), (2, .ptr 0 0)]) ⟨[[i6 0, i6 0]], []⟩ ?_)
 refine Ex.seq ?_
 obtain ⟨r_2, hr_2, h⟩ := bE h
 refine Ex.reg (rn 2 [2, 3, 4] (mkS 6 [(2, .ptr 0 0), (3, i6 n_1), (4, i6 n_1)]) ⟨[[i6 0, i6 0]], []⟩ ?_)
 refine ExO.callL [] [i6 n_1, i6 n_1] rfl rfl (a_bl2_span n_1 n_1) rfl rfl (d_bl2_span N n_1 n_1 r_2 hr_2) (b_bl2_span _ _ _ _) rfl ?_
 refine rn 1 [2] (mkS 6 [(2, .ptr 0 0)]) ⟨[(C_Span r_2)], []⟩ ?_
 refine ExO.nil ?_
 refine Ex.ret ?_
 obtain rfl := sJ h
 exact rt ((A_Span r_2))
def p_bl2_seen (N : Nat) (x_1 : T_Span) (some_2 : Bool) (n_3 : Int) : Option (T_Span) := (bif (!some_2) then ((p_bl2_one N n_3).bind fun r_5 => some r_5) else ((p_bl2_span N (if n_3 < x_1.Lo then n_3 else x_1.Lo) (if n_3 > x_1.Hi then n_3 else x_1.Hi)).bind fun r_6 => some r_6))
def v_bl2_seen (r : T_Span) : AV := (A_Span r)
attribute [local simp] v_bl2_seen
theorem a_bl2_seen (x_1 : T_Span) (some_2 : Bool) (n_3 : Int) : [(A_Span x_1), .bool some_2, i6 n_3].mapM (ren []) = some [(A_Span x_1), .bool some_2, i6 n_3] := by simp
theorem b_bl2_seen (r : T_Span) (n n2 m : Nat) : back n n2 m (v_bl2_seen r) = some (v_bl2_seen r) := by simp
theorem d_bl2_seen (N : Nat) (x_1 : T_Span) (some_2 : Bool) (n_3 : Int) (r : T_Span) (h : p_bl2_seen N x_1 some_2 n_3 = some r) : Does Try.prog 9 [(A_Span x_1), .bool some_2, i6 n_3] [] fun v c => v = v_bl2_seen r ∧ c = [] := by
 unfold p_bl2_seen at h
 refine Does.ofL comp9 _ _ rfl rfl ?_
 refine Ex.seq (rg 2 [1, 2, 3, 6] (mkS 20 [(1, .bool some_2), (2, i6 n_3), (3, .ptr 0 0), (6, .ptr 1 0)]) ⟨[(C_Span x_1), [i6 0, i6 0]], []⟩ ?_)
 refine Ex.seq (Ex.seq ?_)
 refine rg 2 [2, 3, 6, 8] (mkS 20 [(2, i6 n_3), (3, .ptr 0 0), (6, .ptr 1 0), (8, .bool (!some_2))]) ⟨[(C_Span x_1), [i6 0, i6 0]], []⟩ ?_
 rcases condI h with ⟨hc_4, h⟩ | ⟨hc_4, h⟩
 ·refine Ex.condT _ rfl hc_4 ?_
  refine Ex.seq ?_
  obtain ⟨r_5, hr_5, h⟩ := bE h
  refine Ex.reg (rn 1 [6, 9] (mkS 20 [(6, .ptr 1 0), (9, i6 n_3)]) ⟨[(C_Span x_1), [i6 0, i6 0]], []⟩ ?_)
  refine ExO.callL [] [i6 n_3] rfl rfl (a_bl2_one n_3) rfl rfl (d_bl2_one N n_3 r_5 hr_5) (b_bl2_one _ _ _ _) rfl ?_
  refine rn 1 [6] (mkS 20 [(6, .ptr 1 0)]) ⟨[(C_Span x_1), (C_Span r_5)], []⟩ ?_
  refine ExO.nil ?_
  refine Ex.ret ?_
  obtain rfl := sJ h
  exact rt ((A_Span r_5))
 ·refine Ex.condF _ rfl hc_4 ?_
  refine Ex.skip ?_
  refine Ex.seq ?_
  obtain ⟨r_6, hr_6, h⟩ := bE h
  refine Ex.reg (rn 8 [6, 14, 18] (mkS 20 [(6, .ptr 1 0), (14, i6 (if n_3 < x_1.Lo then n_3 else x_1.Lo)), (18, i6 (if n_3 > x_1.Hi then n_3 else x_1.Hi))]) ⟨[(C_Span x_1), [i6 0, i6 0]], []⟩ ?_)
  refine ExO.callL [] [i6 (if n_3 < x_1.Lo then n_3 else x_1.Lo), i6 (if n_3 > x_1.Hi then n_3 else x_1.Hi)] rfl rfl (a_bl2_span (if n_3 < x_1.Lo then n_3 else x_1.Lo) (if n_3 > x_1.Hi then n_3 else x_1.Hi)) rfl rfl (d_bl2_span N (if n_3 < x_1.Lo then n_3 else x_1.Lo) (if n_3 > x_1.Hi then n_3 else x_1.Hi) r_6 hr_6) (b_bl2_span _ _ _ _) rfl ?_
  refine rn 1 [6] (mkS 20 [(6, .ptr 1 0)]) ⟨[(C_Span x_1), (C_Span r_6)], []⟩ ?_
  refine ExO.nil ?_
  refine Ex.ret ?_
  obtain rfl := sJ h
  exact rt ((A_Span r_6))
def p_bl2_told (N : Nat) (some_1 : Int) (all_2 : Int) : Option (Int) := (bif (some_1 == all_2) then some 1 else (bif (some_1 == 0) then some 2 else some 3))
def v_bl2_told (r : Int) : AV := i6 r
attribute [local simp] v_bl2_told
theorem a_bl2_told (some_1 : Int) (all_2 : Int) : [i6 some_1, i6 all_2].mapM (ren []) = some [i6 some_1, i6 all_2] := by simp
theorem b_bl2_told (r : Int) (n n2 m : Nat) : back n n2 m (v_bl2_told r) = some (v_bl2_told r) := by simp
theorem d_bl2_told (N : Nat) (some_1 : Int) (all_2 : Int) (r : Int) (h : p_bl2_told N some_1 all_2 = some r) : Does Try.prog 18 [i6 some_1, i6 all_2] [] fun v c => v = v_bl2_told r ∧ c = [] := by
 unfold p_bl2_told at h
 refine Does.ofL comp18 _ _ rfl rfl ?_
 refine Ex.seq (rg 1 [0, 1] (mkS 11 [(0, i6 some_1), (1, i6 all_2)]) ⟨[], []⟩ ?_)
 refine Ex.seq (Ex.seq ?_)
 refine rg 1 [1, 5] (mkS 11 [(1, i6 all_2), (5, i6 some_1)]) ⟨[], []⟩ ?_
 refine Ex.blockK ?_
 refine Ex.seq (rg 3 [5, 6] (mkS 11 [(5, i6 some_1), (6, .bool (some_1 == all_2))]) ⟨[], []⟩ ?_)
 rcases condI h with ⟨hc_3, h⟩ | ⟨hc_3, h⟩
 ·refine Ex.condT _ rfl hc_3 ?_
  refine Ex.seq (rg 1 [4] (mkS 11 [(4, i6 1)]) ⟨[], []⟩ ?_)
  refine Ex.ret ?_
  obtain rfl := sJ h
  exact rt (i6 1)
 ·refine Ex.condF _ rfl hc_3 ?_
  refine Ex.seq (rg 2 [9] (mkS 11 [(9, .bool (some_1 == 0))]) ⟨[], []⟩ ?_)
  rcases condI h with ⟨hc_4, h⟩ | ⟨hc_4, h⟩
  ·refine Ex.condT _ rfl hc_4 ?_
   refine Ex.seq (rg 1 [4] (mkS 11 [(4, i6 2)]) ⟨[], []⟩ ?_)
   refine Ex.ret ?_
   obtain rfl := sJ h
   exact rt (i6 2)
  ·refine Ex.condF _ rfl hc_4 ?_
   refine Ex.skip ?_
   refine Ex.seq (rg 1 [4] (mkS 11 [(4, i6 3)]) ⟨[], []⟩ ?_)
   refine Ex.ret ?_
   obtain rfl := sJ h
   exact rt (i6 3)
def p_bl2_swan (N : Nat)  : Option (T_Float) := ((p_bl2_span N 500 600).bind fun r_1 => ((p_bl2_span N 450 500).bind fun r_2 => ((p_bl2_one N 1000).bind fun r_3 => ((p_bl2_one N 380).bind fun r_4 => ((p_bl2_span N 100 200).bind fun r_5 => ((p_bl2_span N 300 350).bind fun r_6 => ((p_bl2_one N 50).bind fun r_7 => ((p_bl2_span N 400 520).bind fun r_8 => some (⟨1000, 300, 200, 800, 900, 4000, 500, 400, [(⟨300, r_1, r_2, 1, 0⟩ : T_Load), (⟨700, r_3, r_4, 2, 5000⟩ : T_Load), (⟨500, r_5, r_6, 3, 3000⟩ : T_Load), (⟨600, r_7, r_8, 4, 0⟩ : T_Load)]⟩ : T_Float)))))))))
def v_bl2_swan (r : T_Float) : AV := (A_Float r)
attribute [local simp] v_bl2_swan
theorem a_bl2_swan  : [].mapM (ren []) = some [] := by simp
theorem b_bl2_swan (r : T_Float) (n n2 m : Nat) : back n n2 m (v_bl2_swan r) = some (v_bl2_swan r) := by simp
theorem d_bl2_swan (N : Nat)  (r : T_Float) (h : p_bl2_swan N  = some r) : Does Try.prog 46 [] [] fun v c => v = v_bl2_swan r ∧ c = [] := by
 unfold p_bl2_swan at h
 refine Does.ofL comp46 _ _ rfl rfl ?_
 refine Ex.seq (rg 1 [0] (mkS 15 [(0, .ptr 0 0)]) ⟨[[i6 0, i6 0, i6 0, i6 0, i6 0, i6 0, i6 0, i6 0, .nils]], []⟩ ?_)
 refine Ex.seq ?_
 obtain ⟨r_1, hr_1, h⟩ := bE h
 refine Ex.reg ?_
 refine ExO.callL [] [i6 500, i6 600] rfl rfl (a_bl2_span 500 600) rfl rfl (d_bl2_span N 500 600 r_1 hr_1) (b_bl2_span _ _ _ _) rfl ?_
 obtain ⟨r_2, hr_2, h⟩ := bE h
 refine ExO.callL [] [i6 450, i6 500] rfl rfl (a_bl2_span 450 500) rfl rfl (d_bl2_span N 450 500 r_2 hr_2) (b_bl2_span _ _ _ _) rfl ?_
 obtain ⟨r_3, hr_3, h⟩ := bE h
 refine rn 1 [0, 3] (mkS 15 [(0, .ptr 0 0), (3, .agg [i6 300, i6 r_1.Lo, i6 r_1.Hi, i6 r_2.Lo, i6 r_2.Hi, i6 1, i6 0])]) ⟨[[i6 0, i6 0, i6 0, i6 0, i6 0, i6 0, i6 0, i6 0, .nils]], []⟩ ?_
 refine ExO.callL [] [i6 1000] rfl rfl (a_bl2_one 1000) rfl rfl (d_bl2_one N 1000 r_3 hr_3) (b_bl2_one _ _ _ _) rfl ?_
 obtain ⟨r_4, hr_4, h⟩ := bE h
 refine ExO.callL [] [i6 380] rfl rfl (a_bl2_one 380) rfl rfl (d_bl2_one N 380 r_4 hr_4) (b_bl2_one _ _ _ _) rfl ?_
 obtain ⟨r_5, hr_5, h⟩ := bE h
 refine rn 1 [0, 3, 6] (mkS 15 [(0, .ptr 0 0), (3, .agg [i6 300, i6 r_1.Lo, i6 r_1.Hi, i6 r_2.Lo, i6 r_2.Hi, i6 1, i6 0]), (6, .agg [i6 700, i6 r_3.Lo, i6 r_3.Hi, i6 r_4.Lo, i6 r_4.Hi, i6 2, i6 5000])]) ⟨[[i6 0, i6 0, i6 0, i6 0, i6 0, i6 0, i6 0, i6 0, .nils]], []⟩ ?_
 refine ExO.callL [] [i6 100, i6 200] rfl rfl (a_bl2_span 100 200) rfl rfl (d_bl2_span N 100 200 r_5 hr_5) (b_bl2_span _ _ _ _) rfl ?_
 obtain ⟨r_6, hr_6, h⟩ := bE h
 refine ExO.callL [] [i6 300, i6 350] rfl rfl (a_bl2_span 300 350) rfl rfl (d_bl2_span N 300 350 r_6 hr_6) (b_bl2_span _ _ _ _) rfl ?_
 obtain ⟨r_7, hr_7, h⟩ := bE h
 refine rn 1 [0, 3, 6, 9] (mkS 15 [(0, .ptr 0 0), (3, .agg [i6 300, i6 r_1.Lo, i6 r_1.Hi, i6 r_2.Lo, i6 r_2.Hi, i6 1, i6 0]), (6, .agg [i6 700, i6 r_3.Lo, i6 r_3.Hi, i6 r_4.Lo, i6 r_4.Hi, i6 2, i6 5000]), (9, .agg [i6 500, i6 r_5.Lo, i6 r_5.Hi, i6 r_6.Lo, i6 r_6.Hi, i6 3, i6 3000])]) ⟨[[i6 0, i6 0, i6 0, i6 0, i6 0, i6 0, i6 0, i6 0, .nils]], []⟩ ?_
 refine ExO.callL [] [i6 50] rfl rfl (a_bl2_one 50) rfl rfl (d_bl2_one N 50 r_7 hr_7) (b_bl2_one _ _ _ _) rfl ?_
 obtain ⟨r_8, hr_8, h⟩ := bE h
 refine ExO.callL [] [i6 400, i6 520] rfl rfl (a_bl2_span 400 520) rfl rfl (d_bl2_span N 400 520 r_8 hr_8) (b_bl2_span _ _ _ _) rfl ?_
 refine rn 4 [0] (mkS 15 [(0, .ptr 0 0)]) ⟨[[i6 1000, i6 300, i6 200, i6 800, i6 900, i6 4000, i6 500, i6 400, .sl (([(⟨300, r_1, r_2, 1, 0⟩ : T_Load), (⟨700, r_3, r_4, 2, 5000⟩ : T_Load), (⟨500, r_5, r_6, 3, 3000⟩ : T_Load), (⟨600, r_7, r_8, 4, 0⟩ : T_Load)] : List T_Load).map A_Load) (some 0)]], [(4, 7)]⟩ ?_
 refine ExO.nil ?_
 refine Ex.ret ?_
 obtain rfl := sJ h
 exact rt (.agg [i6 1000, i6 300, i6 200, i6 800, i6 900, i6 4000, i6 500, i6 400, .sl (([(⟨300, r_1, r_2, 1, 0⟩ : T_Load), (⟨700, r_3, r_4, 2, 5000⟩ : T_Load), (⟨500, r_5, r_6, 3, 3000⟩ : T_Load), (⟨600, r_7, r_8, 4, 0⟩ : T_Load)] : List T_Load).map A_Load) (some 0)])
def p_bl2_hurdle (N : Nat) (kind_1 : Int) (a_2 : Int) (b_3 : Int) : Option (T_Hurdle) := some (⟨kind_1, a_2, b_3⟩ : T_Hurdle)
def v_bl2_hurdle (r : T_Hurdle) : AV := (A_Hurdle r)
attribute [local simp] v_bl2_hurdle
theorem a_bl2_hurdle (kind_1 : Int) (a_2 : Int) (b_3 : Int) : [i6 kind_1, i6 a_2, i6 b_3].mapM (ren []) = some [i6 kind_1, i6 a_2, i6 b_3] := by simp
theorem b_bl2_hurdle (r : T_Hurdle) (n n2 m : Nat) : back n n2 m (v_bl2_hurdle r) = some (v_bl2_hurdle r) := by simp
theorem d_bl2_hurdle (N : Nat) (kind_1 : Int) (a_2 : Int) (b_3 : Int) (r : T_Hurdle) (h : p_bl2_hurdle N kind_1 a_2 b_3 = some r) : Does Try.prog 47 [i6 kind_1, i6 a_2, i6 b_3] [] fun v c => v = v_bl2_hurdle r ∧ c = [] := by
 unfold p_bl2_hurdle at h
 refine Does.ofL comp47 _ _ rfl rfl ?_
 refine Ex.seq (rg 1 [0, 1, 2, 6] (mkS 11 [(0, i6 kind_1), (1, i6 a_2), (2, i6 b_3), (6, .ptr 0 0)]) ⟨[[i6 0, i6 0, i6 0]], []⟩ ?_)
 refine Ex.seq (rg 5 [6] (mkS 11 [(6, .ptr 0 0)]) ⟨[[i6 kind_1, i6 a_2, i6 b_3]], []⟩ ?_)
 refine Ex.ret ?_
 obtain rfl := sJ h
 exact rt (.agg [i6 kind_1, i6 a_2, i6 b_3])
def p_bl2_middle (N : Nat) (n_1 : Int) : Option (T_Float) := ((p_bl2_swan N).bind fun r_2 => some (⟨r_2.Length, r_2.Width, r_2.Front, r_2.Rear, r_2.Turn, r_2.Kilos, n_1, r_2.High, r_2.Loads⟩ : T_Float))
def v_bl2_middle (r : T_Float) : AV := (A_Float r)
attribute [local simp] v_bl2_middle
theorem a_bl2_middle (n_1 : Int) : [i6 n_1].mapM (ren []) = some [i6 n_1] := by simp
theorem b_bl2_middle (r : T_Float) (n n2 m : Nat) : back n n2 m (v_bl2_middle r) = some (v_bl2_middle r) := by simp
theorem d_bl2_middle (N : Nat) (n_1 : Int) (r : T_Float) (h : p_bl2_middle N n_1 = some r) : Does Try.prog 49 [i6 n_1] [] fun v c => v = v_bl2_middle r ∧ c = [] := by
 unfold p_bl2_middle at h
 refine Does.ofL comp49 _ _ rfl rfl ?_
 refine Ex.seq (rg 1 [0, 2] (mkS 8 [(0, i6 n_1), (2, .ptr 0 0)]) ⟨[[i6 0, i6 0, i6 0, i6 0, i6 0, i6 0, i6 0, i6 0, .nils]], []⟩ ?_)
 refine Ex.seq ?_
 obtain ⟨r_2, hr_2, h⟩ := bE h
 refine Ex.reg ?_
 refine ExO.callL [] [] rfl rfl (a_bl2_swan) rfl rfl (d_bl2_swan N r_2 hr_2) (b_bl2_swan _ _ _ _) rfl ?_
 refine rn 2 [0, 2, 3] (mkS 8 [(0, i6 n_1), (2, .ptr 0 0), (3, .ptr 1 0)]) ⟨[[i6 0, i6 0, i6 0, i6 0, i6 0, i6 0, i6 0, i6 0, .nils], (C_Float r_2)], []⟩ ?_
 refine ExO.nil ?_
 refine Ex.seq (rg 3 [2, 3] (mkS 8 [(2, .ptr 0 0), (3, .ptr 1 0)]) ⟨[[i6 0, i6 0, i6 0, i6 0, i6 0, i6 0, i6 0, i6 0, .nils], [i6 r_2.Length, i6 r_2.Width, i6 r_2.Front, i6 r_2.Rear, i6 r_2.Turn, i6 r_2.Kilos, i6 n_1, i6 r_2.High, .sl (r_2.Loads.map A_Load) none]], []⟩ ?_)
 refine Ex.seq (rg 2 [2] (mkS 8 [(2, .ptr 0 0)]) ⟨[[i6 r_2.Length, i6 r_2.Width, i6 r_2.Front, i6 r_2.Rear, i6 r_2.Turn, i6 r_2.Kilos, i6 n_1, i6 r_2.High, .sl (r_2.Loads.map A_Load) none], [i6 r_2.Length, i6 r_2.Width, i6 r_2.Front, i6 r_2.Rear, i6 r_2.Turn, i6 r_2.Kilos, i6 n_1, i6 r_2.High, .sl (r_2.Loads.map A_Load) none]], []⟩ ?_)
 refine Ex.ret ?_
 obtain rfl := sJ h
 exact rt (.agg [i6 r_2.Length, i6 r_2.Width, i6 r_2.Front, i6 r_2.Rear, i6 r_2.Turn, i6 r_2.Kilos, i6 n_1, i6 r_2.High, .sl (r_2.Loads.map A_Load) none])
theorem k_bl2_span (N : Nat) (low_1 : Int) (high_2 : Int) (low_1z : Int) (high_2z : Int) (r s : T_Span) (hr : p_bl2_span N low_1 high_2 = some r) (hs : p_bl2_span N low_1z high_2z = some s) : ConsR ⟨19, [i6 low_1, i6 high_2], [], v_bl2_span r, []⟩ ⟨19, [i6 low_1z, i6 high_2z], [], v_bl2_span s, []⟩ := by
 intro _ h1 h2
 have h1 : ([i6 low_1, i6 high_2] : List AV) = [i6 low_1z, i6 high_2z] := h1
 have h2 : ([] : List (List AV)) = [] := h2
 obtain rfl : low_1 = low_1z := (intInj _) _ _ (List.cons.inj h1).1
 obtain rfl : high_2 = high_2z := (intInj _) _ _ (List.cons.inj (List.cons.inj h1).2).1
 rw [hr] at hs; cases hs; exact ⟨rfl, rfl⟩
def p_bl2_awake (N : Nat)  : Option (Bool) := ((p_bl2_swan N).bind fun r_1 => ((p_Axles N r_1).bind fun r_2 => ((p_bl2_swan N).bind fun r_3 => ((p_bl2_hurdle N 1 700 1400).bind fun r_4 => ((p_bl2_hurdle N 2 519 0).bind fun r_5 => ((p_bl2_hurdle N 3 5649 3067).bind fun r_6 => ((p_Passes N r_3 [r_4, r_5, r_6]).bind fun r_7 => ((p_bl2_middle N 900).bind fun r_8 => ((p_Ballast N r_8 [] 200).bind fun r_9 => (bif (r_2.2.2 == 0) then (bif (r_7.2 == 0) then (bif (r_9.2 == 0) then ((p_bl2_span N 2650 2784).bind fun r_13 => (bif ((r_2.1.Lo == r_13.Lo) && ((r_2.1.Hi == r_13.Hi) && true)) then ((p_bl2_span N 3000 3067).bind fun r_15 => (bif ((r_2.2.1.Lo == r_15.Lo) && ((r_2.2.1.Hi == r_15.Hi) && true)) then ((p_bk_EqInts N r_7.1 [1, 3, 2]).bind fun r_17 => (bif r_17 then ((p_bl2_span N 17 100000).bind fun r_19 => some ((r_9.1.Lo == r_19.Lo) && ((r_9.1.Hi == r_19.Hi) && true))) else some false)) else some false)) else some false)) else some false) else some false) else some false))))))))))
def v_bl2_awake (r : Bool) : AV := .bool r
attribute [local simp] v_bl2_awake
theorem a_bl2_awake  : [].mapM (ren []) = some [] := by simp
theorem b_bl2_awake (r : Bool) (n n2 m : Nat) : back n n2 m (v_bl2_awake r) = some (v_bl2_awake r) := by simp
theorem d_bl2_awake (N : Nat)  (r : Bool) (h : p_bl2_awake N  = some r) : Does Try.prog 22 [] [] fun v c => v = v_bl2_awake r ∧ c = [] := by
 unfold p_bl2_awake at h
 refine Does.ofL comp22 _ _ rfl rfl ?_
 refine Ex.seq (rg 1 [] (mkS 58 []) ⟨[], []⟩ ?_)
 refine Ex.seq ?_
 obtain ⟨r_1, hr_1, h⟩ := bE h
 refine Ex.reg ?_
 refine ExO.callL [] [] rfl rfl (a_bl2_swan) rfl rfl (d_bl2_swan N r_1 hr_1) (b_bl2_swan _ _ _ _) rfl ?_
 obtain ⟨r_2, hr_2, h⟩ := bE h
 refine ExO.callL [] [(A_Float r_1)] rfl rfl (a_Axles r_1) rfl rfl (d_Axles N r_1 r_2 hr_2) (b_Axles _ _ _ _) rfl ?_
 refine rn 9 [1, 2, 3] (mkS 58 [(1, .ptr 0 0), (2, .ptr 1 0), (3, i6 r_2.2.2)]) ⟨[(C_Span r_2.1), (C_Span r_2.2.1)], []⟩ ?_
 refine ExO.nil ?_
 refine Ex.seq ?_
 obtain ⟨r_3, hr_3, h⟩ := bE h
 refine Ex.reg ?_
 refine ExO.callL [] [] rfl rfl (a_bl2_swan) rfl rfl (d_bl2_swan N r_3 hr_3) (b_bl2_swan _ _ _ _) rfl ?_
 obtain ⟨r_4, hr_4, h⟩ := bE h
 refine ExO.callL [] [i6 1, i6 700, i6 1400] rfl rfl (a_bl2_hurdle 1 700 1400) rfl rfl (d_bl2_hurdle N 1 700 1400 r_4 hr_4) (b_bl2_hurdle _ _ _ _) rfl ?_
 obtain ⟨r_5, hr_5, h⟩ := bE h
 refine ExO.callL [] [i6 2, i6 519, i6 0] rfl rfl (a_bl2_hurdle 2 519 0) rfl rfl (d_bl2_hurdle N 2 519 0 r_5 hr_5) (b_bl2_hurdle _ _ _ _) rfl ?_
 obtain ⟨r_6, hr_6, h⟩ := bE h
 refine ExO.callL [] [i6 3, i6 5649, i6 3067] rfl rfl (a_bl2_hurdle 3 5649 3067) rfl rfl (d_bl2_hurdle N 3 5649 3067 r_6 hr_6) (b_bl2_hurdle _ _ _ _) rfl ?_
 obtain ⟨r_7, hr_7, h⟩ := bE h
 refine rn 1 [1, 2, 3, 15, 19] (mkS 58 [(1, .ptr 0 0), (2, .ptr 1 0), (3, i6 r_2.2.2), (15, (A_Float r_3)), (19, .sl (([r_4, r_5, r_6] : List T_Hurdle).map A_Hurdle) (some 0))]) ⟨[(C_Span r_2.1), (C_Span r_2.2.1)], [(3, 3)]⟩ ?_
 refine ExO.callL [] [(A_Float r_3), .sl (([r_4, r_5, r_6] : List T_Hurdle).map A_Hurdle) (some 0)] rfl rfl (a_Passes r_3 [r_4, r_5, r_6]) rfl rfl (d_Passes N r_3 [r_4, r_5, r_6] r_7 hr_7) (b_Passes _ _ _ _) rfl ?_
 refine rn 5 [1, 2, 3, 4, 5] (mkS 58 [(1, .ptr 0 0), (2, .ptr 1 0), (3, i6 r_2.2.2), (4, .sl (r_7.1.map (AV.int .i64)) none), (5, i6 r_7.2)]) ⟨[(C_Span r_2.1), (C_Span r_2.2.1)], [(3, 3)]⟩ ?_
 refine ExO.nil ?_
 refine Ex.seq ?_
 obtain ⟨r_8, hr_8, h⟩ := bE h
 refine Ex.reg ?_
 refine ExO.callL [] [i6 900] rfl rfl (a_bl2_middle 900) rfl rfl (d_bl2_middle N 900 r_8 hr_8) (b_bl2_middle _ _ _ _) rfl ?_
 obtain ⟨r_9, hr_9, h⟩ := bE h
 refine ExO.callL [] [(A_Float r_8), .nils, i6 200] rfl rfl (a_Ballast r_8 [] 200) rfl rfl (d_Ballast N r_8 [] 200 r_9 hr_9) (b_Ballast _ _ _ _) rfl ?_
 refine rn 6 [1, 2, 3, 4, 5, 6, 7] (mkS 58 [(1, .ptr 0 0), (2, .ptr 1 0), (3, i6 r_2.2.2), (4, .sl (r_7.1.map (AV.int .i64)) none), (5, i6 r_7.2), (6, .ptr 2 0), (7, i6 r_9.2)]) ⟨[(C_Span r_2.1), (C_Span r_2.2.1), (C_Span r_9.1)], [(3, 3)]⟩ ?_
 refine ExO.nil ?_
 refine Ex.seq ?_
 rcases condI h with ⟨hc_10, h⟩ | ⟨hc_10, h⟩
 ·rcases condI h with ⟨hc_11, h⟩ | ⟨hc_11, h⟩
  ·rcases condI h with ⟨hc_12, h⟩ | ⟨hc_12, h⟩
   ·obtain ⟨r_13, hr_13, h⟩ := bE h
    rcases condI h with ⟨hc_14, h⟩ | ⟨hc_14, h⟩
    ·obtain ⟨r_15, hr_15, h⟩ := bE h
     rcases condI h with ⟨hc_16, h⟩ | ⟨hc_16, h⟩
     ·obtain ⟨r_17, hr_17, h⟩ := bE h
      rcases condI h with ⟨hc_18, h⟩ | ⟨hc_18, h⟩
      ·obtain ⟨r_19, hr_19, h⟩ := bE h
       have hT_20 : DoesA Try.prog [⟨19, [i6 2650, i6 2784], [], (v_bl2_span r_13), []⟩, ⟨19, [i6 3000, i6 3067], [], (v_bl2_span r_15), []⟩, ⟨50, [.sl (r_7.1.map (AV.int .i64)) none, .sl (([1, 3, 2] : List Int).map (AV.int .i64)) none], [], (v_bk_EqInts r_17), []⟩, ⟨19, [i6 17, i6 100000], [], (v_bl2_span r_19), []⟩] ∧ ConsA [⟨19, [i6 2650, i6 2784], [], (v_bl2_span r_13), []⟩, ⟨19, [i6 3000, i6 3067], [], (v_bl2_span r_15), []⟩, ⟨50, [.sl (r_7.1.map (AV.int .i64)) none, .sl (([1, 3, 2] : List Int).map (AV.int .i64)) none], [], (v_bk_EqInts r_17), []⟩, ⟨19, [i6 17, i6 100000], [], (v_bl2_span r_19), []⟩] := ⟨⟨(d_bl2_span N 2650 2784 r_13 hr_13), rfl, (d_bl2_span N 3000 3067 r_15 hr_15), rfl, (d_bk_EqInts N r_7.1 [1, 3, 2] r_17 hr_17), rfl, (d_bl2_span N 17 100000 r_19 hr_19), rfl, trivial⟩, ⟨⟨k_bl2_span N 2650 2784 3000 3067 r_13 r_15 hr_13 hr_15, ConsR.ne rfl, k_bl2_span N 2650 2784 17 100000 r_13 r_19 hr_13 hr_19, trivial⟩, ⟨ConsR.ne rfl, k_bl2_span N 3000 3067 17 100000 r_15 r_19 hr_15 hr_19, trivial⟩, ⟨ConsR.ne rfl, trivial⟩, trivial, trivial⟩⟩
       refine Ex.drawE (a1 := mkS 58 [(1, .ptr 0 0), (2, .ptr 1 0), (3, i6 r_2.2.2), (4, .sl (r_7.1.map (AV.int .i64)) none), (5, i6 r_7.2), (6, .ptr 2 0), (7, i6 r_9.2), (28, i6 r_2.2.2), (29, .bool (r_2.2.2 == 0)), (30, .bool true), (31, i6 r_7.2), (32, .bool (r_7.2 == 0)), (33, .bool (r_7.2 == 0)), (34, .bool true), (35, i6 r_9.2), (36, .bool (r_9.2 == 0)), (37, .bool (r_9.2 == 0)), (38, .bool true), (39, (A_Span r_2.1)), (40, (A_Span r_13)), (41, .bool ((r_2.1.Lo == r_13.Lo) && ((r_2.1.Hi == r_13.Hi) && true))), (42, .bool ((r_2.1.Lo == r_13.Lo) && ((r_2.1.Hi == r_13.Hi) && true))), (43, .bool true), (44, (A_Span r_2.2.1)), (45, (A_Span r_15)), (46, .bool ((r_2.2.1.Lo == r_15.Lo) && ((r_2.2.1.Hi == r_15.Hi) && true))), (47, .bool ((r_2.2.1.Lo == r_15.Lo) && ((r_2.2.1.Hi == r_15.Hi) && true))), (48, .bool true), (49, .sl (r_7.1.map (AV.int .i64)) none), (50, .sl (([1, 3, 2] : List Int).map (AV.int .i64)) (some 1)), (51, .bool r_17), (52, .bool r_17), (53, .bool true), (54, (A_Span r_9.1)), (55, (A_Span r_19))]) (tabO_ok hT_20.1) [] [(3, 1)] [] ?_ ?_
       ·refine drS [0, 1, 2] 12 [(2, .eq (.bool true)), (6, .eq (.bool true)), (10, .eq (.bool true))] [AV.bool (r_2.2.2 == 0) = AV.bool true, AV.bool (r_7.2 == 0) = AV.bool true, AV.bool (r_9.2 == 0) = AV.bool true] (mkS 58 [(1, .ptr 0 0), (2, .ptr 1 0), (3, i6 r_2.2.2), (4, .sl (r_7.1.map (AV.int .i64)) none), (5, i6 r_7.2), (6, .ptr 2 0), (7, i6 r_9.2), (28, i6 r_2.2.2), (29, .bool (r_2.2.2 == 0)), (30, .bool true), (31, i6 r_7.2), (32, .bool (r_7.2 == 0)), (33, .bool (r_7.2 == 0)), (34, .bool true), (35, i6 r_9.2), (36, .bool (r_9.2 == 0)), (37, .bool (r_9.2 == 0)), (38, .bool true), (39, (A_Span r_2.1))]) (by simp) (by kernel_rfl) ⟨congrArg AV.bool hc_10, congrArg AV.bool hc_11, congrArg AV.bool hc_12, trivial⟩ (by kernel_rfl) ?_
        refine drC hT_20.2 0 _ [i6 2650, i6 2784] (v_bl2_span r_13) rfl rfl rfl rfl rfl (fun _ => rfl) rfl (by simp; try rfl) (fun _ => b_bl2_span _ _ _ _) ?_
        refine drS [0, 1, 2] 4 [(2, .eq (.bool true))] [AV.bool ((r_2.1.Lo == r_13.Lo) && ((r_2.1.Hi == r_13.Hi) && true)) = AV.bool true] (mkS 58 [(1, .ptr 0 0), (2, .ptr 1 0), (3, i6 r_2.2.2), (4, .sl (r_7.1.map (AV.int .i64)) none), (5, i6 r_7.2), (6, .ptr 2 0), (7, i6 r_9.2), (28, i6 r_2.2.2), (29, .bool (r_2.2.2 == 0)), (30, .bool true), (31, i6 r_7.2), (32, .bool (r_7.2 == 0)), (33, .bool (r_7.2 == 0)), (34, .bool true), (35, i6 r_9.2), (36, .bool (r_9.2 == 0)), (37, .bool (r_9.2 == 0)), (38, .bool true), (39, (A_Span r_2.1)), (40, (A_Span r_13)), (41, .bool ((r_2.1.Lo == r_13.Lo) && ((r_2.1.Hi == r_13.Hi) && true))), (42, .bool ((r_2.1.Lo == r_13.Lo) && ((r_2.1.Hi == r_13.Hi) && true))), (43, .bool true), (44, (A_Span r_2.2.1))]) (by simp) (by kernel_rfl) ⟨congrArg AV.bool hc_14, trivial⟩ (by kernel_rfl) ?_
        refine drC hT_20.2 1 _ [i6 3000, i6 3067] (v_bl2_span r_15) rfl rfl rfl rfl rfl (fun _ => rfl) rfl (by simp; try rfl) (fun _ => b_bl2_span _ _ _ _) ?_
        refine drS [0, 1, 2] 4 [(2, .eq (.bool true))] [AV.bool ((r_2.2.1.Lo == r_15.Lo) && ((r_2.2.1.Hi == r_15.Hi) && true)) = AV.bool true] (mkS 58 [(1, .ptr 0 0), (2, .ptr 1 0), (3, i6 r_2.2.2), (4, .sl (r_7.1.map (AV.int .i64)) none), (5, i6 r_7.2), (6, .ptr 2 0), (7, i6 r_9.2), (28, i6 r_2.2.2), (29, .bool (r_2.2.2 == 0)), (30, .bool true), (31, i6 r_7.2), (32, .bool (r_7.2 == 0)), (33, .bool (r_7.2 == 0)), (34, .bool true), (35, i6 r_9.2), (36, .bool (r_9.2 == 0)), (37, .bool (r_9.2 == 0)), (38, .bool true), (39, (A_Span r_2.1)), (40, (A_Span r_13)), (41, .bool ((r_2.1.Lo == r_13.Lo) && ((r_2.1.Hi == r_13.Hi) && true))), (42, .bool ((r_2.1.Lo == r_13.Lo) && ((r_2.1.Hi == r_13.Hi) && true))), (43, .bool true), (44, (A_Span r_2.2.1)), (45, (A_Span r_15)), (46, .bool ((r_2.2.1.Lo == r_15.Lo) && ((r_2.2.1.Hi == r_15.Hi) && true))), (47, .bool ((r_2.2.1.Lo == r_15.Lo) && ((r_2.2.1.Hi == r_15.Hi) && true))), (48, .bool true), (49, .sl (r_7.1.map (AV.int .i64)) none)]) (by simp) (by kernel_rfl) ⟨congrArg AV.bool hc_16, trivial⟩ (by kernel_rfl) ?_
        refine drR 1 1 (([1, 3, 2] : List Int).map (AV.int .i64)) rfl rfl (fun _ => by kernel_rfl) (by simp) rfl rfl ?_
        refine drC hT_20.2 2 _ [.sl (r_7.1.map (AV.int .i64)) none, .sl (([1, 3, 2] : List Int).map (AV.int .i64)) (some 1)] (v_bk_EqInts r_17) rfl rfl rfl rfl rfl (fun _ => rfl) rfl (by simp; try rfl) (fun _ => b_bk_EqInts _ _ _ _) ?_
        refine drS [0, 1, 2] 3 [(1, .eq (.bool true))] [AV.bool r_17 = AV.bool true] (mkS 58 [(1, .ptr 0 0), (2, .ptr 1 0), (3, i6 r_2.2.2), (4, .sl (r_7.1.map (AV.int .i64)) none), (5, i6 r_7.2), (6, .ptr 2 0), (7, i6 r_9.2), (28, i6 r_2.2.2), (29, .bool (r_2.2.2 == 0)), (30, .bool true), (31, i6 r_7.2), (32, .bool (r_7.2 == 0)), (33, .bool (r_7.2 == 0)), (34, .bool true), (35, i6 r_9.2), (36, .bool (r_9.2 == 0)), (37, .bool (r_9.2 == 0)), (38, .bool true), (39, (A_Span r_2.1)), (40, (A_Span r_13)), (41, .bool ((r_2.1.Lo == r_13.Lo) && ((r_2.1.Hi == r_13.Hi) && true))), (42, .bool ((r_2.1.Lo == r_13.Lo) && ((r_2.1.Hi == r_13.Hi) && true))), (43, .bool true), (44, (A_Span r_2.2.1)), (45, (A_Span r_15)), (46, .bool ((r_2.2.1.Lo == r_15.Lo) && ((r_2.2.1.Hi == r_15.Hi) && true))), (47, .bool ((r_2.2.1.Lo == r_15.Lo) && ((r_2.2.1.Hi == r_15.Hi) && true))), (48, .bool true), (49, .sl (r_7.1.map (AV.int .i64)) none), (50, .sl (([1, 3, 2] : List Int).map (AV.int .i64)) (some 1)), (51, .bool r_17), (52, .bool r_17), (53, .bool true), (54, (A_Span r_9.1))]) (by simp) (by kernel_rfl) ⟨congrArg AV.bool hc_18, trivial⟩ (by kernel_rfl) ?_
        refine drC hT_20.2 3 _ [i6 17, i6 100000] (v_bl2_span r_19) rfl rfl rfl rfl rfl (fun _ => rfl) rfl (by simp; try rfl) (fun _ => b_bl2_span _ _ _ _) ?_
        exact DrO.nil rfl
       ·dsimp only [List.getLastD_cons, List.getLastD_nil]
        refine rn 3 [0] (mkS 58 [(0, .bool ((r_9.1.Lo == r_19.Lo) && ((r_9.1.Hi == r_19.Hi) && true)))]) ⟨[(C_Span r_2.1), (C_Span r_2.2.1), (C_Span r_9.1)], [(3, 3), (3, 1)]⟩ ?_
        refine ExO.nil ?_
        refine Ex.ret ?_
        obtain rfl := sJ h
        exact rt (.bool ((r_9.1.Lo == r_19.Lo) && ((r_9.1.Hi == r_19.Hi) && true)))
      ·have hT_21 : DoesA Try.prog [⟨19, [i6 2650, i6 2784], [], (v_bl2_span r_13), []⟩, ⟨19, [i6 3000, i6 3067], [], (v_bl2_span r_15), []⟩, ⟨50, [.sl (r_7.1.map (AV.int .i64)) none, .sl (([1, 3, 2] : List Int).map (AV.int .i64)) none], [], (v_bk_EqInts r_17), []⟩] ∧ ConsA [⟨19, [i6 2650, i6 2784], [], (v_bl2_span r_13), []⟩, ⟨19, [i6 3000, i6 3067], [], (v_bl2_span r_15), []⟩, ⟨50, [.sl (r_7.1.map (AV.int .i64)) none, .sl (([1, 3, 2] : List Int).map (AV.int .i64)) none], [], (v_bk_EqInts r_17), []⟩] := ⟨⟨(d_bl2_span N 2650 2784 r_13 hr_13), rfl, (d_bl2_span N 3000 3067 r_15 hr_15), rfl, (d_bk_EqInts N r_7.1 [1, 3, 2] r_17 hr_17), rfl, trivial⟩, ⟨⟨k_bl2_span N 2650 2784 3000 3067 r_13 r_15 hr_13 hr_15, ConsR.ne rfl, trivial⟩, ⟨ConsR.ne rfl, trivial⟩, trivial, trivial⟩⟩
       refine Ex.drawE (a1 := mkS 58 [(1, .ptr 0 0), (2, .ptr 1 0), (3, i6 r_2.2.2), (4, .sl (r_7.1.map (AV.int .i64)) none), (5, i6 r_7.2), (6, .ptr 2 0), (7, i6 r_9.2), (28, i6 r_2.2.2), (29, .bool (r_2.2.2 == 0)), (30, .bool true), (31, i6 r_7.2), (32, .bool (r_7.2 == 0)), (33, .bool (r_7.2 == 0)), (34, .bool true), (35, i6 r_9.2), (36, .bool (r_9.2 == 0)), (37, .bool (r_9.2 == 0)), (38, .bool true), (39, (A_Span r_2.1)), (40, (A_Span r_13)), (41, .bool ((r_2.1.Lo == r_13.Lo) && ((r_2.1.Hi == r_13.Hi) && true))), (42, .bool ((r_2.1.Lo == r_13.Lo) && ((r_2.1.Hi == r_13.Hi) && true))), (43, .bool true), (44, (A_Span r_2.2.1)), (45, (A_Span r_15)), (46, .bool ((r_2.2.1.Lo == r_15.Lo) && ((r_2.2.1.Hi == r_15.Hi) && true))), (47, .bool ((r_2.2.1.Lo == r_15.Lo) && ((r_2.2.1.Hi == r_15.Hi) && true))), (48, .bool true), (49, .sl (r_7.1.map (AV.int .i64)) none), (50, .sl (([1, 3, 2] : List Int).map (AV.int .i64)) (some 1)), (51, .bool r_17), (52, .bool r_17), (53, .bool false), (54, .tup []), (55, .tup [])]) (tabO_ok hT_21.1) [] [(3, 1)] [] ?_ ?_
       ·refine drS [0, 1, 2] 12 [(2, .eq (.bool true)), (6, .eq (.bool true)), (10, .eq (.bool true))] [AV.bool (r_2.2.2 == 0) = AV.bool true, AV.bool (r_7.2 == 0) = AV.bool true, AV.bool (r_9.2 == 0) = AV.bool true] (mkS 58 [(1, .ptr 0 0), (2, .ptr 1 0), (3, i6 r_2.2.2), (4, .sl (r_7.1.map (AV.int .i64)) none), (5, i6 r_7.2), (6, .ptr 2 0), (7, i6 r_9.2), (28, i6 r_2.2.2), (29, .bool (r_2.2.2 == 0)), (30, .bool true), (31, i6 r_7.2), (32, .bool (r_7.2 == 0)), (33, .bool (r_7.2 == 0)), (34, .bool true), (35, i6 r_9.2), (36, .bool (r_9.2 == 0)), (37, .bool (r_9.2 == 0)), (38, .bool true), (39, (A_Span r_2.1))]) (by simp) (by kernel_rfl) ⟨congrArg AV.bool hc_10, congrArg AV.bool hc_11, congrArg AV.bool hc_12, trivial⟩ (by kernel_rfl) ?_
        refine drC hT_21.2 0 _ [i6 2650, i6 2784] (v_bl2_span r_13) rfl rfl rfl rfl rfl (fun _ => rfl) rfl (by simp; try rfl) (fun _ => b_bl2_span _ _ _ _) ?_
        refine drS [0, 1, 2] 4 [(2, .eq (.bool true))] [AV.bool ((r_2.1.Lo == r_13.Lo) && ((r_2.1.Hi == r_13.Hi) && true)) = AV.bool true] (mkS 58 [(1, .ptr 0 0), (2, .ptr 1 0), (3, i6 r_2.2.2), (4, .sl (r_7.1.map (AV.int .i64)) none), (5, i6 r_7.2), (6, .ptr 2 0), (7, i6 r_9.2), (28, i6 r_2.2.2), (29, .bool (r_2.2.2 == 0)), (30, .bool true), (31, i6 r_7.2), (32, .bool (r_7.2 == 0)), (33, .bool (r_7.2 == 0)), (34, .bool true), (35, i6 r_9.2), (36, .bool (r_9.2 == 0)), (37, .bool (r_9.2 == 0)), (38, .bool true), (39, (A_Span r_2.1)), (40, (A_Span r_13)), (41, .bool ((r_2.1.Lo == r_13.Lo) && ((r_2.1.Hi == r_13.Hi) && true))), (42, .bool ((r_2.1.Lo == r_13.Lo) && ((r_2.1.Hi == r_13.Hi) && true))), (43, .bool true), (44, (A_Span r_2.2.1))]) (by simp) (by kernel_rfl) ⟨congrArg AV.bool hc_14, trivial⟩ (by kernel_rfl) ?_
        refine drC hT_21.2 1 _ [i6 3000, i6 3067] (v_bl2_span r_15) rfl rfl rfl rfl rfl (fun _ => rfl) rfl (by simp; try rfl) (fun _ => b_bl2_span _ _ _ _) ?_
        refine drS [0, 1, 2] 4 [(2, .eq (.bool true))] [AV.bool ((r_2.2.1.Lo == r_15.Lo) && ((r_2.2.1.Hi == r_15.Hi) && true)) = AV.bool true] (mkS 58 [(1, .ptr 0 0), (2, .ptr 1 0), (3, i6 r_2.2.2), (4, .sl (r_7.1.map (AV.int .i64)) none), (5, i6 r_7.2), (6, .ptr 2 0), (7, i6 r_9.2), (28, i6 r_2.2.2), (29, .bool (r_2.2.2 == 0)), (30, .bool true), (31, i6 r_7.2), (32, .bool (r_7.2 == 0)), (33, .bool (r_7.2 == 0)), (34, .bool true), (35, i6 r_9.2), (36, .bool (r_9.2 == 0)), (37, .bool (r_9.2 == 0)), (38, .bool true), (39, (A_Span r_2.1)), (40, (A_Span r_13)), (41, .bool ((r_2.1.Lo == r_13.Lo) && ((r_2.1.Hi == r_13.Hi) && true))), (42, .bool ((r_2.1.Lo == r_13.Lo) && ((r_2.1.Hi == r_13.Hi) && true))), (43, .bool true), (44, (A_Span r_2.2.1)), (45, (A_Span r_15)), (46, .bool ((r_2.2.1.Lo == r_15.Lo) && ((r_2.2.1.Hi == r_15.Hi) && true))), (47, .bool ((r_2.2.1.Lo == r_15.Lo) && ((r_2.2.1.Hi == r_15.Hi) && true))), (48, .bool true), (49, .sl (r_7.1.map (AV.int .i64)) none)]) (by simp) (by kernel_rfl) ⟨congrArg AV.bool hc_16, trivial⟩ (by kernel_rfl) ?_
        refine drR 1 1 (([1, 3, 2] : List Int).map (AV.int .i64)) rfl rfl (fun _ => by kernel_rfl) (by simp) rfl rfl ?_
        refine drC hT_21.2 2 _ [.sl (r_7.1.map (AV.int .i64)) none, .sl (([1, 3, 2] : List Int).map (AV.int .i64)) (some 1)] (v_bk_EqInts r_17) rfl rfl rfl rfl rfl (fun _ => rfl) rfl (by simp; try rfl) (fun _ => b_bk_EqInts _ _ _ _) ?_
        refine drS [0, 1, 2] 2 [(1, .eq (.bool false))] [AV.bool r_17 = AV.bool false] (mkS 58 [(1, .ptr 0 0), (2, .ptr 1 0), (3, i6 r_2.2.2), (4, .sl (r_7.1.map (AV.int .i64)) none), (5, i6 r_7.2), (6, .ptr 2 0), (7, i6 r_9.2), (28, i6 r_2.2.2), (29, .bool (r_2.2.2 == 0)), (30, .bool true), (31, i6 r_7.2), (32, .bool (r_7.2 == 0)), (33, .bool (r_7.2 == 0)), (34, .bool true), (35, i6 r_9.2), (36, .bool (r_9.2 == 0)), (37, .bool (r_9.2 == 0)), (38, .bool true), (39, (A_Span r_2.1)), (40, (A_Span r_13)), (41, .bool ((r_2.1.Lo == r_13.Lo) && ((r_2.1.Hi == r_13.Hi) && true))), (42, .bool ((r_2.1.Lo == r_13.Lo) && ((r_2.1.Hi == r_13.Hi) && true))), (43, .bool true), (44, (A_Span r_2.2.1)), (45, (A_Span r_15)), (46, .bool ((r_2.2.1.Lo == r_15.Lo) && ((r_2.2.1.Hi == r_15.Hi) && true))), (47, .bool ((r_2.2.1.Lo == r_15.Lo) && ((r_2.2.1.Hi == r_15.Hi) && true))), (48, .bool true), (49, .sl (r_7.1.map (AV.int .i64)) none), (50, .sl (([1, 3, 2] : List Int).map (AV.int .i64)) (some 1)), (51, .bool r_17), (52, .bool r_17), (53, .bool false)]) (by simp) (by kernel_rfl) ⟨congrArg AV.bool hc_18, trivial⟩ (by kernel_rfl) ?_
        refine drK (by kernel_rfl) (by kernel_rfl) ?_
        refine drK (by kernel_rfl) (by kernel_rfl) ?_
        exact DrO.nil rfl
       ·dsimp only [List.getLastD_cons, List.getLastD_nil]
        refine rn 3 [0] (mkS 58 [(0, .bool false)]) ⟨[(C_Span r_2.1), (C_Span r_2.2.1), (C_Span r_9.1)], [(3, 3), (3, 1)]⟩ ?_
        refine ExO.nil ?_
        refine Ex.ret ?_
        obtain rfl := sJ h
        exact rt (.bool false)
     ·have hT_22 : DoesA Try.prog [⟨19, [i6 2650, i6 2784], [], (v_bl2_span r_13), []⟩, ⟨19, [i6 3000, i6 3067], [], (v_bl2_span r_15), []⟩] ∧ ConsA [⟨19, [i6 2650, i6 2784], [], (v_bl2_span r_13), []⟩, ⟨19, [i6 3000, i6 3067], [], (v_bl2_span r_15), []⟩] := ⟨⟨(d_bl2_span N 2650 2784 r_13 hr_13), rfl, (d_bl2_span N 3000 3067 r_15 hr_15), rfl, trivial⟩, ⟨⟨k_bl2_span N 2650 2784 3000 3067 r_13 r_15 hr_13 hr_15, trivial⟩, trivial, trivial⟩⟩
      refine Ex.drawE (a1 := mkS 58 [(1, .ptr 0 0), (2, .ptr 1 0), (3, i6 r_2.2.2), (4, .sl (r_7.1.map (AV.int .i64)) none), (5, i6 r_7.2), (6, .ptr 2 0), (7, i6 r_9.2), (28, i6 r_2.2.2), (29, .bool (r_2.2.2 == 0)), (30, .bool true), (31, i6 r_7.2), (32, .bool (r_7.2 == 0)), (33, .bool (r_7.2 == 0)), (34, .bool true), (35, i6 r_9.2), (36, .bool (r_9.2 == 0)), (37, .bool (r_9.2 == 0)), (38, .bool true), (39, (A_Span r_2.1)), (40, (A_Span r_13)), (41, .bool ((r_2.1.Lo == r_13.Lo) && ((r_2.1.Hi == r_13.Hi) && true))), (42, .bool ((r_2.1.Lo == r_13.Lo) && ((r_2.1.Hi == r_13.Hi) && true))), (43, .bool true), (44, (A_Span r_2.2.1)), (45, (A_Span r_15)), (46, .bool ((r_2.2.1.Lo == r_15.Lo) && ((r_2.2.1.Hi == r_15.Hi) && true))), (47, .bool ((r_2.2.1.Lo == r_15.Lo) && ((r_2.2.1.Hi == r_15.Hi) && true))), (48, .bool false), (49, .tup []), (50, .tup []), (51, .tup []), (52, .bool false), (53, .bool false), (54, .tup []), (55, .tup [])]) (tabO_ok hT_22.1) [] [(3, 1)] [] ?_ ?_
      ·refine drS [0, 1, 2] 12 [(2, .eq (.bool true)), (6, .eq (.bool true)), (10, .eq (.bool true))] [AV.bool (r_2.2.2 == 0) = AV.bool true, AV.bool (r_7.2 == 0) = AV.bool true, AV.bool (r_9.2 == 0) = AV.bool true] (mkS 58 [(1, .ptr 0 0), (2, .ptr 1 0), (3, i6 r_2.2.2), (4, .sl (r_7.1.map (AV.int .i64)) none), (5, i6 r_7.2), (6, .ptr 2 0), (7, i6 r_9.2), (28, i6 r_2.2.2), (29, .bool (r_2.2.2 == 0)), (30, .bool true), (31, i6 r_7.2), (32, .bool (r_7.2 == 0)), (33, .bool (r_7.2 == 0)), (34, .bool true), (35, i6 r_9.2), (36, .bool (r_9.2 == 0)), (37, .bool (r_9.2 == 0)), (38, .bool true), (39, (A_Span r_2.1))]) (by simp) (by kernel_rfl) ⟨congrArg AV.bool hc_10, congrArg AV.bool hc_11, congrArg AV.bool hc_12, trivial⟩ (by kernel_rfl) ?_
       refine drC hT_22.2 0 _ [i6 2650, i6 2784] (v_bl2_span r_13) rfl rfl rfl rfl rfl (fun _ => rfl) rfl (by simp; try rfl) (fun _ => b_bl2_span _ _ _ _) ?_
       refine drS [0, 1, 2] 4 [(2, .eq (.bool true))] [AV.bool ((r_2.1.Lo == r_13.Lo) && ((r_2.1.Hi == r_13.Hi) && true)) = AV.bool true] (mkS 58 [(1, .ptr 0 0), (2, .ptr 1 0), (3, i6 r_2.2.2), (4, .sl (r_7.1.map (AV.int .i64)) none), (5, i6 r_7.2), (6, .ptr 2 0), (7, i6 r_9.2), (28, i6 r_2.2.2), (29, .bool (r_2.2.2 == 0)), (30, .bool true), (31, i6 r_7.2), (32, .bool (r_7.2 == 0)), (33, .bool (r_7.2 == 0)), (34, .bool true), (35, i6 r_9.2), (36, .bool (r_9.2 == 0)), (37, .bool (r_9.2 == 0)), (38, .bool true), (39, (A_Span r_2.1)), (40, (A_Span r_13)), (41, .bool ((r_2.1.Lo == r_13.Lo) && ((r_2.1.Hi == r_13.Hi) && true))), (42, .bool ((r_2.1.Lo == r_13.Lo) && ((r_2.1.Hi == r_13.Hi) && true))), (43, .bool true), (44, (A_Span r_2.2.1))]) (by simp) (by kernel_rfl) ⟨congrArg AV.bool hc_14, trivial⟩ (by kernel_rfl) ?_
       refine drC hT_22.2 1 _ [i6 3000, i6 3067] (v_bl2_span r_15) rfl rfl rfl rfl rfl (fun _ => rfl) rfl (by simp; try rfl) (fun _ => b_bl2_span _ _ _ _) ?_
       refine drS [0, 1, 2] 3 [(2, .eq (.bool false))] [AV.bool ((r_2.2.1.Lo == r_15.Lo) && ((r_2.2.1.Hi == r_15.Hi) && true)) = AV.bool false] (mkS 58 [(1, .ptr 0 0), (2, .ptr 1 0), (3, i6 r_2.2.2), (4, .sl (r_7.1.map (AV.int .i64)) none), (5, i6 r_7.2), (6, .ptr 2 0), (7, i6 r_9.2), (28, i6 r_2.2.2), (29, .bool (r_2.2.2 == 0)), (30, .bool true), (31, i6 r_7.2), (32, .bool (r_7.2 == 0)), (33, .bool (r_7.2 == 0)), (34, .bool true), (35, i6 r_9.2), (36, .bool (r_9.2 == 0)), (37, .bool (r_9.2 == 0)), (38, .bool true), (39, (A_Span r_2.1)), (40, (A_Span r_13)), (41, .bool ((r_2.1.Lo == r_13.Lo) && ((r_2.1.Hi == r_13.Hi) && true))), (42, .bool ((r_2.1.Lo == r_13.Lo) && ((r_2.1.Hi == r_13.Hi) && true))), (43, .bool true), (44, (A_Span r_2.2.1)), (45, (A_Span r_15)), (46, .bool ((r_2.2.1.Lo == r_15.Lo) && ((r_2.2.1.Hi == r_15.Hi) && true))), (47, .bool ((r_2.2.1.Lo == r_15.Lo) && ((r_2.2.1.Hi == r_15.Hi) && true))), (48, .bool false)]) (by simp) (by kernel_rfl) ⟨congrArg AV.bool hc_16, trivial⟩ (by kernel_rfl) ?_
       refine drK (by kernel_rfl) (by kernel_rfl) ?_
       refine drK (by kernel_rfl) (by kernel_rfl) ?_
       refine drK (by kernel_rfl) (by kernel_rfl) ?_
       refine drS [0, 1, 2] 2 [] [] (mkS 58 [(1, .ptr 0 0), (2, .ptr 1 0), (3, i6 r_2.2.2), (4, .sl (r_7.1.map (AV.int .i64)) none), (5, i6 r_7.2), (6, .ptr 2 0), (7, i6 r_9.2), (28, i6 r_2.2.2), (29, .bool (r_2.2.2 == 0)), (30, .bool true), (31, i6 r_7.2), (32, .bool (r_7.2 == 0)), (33, .bool (r_7.2 == 0)), (34, .bool true), (35, i6 r_9.2), (36, .bool (r_9.2 == 0)), (37, .bool (r_9.2 == 0)), (38, .bool true), (39, (A_Span r_2.1)), (40, (A_Span r_13)), (41, .bool ((r_2.1.Lo == r_13.Lo) && ((r_2.1.Hi == r_13.Hi) && true))), (42, .bool ((r_2.1.Lo == r_13.Lo) && ((r_2.1.Hi == r_13.Hi) && true))), (43, .bool true), (44, (A_Span r_2.2.1)), (45, (A_Span r_15)), (46, .bool ((r_2.2.1.Lo == r_15.Lo) && ((r_2.2.1.Hi == r_15.Hi) && true))), (47, .bool ((r_2.2.1.Lo == r_15.Lo) && ((r_2.2.1.Hi == r_15.Hi) && true))), (48, .bool false), (49, .tup []), (50, .tup []), (51, .tup []), (52, .bool false), (53, .bool false)]) (by simp) (by kernel_rfl) trivial (by kernel_rfl) ?_
       refine drK (by kernel_rfl) (by kernel_rfl) ?_
       refine drK (by kernel_rfl) (by kernel_rfl) ?_
       exact DrO.nil rfl
      ·dsimp only [List.getLastD_cons, List.getLastD_nil]
       refine rn 3 [0] (mkS 58 [(0, .bool false)]) ⟨[(C_Span r_2.1), (C_Span r_2.2.1), (C_Span r_9.1)], [(3, 3), (3, 1)]⟩ ?_
       refine ExO.nil ?_
       refine Ex.ret ?_
       obtain rfl := sJ h
       exact rt (.bool false)
    ·have hT_23 : DoesA Try.prog [⟨19, [i6 2650, i6 2784], [], (v_bl2_span r_13), []⟩] ∧ ConsA [⟨19, [i6 2650, i6 2784], [], (v_bl2_span r_13), []⟩] := ⟨⟨(d_bl2_span N 2650 2784 r_13 hr_13), rfl, trivial⟩, ⟨trivial, trivial⟩⟩
     refine Ex.drawE (a1 := mkS 58 [(1, .ptr 0 0), (2, .ptr 1 0), (3, i6 r_2.2.2), (4, .sl (r_7.1.map (AV.int .i64)) none), (5, i6 r_7.2), (6, .ptr 2 0), (7, i6 r_9.2), (28, i6 r_2.2.2), (29, .bool (r_2.2.2 == 0)), (30, .bool true), (31, i6 r_7.2), (32, .bool (r_7.2 == 0)), (33, .bool (r_7.2 == 0)), (34, .bool true), (35, i6 r_9.2), (36, .bool (r_9.2 == 0)), (37, .bool (r_9.2 == 0)), (38, .bool true), (39, (A_Span r_2.1)), (40, (A_Span r_13)), (41, .bool ((r_2.1.Lo == r_13.Lo) && ((r_2.1.Hi == r_13.Hi) && true))), (42, .bool ((r_2.1.Lo == r_13.Lo) && ((r_2.1.Hi == r_13.Hi) && true))), (43, .bool false), (44, .tup []), (45, .tup []), (46, .tup []), (47, .bool false), (48, .bool false), (49, .tup []), (50, .tup []), (51, .tup []), (52, .bool false), (53, .bool false), (54, .tup []), (55, .tup [])]) (tabO_ok hT_23.1) [] [(3, 1)] [] ?_ ?_
     ·refine drS [0, 1, 2] 12 [(2, .eq (.bool true)), (6, .eq (.bool true)), (10, .eq (.bool true))] [AV.bool (r_2.2.2 == 0) = AV.bool true, AV.bool (r_7.2 == 0) = AV.bool true, AV.bool (r_9.2 == 0) = AV.bool true] (mkS 58 [(1, .ptr 0 0), (2, .ptr 1 0), (3, i6 r_2.2.2), (4, .sl (r_7.1.map (AV.int .i64)) none), (5, i6 r_7.2), (6, .ptr 2 0), (7, i6 r_9.2), (28, i6 r_2.2.2), (29, .bool (r_2.2.2 == 0)), (30, .bool true), (31, i6 r_7.2), (32, .bool (r_7.2 == 0)), (33, .bool (r_7.2 == 0)), (34, .bool true), (35, i6 r_9.2), (36, .bool (r_9.2 == 0)), (37, .bool (r_9.2 == 0)), (38, .bool true), (39, (A_Span r_2.1))]) (by simp) (by kernel_rfl) ⟨congrArg AV.bool hc_10, congrArg AV.bool hc_11, congrArg AV.bool hc_12, trivial⟩ (by kernel_rfl) ?_
      refine drC hT_23.2 0 _ [i6 2650, i6 2784] (v_bl2_span r_13) rfl rfl rfl rfl rfl (fun _ => rfl) rfl (by simp; try rfl) (fun _ => b_bl2_span _ _ _ _) ?_
      refine drS [0, 1, 2] 3 [(2, .eq (.bool false))] [AV.bool ((r_2.1.Lo == r_13.Lo) && ((r_2.1.Hi == r_13.Hi) && true)) = AV.bool false] (mkS 58 [(1, .ptr 0 0), (2, .ptr 1 0), (3, i6 r_2.2.2), (4, .sl (r_7.1.map (AV.int .i64)) none), (5, i6 r_7.2), (6, .ptr 2 0), (7, i6 r_9.2), (28, i6 r_2.2.2), (29, .bool (r_2.2.2 == 0)), (30, .bool true), (31, i6 r_7.2), (32, .bool (r_7.2 == 0)), (33, .bool (r_7.2 == 0)), (34, .bool true), (35, i6 r_9.2), (36, .bool (r_9.2 == 0)), (37, .bool (r_9.2 == 0)), (38, .bool true), (39, (A_Span r_2.1)), (40, (A_Span r_13)), (41, .bool ((r_2.1.Lo == r_13.Lo) && ((r_2.1.Hi == r_13.Hi) && true))), (42, .bool ((r_2.1.Lo == r_13.Lo) && ((r_2.1.Hi == r_13.Hi) && true))), (43, .bool false)]) (by simp) (by kernel_rfl) ⟨congrArg AV.bool hc_14, trivial⟩ (by kernel_rfl) ?_
      refine drK (by kernel_rfl) (by kernel_rfl) ?_
      refine drK (by kernel_rfl) (by kernel_rfl) ?_
      refine drK (by kernel_rfl) (by kernel_rfl) ?_
      refine drS [0, 1, 2] 2 [] [] (mkS 58 [(1, .ptr 0 0), (2, .ptr 1 0), (3, i6 r_2.2.2), (4, .sl (r_7.1.map (AV.int .i64)) none), (5, i6 r_7.2), (6, .ptr 2 0), (7, i6 r_9.2), (28, i6 r_2.2.2), (29, .bool (r_2.2.2 == 0)), (30, .bool true), (31, i6 r_7.2), (32, .bool (r_7.2 == 0)), (33, .bool (r_7.2 == 0)), (34, .bool true), (35, i6 r_9.2), (36, .bool (r_9.2 == 0)), (37, .bool (r_9.2 == 0)), (38, .bool true), (39, (A_Span r_2.1)), (40, (A_Span r_13)), (41, .bool ((r_2.1.Lo == r_13.Lo) && ((r_2.1.Hi == r_13.Hi) && true))), (42, .bool ((r_2.1.Lo == r_13.Lo) && ((r_2.1.Hi == r_13.Hi) && true))), (43, .bool false), (44, .tup []), (45, .tup []), (46, .tup []), (47, .bool false), (48, .bool false)]) (by simp) (by kernel_rfl) trivial (by kernel_rfl) ?_
      refine drK (by kernel_rfl) (by kernel_rfl) ?_
      refine drK (by kernel_rfl) (by kernel_rfl) ?_
      refine drK (by kernel_rfl) (by kernel_rfl) ?_
      refine drS [0, 1, 2] 2 [] [] (mkS 58 [(1, .ptr 0 0), (2, .ptr 1 0), (3, i6 r_2.2.2), (4, .sl (r_7.1.map (AV.int .i64)) none), (5, i6 r_7.2), (6, .ptr 2 0), (7, i6 r_9.2), (28, i6 r_2.2.2), (29, .bool (r_2.2.2 == 0)), (30, .bool true), (31, i6 r_7.2), (32, .bool (r_7.2 == 0)), (33, .bool (r_7.2 == 0)), (34, .bool true), (35, i6 r_9.2), (36, .bool (r_9.2 == 0)), (37, .bool (r_9.2 == 0)), (38, .bool true), (39, (A_Span r_2.1)), (40, (A_Span r_13)), (41, .bool ((r_2.1.Lo == r_13.Lo) && ((r_2.1.Hi == r_13.Hi) && true))), (42, .bool ((r_2.1.Lo == r_13.Lo) && ((r_2.1.Hi == r_13.Hi) && true))), (43, .bool false), (44, .tup []), (45, .tup []), (46, .tup []), (47, .bool false), (48, .bool false), (49, .tup []), (50, .tup []), (51, .tup []), (52, .bool false), (53, .bool false)]) (by simp) (by kernel_rfl) trivial (by kernel_rfl) ?_
      refine drK (by kernel_rfl) (by kernel_rfl) ?_
      refine drK (by kernel_rfl) (by kernel_rfl) ?_
      exact DrO.nil rfl
     ·dsimp only [List.getLastD_cons, List.getLastD_nil]
      refine rn 3 [0] (mkS 58 [(0, .bool false)]) ⟨[(C_Span r_2.1), (C_Span r_2.2.1), (C_Span r_9.1)], [(3, 3), (3, 1)]⟩ ?_
      refine ExO.nil ?_
      refine Ex.ret ?_
      obtain rfl := sJ h
      exact rt (.bool false)
   ·refine Ex.drawE (a1 := mkS 58 [(1, .ptr 0 0), (2, .ptr 1 0), (3, i6 r_2.2.2), (4, .sl (r_7.1.map (AV.int .i64)) none), (5, i6 r_7.2), (6, .ptr 2 0), (7, i6 r_9.2), (28, i6 r_2.2.2), (29, .bool (r_2.2.2 == 0)), (30, .bool true), (31, i6 r_7.2), (32, .bool (r_7.2 == 0)), (33, .bool (r_7.2 == 0)), (34, .bool true), (35, i6 r_9.2), (36, .bool (r_9.2 == 0)), (37, .bool (r_9.2 == 0)), (38, .bool false), (39, .tup []), (40, .tup []), (41, .tup []), (42, .bool false), (43, .bool false), (44, .tup []), (45, .tup []), (46, .tup []), (47, .bool false), (48, .bool false), (49, .tup []), (50, .tup []), (51, .tup []), (52, .bool false), (53, .bool false), (54, .tup []), (55, .tup [])]) (noClr_ok _) [] [(3, 1)] [] ?_ ?_
    ·refine drS [0, 1, 2] 11 [(2, .eq (.bool true)), (6, .eq (.bool true)), (10, .eq (.bool false))] [AV.bool (r_2.2.2 == 0) = AV.bool true, AV.bool (r_7.2 == 0) = AV.bool true, AV.bool (r_9.2 == 0) = AV.bool false] (mkS 58 [(1, .ptr 0 0), (2, .ptr 1 0), (3, i6 r_2.2.2), (4, .sl (r_7.1.map (AV.int .i64)) none), (5, i6 r_7.2), (6, .ptr 2 0), (7, i6 r_9.2), (28, i6 r_2.2.2), (29, .bool (r_2.2.2 == 0)), (30, .bool true), (31, i6 r_7.2), (32, .bool (r_7.2 == 0)), (33, .bool (r_7.2 == 0)), (34, .bool true), (35, i6 r_9.2), (36, .bool (r_9.2 == 0)), (37, .bool (r_9.2 == 0)), (38, .bool false)]) (by simp) (by kernel_rfl) ⟨congrArg AV.bool hc_10, congrArg AV.bool hc_11, congrArg AV.bool hc_12, trivial⟩ (by kernel_rfl) ?_
     refine drK (by kernel_rfl) (by kernel_rfl) ?_
     refine drK (by kernel_rfl) (by kernel_rfl) ?_
     refine drK (by kernel_rfl) (by kernel_rfl) ?_
     refine drS [0, 1, 2] 2 [] [] (mkS 58 [(1, .ptr 0 0), (2, .ptr 1 0), (3, i6 r_2.2.2), (4, .sl (r_7.1.map (AV.int .i64)) none), (5, i6 r_7.2), (6, .ptr 2 0), (7, i6 r_9.2), (28, i6 r_2.2.2), (29, .bool (r_2.2.2 == 0)), (30, .bool true), (31, i6 r_7.2), (32, .bool (r_7.2 == 0)), (33, .bool (r_7.2 == 0)), (34, .bool true), (35, i6 r_9.2), (36, .bool (r_9.2 == 0)), (37, .bool (r_9.2 == 0)), (38, .bool false), (39, .tup []), (40, .tup []), (41, .tup []), (42, .bool false), (43, .bool false)]) (by simp) (by kernel_rfl) trivial (by kernel_rfl) ?_
     refine drK (by kernel_rfl) (by kernel_rfl) ?_
     refine drK (by kernel_rfl) (by kernel_rfl) ?_
     refine drK (by kernel_rfl) (by kernel_rfl) ?_
     refine drS [0, 1, 2] 2 [] [] (mkS 58 [(1, .ptr 0 0), (2, .ptr 1 0), (3, i6 r_2.2.2), (4, .sl (r_7.1.map (AV.int .i64)) none), (5, i6 r_7.2), (6, .ptr 2 0), (7, i6 r_9.2), (28, i6 r_2.2.2), (29, .bool (r_2.2.2 == 0)), (30, .bool true), (31, i6 r_7.2), (32, .bool (r_7.2 == 0)), (33, .bool (r_7.2 == 0)), (34, .bool true), (35, i6 r_9.2), (36, .bool (r_9.2 == 0)), (37, .bool (r_9.2 == 0)), (38, .bool false), (39, .tup []), (40, .tup []), (41, .tup []), (42, .bool false), (43, .bool false), (44, .tup []), (45, .tup []), (46, .tup []), (47, .bool false), (48, .bool false)]) (by simp) (by kernel_rfl) trivial (by kernel_rfl) ?_
     refine drK (by kernel_rfl) (by kernel_rfl) ?_
     refine drK (by kernel_rfl) (by kernel_rfl) ?_
     refine drK (by kernel_rfl) (by kernel_rfl) ?_
     refine drS [0, 1, 2] 2 [] [] (mkS 58 [(1, .ptr 0 0), (2, .ptr 1 0), (3, i6 r_2.2.2), (4, .sl (r_7.1.map (AV.int .i64)) none), (5, i6 r_7.2), (6, .ptr 2 0), (7, i6 r_9.2), (28, i6 r_2.2.2), (29, .bool (r_2.2.2 == 0)), (30, .bool true), (31, i6 r_7.2), (32, .bool (r_7.2 == 0)), (33, .bool (r_7.2 == 0)), (34, .bool true), (35, i6 r_9.2), (36, .bool (r_9.2 == 0)), (37, .bool (r_9.2 == 0)), (38, .bool false), (39, .tup []), (40, .tup []), (41, .tup []), (42, .bool false), (43, .bool false), (44, .tup []), (45, .tup []), (46, .tup []), (47, .bool false), (48, .bool false), (49, .tup []), (50, .tup []), (51, .tup []), (52, .bool false), (53, .bool false)]) (by simp) (by kernel_rfl) trivial (by kernel_rfl) ?_
     refine drK (by kernel_rfl) (by kernel_rfl) ?_
     refine drK (by kernel_rfl) (by kernel_rfl) ?_
     exact DrO.nil rfl
    ·dsimp only [List.getLastD_cons, List.getLastD_nil]
     refine rn 3 [0] (mkS 58 [(0, .bool false)]) ⟨[(C_Span r_2.1), (C_Span r_2.2.1), (C_Span r_9.1)], [(3, 3), (3, 1)]⟩ ?_
     refine ExO.nil ?_
     refine Ex.ret ?_
     obtain rfl := sJ h
     exact rt (.bool false)
  ·refine Ex.drawE (a1 := mkS 58 [(1, .ptr 0 0), (2, .ptr 1 0), (3, i6 r_2.2.2), (4, .sl (r_7.1.map (AV.int .i64)) none), (5, i6 r_7.2), (6, .ptr 2 0), (7, i6 r_9.2), (28, i6 r_2.2.2), (29, .bool (r_2.2.2 == 0)), (30, .bool true), (31, i6 r_7.2), (32, .bool (r_7.2 == 0)), (33, .bool (r_7.2 == 0)), (34, .bool false), (35, .tup []), (36, .tup []), (37, .bool false), (38, .bool false), (39, .tup []), (40, .tup []), (41, .tup []), (42, .bool false), (43, .bool false), (44, .tup []), (45, .tup []), (46, .tup []), (47, .bool false), (48, .bool false), (49, .tup []), (50, .tup []), (51, .tup []), (52, .bool false), (53, .bool false), (54, .tup []), (55, .tup [])]) (noClr_ok _) [] [(3, 1)] [] ?_ ?_
   ·refine drS [0, 1, 2] 7 [(2, .eq (.bool true)), (6, .eq (.bool false))] [AV.bool (r_2.2.2 == 0) = AV.bool true, AV.bool (r_7.2 == 0) = AV.bool false] (mkS 58 [(1, .ptr 0 0), (2, .ptr 1 0), (3, i6 r_2.2.2), (4, .sl (r_7.1.map (AV.int .i64)) none), (5, i6 r_7.2), (6, .ptr 2 0), (7, i6 r_9.2), (28, i6 r_2.2.2), (29, .bool (r_2.2.2 == 0)), (30, .bool true), (31, i6 r_7.2), (32, .bool (r_7.2 == 0)), (33, .bool (r_7.2 == 0)), (34, .bool false)]) (by simp) (by kernel_rfl) ⟨congrArg AV.bool hc_10, congrArg AV.bool hc_11, trivial⟩ (by kernel_rfl) ?_
    refine drK (by kernel_rfl) (by kernel_rfl) ?_
    refine drK (by kernel_rfl) (by kernel_rfl) ?_
    refine drS [0, 1, 2] 2 [] [] (mkS 58 [(1, .ptr 0 0), (2, .ptr 1 0), (3, i6 r_2.2.2), (4, .sl (r_7.1.map (AV.int .i64)) none), (5, i6 r_7.2), (6, .ptr 2 0), (7, i6 r_9.2), (28, i6 r_2.2.2), (29, .bool (r_2.2.2 == 0)), (30, .bool true), (31, i6 r_7.2), (32, .bool (r_7.2 == 0)), (33, .bool (r_7.2 == 0)), (34, .bool false), (35, .tup []), (36, .tup []), (37, .bool false), (38, .bool false)]) (by simp) (by kernel_rfl) trivial (by kernel_rfl) ?_
    refine drK (by kernel_rfl) (by kernel_rfl) ?_
    refine drK (by kernel_rfl) (by kernel_rfl) ?_
    refine drK (by kernel_rfl) (by kernel_rfl) ?_
    refine drS [0, 1, 2] 2 [] [] (mkS 58 [(1, .ptr 0 0), (2, .ptr 1 0), (3, i6 r_2.2.2), (4, .sl (r_7.1.map (AV.int .i64)) none), (5, i6 r_7.2), (6, .ptr 2 0), (7, i6 r_9.2), (28, i6 r_2.2.2), (29, .bool (r_2.2.2 == 0)), (30, .bool true), (31, i6 r_7.2), (32, .bool (r_7.2 == 0)), (33, .bool (r_7.2 == 0)), (34, .bool false), (35, .tup []), (36, .tup []), (37, .bool false), (38, .bool false), (39, .tup []), (40, .tup []), (41, .tup []), (42, .bool false), (43, .bool false)]) (by simp) (by kernel_rfl) trivial (by kernel_rfl) ?_
    refine drK (by kernel_rfl) (by kernel_rfl) ?_
    refine drK (by kernel_rfl) (by kernel_rfl) ?_
    refine drK (by kernel_rfl) (by kernel_rfl) ?_
    refine drS [0, 1, 2] 2 [] [] (mkS 58 [(1, .ptr 0 0), (2, .ptr 1 0), (3, i6 r_2.2.2), (4, .sl (r_7.1.map (AV.int .i64)) none), (5, i6 r_7.2), (6, .ptr 2 0), (7, i6 r_9.2), (28, i6 r_2.2.2), (29, .bool (r_2.2.2 == 0)), (30, .bool true), (31, i6 r_7.2), (32, .bool (r_7.2 == 0)), (33, .bool (r_7.2 == 0)), (34, .bool false), (35, .tup []), (36, .tup []), (37, .bool false), (38, .bool false), (39, .tup []), (40, .tup []), (41, .tup []), (42, .bool false), (43, .bool false), (44, .tup []), (45, .tup []), (46, .tup []), (47, .bool false), (48, .bool false)]) (by simp) (by kernel_rfl) trivial (by kernel_rfl) ?_
    refine drK (by kernel_rfl) (by kernel_rfl) ?_
    refine drK (by kernel_rfl) (by kernel_rfl) ?_
    refine drK (by kernel_rfl) (by kernel_rfl) ?_
    refine drS [0, 1, 2] 2 [] [] (mkS 58 [(1, .ptr 0 0), (2, .ptr 1 0), (3, i6 r_2.2.2), (4, .sl (r_7.1.map (AV.int .i64)) none), (5, i6 r_7.2), (6, .ptr 2 0), (7, i6 r_9.2), (28, i6 r_2.2.2), (29, .bool (r_2.2.2 == 0)), (30, .bool true), (31, i6 r_7.2), (32, .bool (r_7.2 == 0)), (33, .bool (r_7.2 == 0)), (34, .bool false), (35, .tup []), (36, .tup []), (37, .bool false), (38, .bool false), (39, .tup []), (40, .tup []), (41, .tup []), (42, .bool false), (43, .bool false), (44, .tup []), (45, .tup []), (46, .tup []), (47, .bool false), (48, .bool false), (49, .tup []), (50, .tup []), (51, .tup []), (52, .bool false), (53, .bool false)]) (by simp) (by kernel_rfl) trivial (by kernel_rfl) ?_
    refine drK (by kernel_rfl) (by kernel_rfl) ?_
    refine drK (by kernel_rfl) (by kernel_rfl) ?_
    exact DrO.nil rfl
   ·dsimp only [List.getLastD_cons, List.getLastD_nil]
    refine rn 3 [0] (mkS 58 [(0, .bool false)]) ⟨[(C_Span r_2.1), (C_Span r_2.2.1), (C_Span r_9.1)], [(3, 3), (3, 1)]⟩ ?_
    refine ExO.nil ?_
    refine Ex.ret ?_
    obtain rfl := sJ h
    exact rt (.bool false)
 ·refine Ex.drawE (a1 := mkS 58 [(1, .ptr 0 0), (2, .ptr 1 0), (3, i6 r_2.2.2), (4, .sl (r_7.1.map (AV.int .i64)) none), (5, i6 r_7.2), (6, .ptr 2 0), (7, i6 r_9.2), (28, i6 r_2.2.2), (29, .bool (r_2.2.2 == 0)), (30, .bool false), (31, .tup []), (32, .tup []), (33, .bool false), (34, .bool false), (35, .tup []), (36, .tup []), (37, .bool false), (38, .bool false), (39, .tup []), (40, .tup []), (41, .tup []), (42, .bool false), (43, .bool false), (44, .tup []), (45, .tup []), (46, .tup []), (47, .bool false), (48, .bool false), (49, .tup []), (50, .tup []), (51, .tup []), (52, .bool false), (53, .bool false), (54, .tup []), (55, .tup [])]) (noClr_ok _) [] [(3, 1)] [] ?_ ?_
  ·refine drS [0, 1, 2] 3 [(2, .eq (.bool false))] [AV.bool (r_2.2.2 == 0) = AV.bool false] (mkS 58 [(1, .ptr 0 0), (2, .ptr 1 0), (3, i6 r_2.2.2), (4, .sl (r_7.1.map (AV.int .i64)) none), (5, i6 r_7.2), (6, .ptr 2 0), (7, i6 r_9.2), (28, i6 r_2.2.2), (29, .bool (r_2.2.2 == 0)), (30, .bool false)]) (by simp) (by kernel_rfl) ⟨congrArg AV.bool hc_10, trivial⟩ (by kernel_rfl) ?_
   refine drK (by kernel_rfl) (by kernel_rfl) ?_
   refine drK (by kernel_rfl) (by kernel_rfl) ?_
   refine drS [0, 1, 2] 2 [] [] (mkS 58 [(1, .ptr 0 0), (2, .ptr 1 0), (3, i6 r_2.2.2), (4, .sl (r_7.1.map (AV.int .i64)) none), (5, i6 r_7.2), (6, .ptr 2 0), (7, i6 r_9.2), (28, i6 r_2.2.2), (29, .bool (r_2.2.2 == 0)), (30, .bool false), (31, .tup []), (32, .tup []), (33, .bool false), (34, .bool false)]) (by simp) (by kernel_rfl) trivial (by kernel_rfl) ?_
   refine drK (by kernel_rfl) (by kernel_rfl) ?_
   refine drK (by kernel_rfl) (by kernel_rfl) ?_
   refine drS [0, 1, 2] 2 [] [] (mkS 58 [(1, .ptr 0 0), (2, .ptr 1 0), (3, i6 r_2.2.2), (4, .sl (r_7.1.map (AV.int .i64)) none), (5, i6 r_7.2), (6, .ptr 2 0), (7, i6 r_9.2), (28, i6 r_2.2.2), (29, .bool (r_2.2.2 == 0)), (30, .bool false), (31, .tup []), (32, .tup []), (33, .bool false), (34, .bool false), (35, .tup []), (36, .tup []), (37, .bool false), (38, .bool false)]) (by simp) (by kernel_rfl) trivial (by kernel_rfl) ?_
   refine drK (by kernel_rfl) (by kernel_rfl) ?_
   refine drK (by kernel_rfl) (by kernel_rfl) ?_
   refine drK (by kernel_rfl) (by kernel_rfl) ?_
   refine drS [0, 1, 2] 2 [] [] (mkS 58 [(1, .ptr 0 0), (2, .ptr 1 0), (3, i6 r_2.2.2), (4, .sl (r_7.1.map (AV.int .i64)) none), (5, i6 r_7.2), (6, .ptr 2 0), (7, i6 r_9.2), (28, i6 r_2.2.2), (29, .bool (r_2.2.2 == 0)), (30, .bool false), (31, .tup []), (32, .tup []), (33, .bool false), (34, .bool false), (35, .tup []), (36, .tup []), (37, .bool false), (38, .bool false), (39, .tup []), (40, .tup []), (41, .tup []), (42, .bool false), (43, .bool false)]) (by simp) (by kernel_rfl) trivial (by kernel_rfl) ?_
   refine drK (by kernel_rfl) (by kernel_rfl) ?_
   refine drK (by kernel_rfl) (by kernel_rfl) ?_
   refine drK (by kernel_rfl) (by kernel_rfl) ?_
   refine drS [0, 1, 2] 2 [] [] (mkS 58 [(1, .ptr 0 0), (2, .ptr 1 0), (3, i6 r_2.2.2), (4, .sl (r_7.1.map (AV.int .i64)) none), (5, i6 r_7.2), (6, .ptr 2 0), (7, i6 r_9.2), (28, i6 r_2.2.2), (29, .bool (r_2.2.2 == 0)), (30, .bool false), (31, .tup []), (32, .tup []), (33, .bool false), (34, .bool false), (35, .tup []), (36, .tup []), (37, .bool false), (38, .bool false), (39, .tup []), (40, .tup []), (41, .tup []), (42, .bool false), (43, .bool false), (44, .tup []), (45, .tup []), (46, .tup []), (47, .bool false), (48, .bool false)]) (by simp) (by kernel_rfl) trivial (by kernel_rfl) ?_
   refine drK (by kernel_rfl) (by kernel_rfl) ?_
   refine drK (by kernel_rfl) (by kernel_rfl) ?_
   refine drK (by kernel_rfl) (by kernel_rfl) ?_
   refine drS [0, 1, 2] 2 [] [] (mkS 58 [(1, .ptr 0 0), (2, .ptr 1 0), (3, i6 r_2.2.2), (4, .sl (r_7.1.map (AV.int .i64)) none), (5, i6 r_7.2), (6, .ptr 2 0), (7, i6 r_9.2), (28, i6 r_2.2.2), (29, .bool (r_2.2.2 == 0)), (30, .bool false), (31, .tup []), (32, .tup []), (33, .bool false), (34, .bool false), (35, .tup []), (36, .tup []), (37, .bool false), (38, .bool false), (39, .tup []), (40, .tup []), (41, .tup []), (42, .bool false), (43, .bool false), (44, .tup []), (45, .tup []), (46, .tup []), (47, .bool false), (48, .bool false), (49, .tup []), (50, .tup []), (51, .tup []), (52, .bool false), (53, .bool false)]) (by simp) (by kernel_rfl) trivial (by kernel_rfl) ?_
   refine drK (by kernel_rfl) (by kernel_rfl) ?_
   refine drK (by kernel_rfl) (by kernel_rfl) ?_
   exact DrO.nil rfl
  ·dsimp only [List.getLastD_cons, List.getLastD_nil]
   refine rn 3 [0] (mkS 58 [(0, .bool false)]) ⟨[(C_Span r_2.1), (C_Span r_2.2.1), (C_Span r_9.1)], [(3, 3), (3, 1)]⟩ ?_
   refine ExO.nil ?_
   refine Ex.ret ?_
   obtain rfl := sJ h
   exact rt (.bool false)
theorem t_bk_Ints (N : Nat) (l_1 : (List Int)) (r : (List Int)) (h : p_bk_Ints N l_1 = some r) : TokOk Try.prog ⟨32, [.sl (l_1.map (AV.int .i64)) none], r.map (AV.int .i64), r.length, 1⟩ := by
 refine ⟨?_, (cleanI _ _), by simp⟩
 unfold p_bk_Ints at h
 refine DoesT.of comp32 ?_
 refine Ex.seq (rg 1 [0] (mkS 6 [(0, .sl (l_1.map (AV.int .i64)) none)]) ⟨[], []⟩ ?_)
 refine Ex.seq ?_
 obtain ⟨l_2, hl_2, h⟩ := bE h
 refine regH 4 [(2, .apps (l_1.map (AV.int .i64)) (l_2.map (AV.int .i64)) l_2.length)] [2] [LApps 0 (([] : List Int).map (AV.int .i64)) (l_1.map (AV.int .i64)) (l_1.map (AV.int .i64)) 1 (l_2.map (AV.int .i64)) l_2.length] (mkS 6 [(2, .sl (l_2.map (AV.int .i64)) (some 0))]) (⟨[], [(l_2.length, 1)]⟩) (by kernel_rfl) ⟨LApps.of hl_2 (fun _ => rfl) (fun _ => rfl) (fun _ => rfl), trivial⟩ rfl ?_
 refine Ex.ret ?_
 obtain rfl := sJ h
 exact ⟨.inr rfl, .sl (l_2.map (AV.int .i64)) (some 0), by kernel_rfl, 0, by kernel_rfl, by kernel_rfl⟩
def p_bl2_truthsg : Nat → T_Float → T_br2_Truth → (List T_br2_Truth) → Option ((List T_br2_Truth))
 | 0, _, _, _ => none
 | N + 1, f_1, t_2, out_3 => (bif (((t_2.Kilos.length : Nat) : Int) == ((f_1.Loads.length : Nat) : Int)) then ((pushI out_3 ([t_2] : List T_br2_Truth)).bind fun l_5 => some l_5) else ((getI f_1.Loads ((t_2.Kilos.length : Nat) : Int)).bind fun x_6 => (letJ (fun (out_7 : List T_br2_Truth) => some out_7) (fun k_8 => (loop2 (fun rec_13 (out_11 : List T_br2_Truth) (k_12 : Int) => (bif (decide (k_12 ≤ x_6.Kilos.Hi)) then (letJ (fun (out_17 : List T_br2_Truth) => (rec_13 out_17 (IntKind.i64.wrap (k_12 + 1)))) (fun k_18 => (loop2 (fun rec_23 (out_21 : List T_br2_Truth) (n_22 : Int) => (bif (decide (n_22 ≤ x_6.Top.Hi)) then ((p_bk_Ints N t_2.Kilos).bind fun r_27 => ((pushI r_27 ([k_12] : List Int)).bind fun l_28 => ((p_bk_Ints N t_2.Tops).bind fun r_29 => ((pushI r_29 ([n_22] : List Int)).bind fun l_30 => ((p_bl2_truthsg N f_1 (⟨l_28, l_30⟩ : T_br2_Truth) out_21).bind fun r_31 => (rec_23 r_31 (IntKind.i64.wrap (n_22 + 1)))))))) else (k_18 out_21))) N out_11 x_6.Top.Lo))) else (k_8 out_11))) N out_3 x_6.Kilos.Lo)))))
theorem d_bl2_truthsg (N : Nat) (f_1 : T_Float) (t_2 : T_br2_Truth) (out_3 : (List T_br2_Truth)) (r : (List T_br2_Truth)) (h : p_bl2_truthsg N f_1 t_2 out_3 = some r) : GroOk Try.prog ⟨7, [(A_Float f_1), (A_br2_Truth t_2)], out_3.map A_br2_Truth, [], out_3.length, 2, r.map A_br2_Truth, r.length⟩ := by
 induction N generalizing f_1 t_2 out_3 r with
 | zero => simp [p_bl2_truthsg] at h
 | succ N ih =>
  rw [p_bl2_truthsg] at h
  refine ⟨DoesG.of (xs := [(A_Float f_1), (A_br2_Truth t_2), .sl (out_3.map A_br2_Truth) (some 0)]) comp7 ?_, (KL_br2_Truth _), (KL_br2_Truth _), by simp, by simp⟩
  refine Ex.seq (rg 3 [2, 3, 4] (mkS 65 [(2, .sl (out_3.map A_br2_Truth) (some 0)), (3, .ptr 0 0), (4, .ptr 1 0)]) ⟨[(C_Float f_1), (C_br2_Truth t_2)], [(out_3.length, 2)]⟩ ?_)
  refine Ex.seq ?_
  refine regH 4 [(2, .eq (i6 ((t_2.Kilos.length : Nat) : Int)))] [2, 3, 4, 7] [AV.int .i64 (((t_2.Kilos.map (AV.int .i64)).length : Nat) : Int) = AV.int .i64 ((t_2.Kilos.length : Nat) : Int)] (mkS 65 [(2, .sl (out_3.map A_br2_Truth) (some 0)), (3, .ptr 0 0), (4, .ptr 1 0), (7, i6 ((t_2.Kilos.length : Nat) : Int))]) (⟨[(C_Float f_1), (C_br2_Truth t_2)], [(out_3.length, 2)]⟩) (by kernel_rfl) ⟨lenM _ _, trivial⟩ rfl ?_
  refine Ex.seq (Ex.seq ?_)
  refine regH 5 [(3, .eq (i6 ((f_1.Loads.length : Nat) : Int)))] [2, 3, 4, 7, 18] [AV.int .i64 (((f_1.Loads.map A_Load).length : Nat) : Int) = AV.int .i64 ((f_1.Loads.length : Nat) : Int)] (mkS 65 [(2, .sl (out_3.map A_br2_Truth) (some 0)), (3, .ptr 0 0), (4, .ptr 1 0), (7, i6 ((t_2.Kilos.length : Nat) : Int)), (18, .bool (((t_2.Kilos.length : Nat) : Int) == ((f_1.Loads.length : Nat) : Int)))]) (⟨[(C_Float f_1), (C_br2_Truth t_2)], [(out_3.length, 2)]⟩) (by kernel_rfl) ⟨lenM _ _, trivial⟩ rfl ?_
  rcases condI h with ⟨hc_4, h⟩ | ⟨hc_4, h⟩
  ·refine Ex.condT _ rfl hc_4 ?_
   refine Ex.seq ?_
   refine Ex.postF ?_
   obtain ⟨l_5, hl_5, h⟩ := bE h
   refine regH 5 [(3, .app (l_5.map A_br2_Truth) l_5.length)] [6] [LApp out_3.length (out_3.map A_br2_Truth) (([t_2] : List T_br2_Truth).map A_br2_Truth) 2 (l_5.map A_br2_Truth) l_5.length] (mkS 65 [(6, .sl (l_5.map A_br2_Truth) (some 0))]) (⟨[(C_Float f_1), (C_br2_Truth t_2)], [(l_5.length, 2), (1, 2)]⟩) (by kernel_rfl) ⟨LApp.of hl_5 (fun _ => rfl), trivial⟩ rfl ?_
   refine ⟨mkS 65 [(6, .sl (l_5.map A_br2_Truth) (some 0))], ⟨[(C_Float f_1), (C_br2_Truth t_2)], [(l_5.length, 2), (1, 2)]⟩, Forgets.refl _ _ _, ?_⟩
   refine Ex.ret ?_
   obtain rfl := sJ h
   exact ⟨.inr rfl, l_5.map A_br2_Truth, by kernel_rfl, by simp, rfl⟩
  ·refine Ex.condF _ rfl hc_4 ?_
   refine Ex.skip ?_
   refine Ex.seq ?_
   obtain ⟨x_6, hx_6, h⟩ := bE h
   refine regH 7 [(3, .rop (C_Load x_6))] [2, 3, 4, 8] [LGet (f_1.Loads.map A_Load) ((t_2.Kilos.length : Nat) : Int) 7 (C_Load x_6)] (mkS 65 [(2, .sl (out_3.map A_br2_Truth) (some 0)), (3, .ptr 0 0), (4, .ptr 1 0), (8, .ptr 2 0)]) (⟨[(C_Float f_1), (C_br2_Truth t_2), (C_Load x_6)], [(out_3.length, 2)]⟩) (by kernel_rfl) ⟨LGet.of hx_6 rfl, trivial⟩ rfl ?_
   refine Ex.seq (Ex.seq ?_)
   refine rg 4 [2, 3, 4, 8, 9] (mkS 65 [(2, .sl (out_3.map A_br2_Truth) (some 0)), (3, .ptr 0 0), (4, .ptr 1 0), (8, .ptr 2 0), (9, i6 x_6.Kilos.Lo)]) ⟨[(C_Float f_1), (C_br2_Truth t_2), (C_Load x_6)], [(out_3.length, 2)]⟩ ?_
   obtain ⟨K_9, hK_10, h⟩ := letE h
   refine Ex.blockJ (fun a S => ∃ (out_7 : List T_br2_Truth), K_9 out_7 = some r ∧ a = mkS 65 [(2, .sl (out_7.map A_br2_Truth) (some 0))] ∧ S = ⟨[], [(out_7.length, 2)]⟩) ?_ ?_
   ·obtain ⟨B_14, hB_15, h⟩ := loop2I h
    refine Ex.loopF (fun k a S => ∃ (out_11 : List T_br2_Truth), ∃ (k_12 : Int), loop2 B_14 k out_11 k_12 = some r ∧ a = mkS 65 [(2, .sl (out_11.map A_br2_Truth) (some 0)), (3, .ptr 0 0), (4, .ptr 1 0), (8, .ptr 2 0), (9, i6 k_12)] ∧ S = ⟨[(C_Float f_1), (C_br2_Truth t_2), (C_Load x_6)], [(out_11.length, 2)]⟩) N ⟨_, _, Forgets.refl _ _ _, out_3, x_6.Kilos.Lo, h, rfl, rfl⟩ ?_
    rintro k a S ⟨out_11, k_12, h, rfl, rfl⟩
    cases k with
    | zero => exact (loop2Z h).elim
    | succ k =>
     replace h := loop2S h hB_15
     refine Ex.seq (Ex.seq ?_)
     refine rg 5 [2, 3, 4, 8, 9, 35] (mkS 65 [(2, .sl (out_11.map A_br2_Truth) (some 0)), (3, .ptr 0 0), (4, .ptr 1 0), (8, .ptr 2 0), (9, i6 k_12), (35, .bool (decide (k_12 ≤ x_6.Kilos.Hi)))]) ⟨[(C_Float f_1), (C_br2_Truth t_2), (C_Load x_6)], [(out_11.length, 2)]⟩ ?_
     rcases condI h with ⟨hc_16, h⟩ | ⟨hc_16, h⟩
     ·refine Ex.condT _ rfl hc_16 ?_
      refine Ex.skip ?_
      refine Ex.seq ?_
      refine Ex.blockK ?_
      refine Ex.seq (rg 4 [2, 3, 4, 8, 9, 10] (mkS 65 [(2, .sl (out_11.map A_br2_Truth) (some 0)), (3, .ptr 0 0), (4, .ptr 1 0), (8, .ptr 2 0), (9, i6 k_12), (10, i6 x_6.Top.Lo)]) ⟨[(C_Float f_1), (C_br2_Truth t_2), (C_Load x_6)], [(out_11.length, 2)]⟩ ?_)
      obtain ⟨K_19, hK_20, h⟩ := letE h
      refine Ex.blockJ (fun a S => ∃ (out_17 : List T_br2_Truth), K_19 out_17 = some r ∧ a = mkS 65 [(2, .sl (out_17.map A_br2_Truth) (some 0)), (3, .ptr 0 0), (4, .ptr 1 0), (8, .ptr 2 0), (9, i6 k_12)] ∧ S = ⟨[(C_Float f_1), (C_br2_Truth t_2), (C_Load x_6)], [(out_17.length, 2)]⟩) ?_ ?_
      ·obtain ⟨B_24, hB_25, h⟩ := loop2I h
       refine Ex.loopF (fun k a S => ∃ (out_21 : List T_br2_Truth), ∃ (n_22 : Int), loop2 B_24 k out_21 n_22 = some r ∧ a = mkS 65 [(2, .sl (out_21.map A_br2_Truth) (some 0)), (3, .ptr 0 0), (4, .ptr 1 0), (8, .ptr 2 0), (9, i6 k_12), (10, i6 n_22)] ∧ S = ⟨[(C_Float f_1), (C_br2_Truth t_2), (C_Load x_6)], [(out_21.length, 2)]⟩) N ⟨_, _, Forgets.refl _ _ _, out_11, x_6.Top.Lo, h, rfl, rfl⟩ ?_
       rintro k a S ⟨out_21, n_22, h, rfl, rfl⟩
       cases k with
       | zero => exact (loop2Z h).elim
       | succ k =>
        replace h := loop2S h hB_25
        refine Ex.seq (Ex.seq ?_)
        refine rg 5 [2, 3, 4, 8, 9, 10, 45] (mkS 65 [(2, .sl (out_21.map A_br2_Truth) (some 0)), (3, .ptr 0 0), (4, .ptr 1 0), (8, .ptr 2 0), (9, i6 k_12), (10, i6 n_22), (45, .bool (decide (n_22 ≤ x_6.Top.Hi)))]) ⟨[(C_Float f_1), (C_br2_Truth t_2), (C_Load x_6)], [(out_21.length, 2)]⟩ ?_
        rcases condI h with ⟨hc_26, h⟩ | ⟨hc_26, h⟩
        ·refine Ex.condT _ rfl hc_26 ?_
         refine Ex.skip ?_
         refine Ex.seq ?_
         refine Ex.blockK ?_
         obtain ⟨r_27, hr_27, h⟩ := bE h
         obtain ⟨l_28, hl_28, h⟩ := bE h
         obtain ⟨r_29, hr_29, h⟩ := bE h
         obtain ⟨l_30, hl_30, h⟩ := bE h
         refine Ex.drawE (a1 := mkS 65 [(2, .sl (out_21.map A_br2_Truth) (some 0)), (3, .ptr 0 0), (4, .ptr 1 0), (8, .ptr 2 0), (9, i6 k_12), (10, i6 n_22), (45, .bool (decide (n_22 ≤ x_6.Top.Hi))), (48, (A_Float f_1)), (49, .ptr 1 0), (50, .sl (t_2.Kilos.map (AV.int .i64)) none), (51, .sl (r_27.map (AV.int .i64)) (some 3)), (52, i6 k_12), (53, .sl (([k_12] : List Int).map (AV.int .i64)) (some 1)), (54, .sl (l_28.map (AV.int .i64)) (some 3)), (55, .ptr 1 1), (56, .sl (t_2.Tops.map (AV.int .i64)) none), (57, .sl (r_29.map (AV.int .i64)) (some 4)), (58, i6 n_22), (59, .sl (([n_22] : List Int).map (AV.int .i64)) (some 2)), (60, .sl (l_30.map (AV.int .i64)) (some 4)), (61, .agg [.sl (l_28.map (AV.int .i64)) (some 3), .sl (l_30.map (AV.int .i64)) (some 4)]), (62, .sl (out_21.map A_br2_Truth) (some 0))]) (atC_ok 3 (tokC_ok (t_bk_Ints N t_2.Kilos r_27 hr_27) (noClr_ok _)) (atC_ok 4 (tokC_ok (t_bk_Ints N t_2.Tops r_29 hr_29) (noClr_ok _)) (noClr_ok _))) [] [(1, 1), (1, 1)] [⟨[(C_Float f_1), (C_br2_Truth t_2), (C_Load x_6)], [(out_21.length, 2), (1, 1), (1, 1), (r_27.length, 1)]⟩, ⟨[(C_Float f_1), (C_br2_Truth t_2), (C_Load x_6)], [(out_21.length, 2), (1, 1), (1, 1), (l_28.length, 1)]⟩, ⟨[(C_Float f_1), (C_br2_Truth t_2), (C_Load x_6)], [(out_21.length, 2), (1, 1), (1, 1), (l_28.length, 1), (r_29.length, 1)]⟩, ⟨[(C_Float f_1), (C_br2_Truth t_2), (C_Load x_6)], [(out_21.length, 2), (1, 1), (1, 1), (l_28.length, 1), (l_30.length, 1)]⟩] ?_ ?_
         ·refine drS [0, 1, 2] 3 [] [] (mkS 65 [(2, .sl (out_21.map A_br2_Truth) (some 0)), (3, .ptr 0 0), (4, .ptr 1 0), (8, .ptr 2 0), (9, i6 k_12), (10, i6 n_22), (45, .bool (decide (n_22 ≤ x_6.Top.Hi))), (48, (A_Float f_1)), (49, .ptr 1 0), (50, .sl (t_2.Kilos.map (AV.int .i64)) none)]) (by simp) (by kernel_rfl) trivial (by kernel_rfl) ?_
          refine drL [.sl (t_2.Kilos.map (AV.int .i64)) none] (.sl (r_27.map (AV.int .i64)) (some 3)) _ _ rfl rfl rfl rfl rfl rfl (atC_eq rfl (tokC_call rfl (by simp))) rfl rfl ?_
          refine drS [0, 1, 2] 1 [] [] (mkS 65 [(2, .sl (out_21.map A_br2_Truth) (some 0)), (3, .ptr 0 0), (4, .ptr 1 0), (8, .ptr 2 0), (9, i6 k_12), (10, i6 n_22), (45, .bool (decide (n_22 ≤ x_6.Top.Hi))), (48, (A_Float f_1)), (49, .ptr 1 0), (50, .sl (t_2.Kilos.map (AV.int .i64)) none), (51, .sl (r_27.map (AV.int .i64)) (some 3)), (52, i6 k_12)]) (by simp) (by kernel_rfl) trivial (by kernel_rfl) ?_
          refine drR 1 1 (([k_12] : List Int).map (AV.int .i64)) rfl rfl (fun _ => by kernel_rfl) (by simp) rfl rfl ?_
          refine drE (some (.app (l_28.map (AV.int .i64)) l_28.length)) (some (LApp r_27.length (r_27.map (AV.int .i64)) (([k_12] : List Int).map (AV.int .i64)) 1 (l_28.map (AV.int .i64)) l_28.length)) (.sl (l_28.map (AV.int .i64)) (some 3)) _ _ rfl rfl rfl rfl rfl (by kernel_rfl) (LApp.of hl_28 (fun _ => rfl)) ?_
          refine drS [0, 1, 2] 2 [] [] (mkS 65 [(2, .sl (out_21.map A_br2_Truth) (some 0)), (3, .ptr 0 0), (4, .ptr 1 0), (8, .ptr 2 0), (9, i6 k_12), (10, i6 n_22), (45, .bool (decide (n_22 ≤ x_6.Top.Hi))), (48, (A_Float f_1)), (49, .ptr 1 0), (50, .sl (t_2.Kilos.map (AV.int .i64)) none), (51, .sl (r_27.map (AV.int .i64)) (some 3)), (52, i6 k_12), (53, .sl (([k_12] : List Int).map (AV.int .i64)) (some 1)), (54, .sl (l_28.map (AV.int .i64)) (some 3)), (55, .ptr 1 1), (56, .sl (t_2.Tops.map (AV.int .i64)) none)]) (by simp) (by kernel_rfl) trivial (by kernel_rfl) ?_
          refine drL [.sl (t_2.Tops.map (AV.int .i64)) none] (.sl (r_29.map (AV.int .i64)) (some 4)) _ _ rfl rfl rfl rfl rfl rfl (atC_ne (by simp) (atC_eq rfl (tokC_call rfl (by simp)))) rfl rfl ?_
          refine drS [0, 1, 2] 1 [] [] (mkS 65 [(2, .sl (out_21.map A_br2_Truth) (some 0)), (3, .ptr 0 0), (4, .ptr 1 0), (8, .ptr 2 0), (9, i6 k_12), (10, i6 n_22), (45, .bool (decide (n_22 ≤ x_6.Top.Hi))), (48, (A_Float f_1)), (49, .ptr 1 0), (50, .sl (t_2.Kilos.map (AV.int .i64)) none), (51, .sl (r_27.map (AV.int .i64)) (some 3)), (52, i6 k_12), (53, .sl (([k_12] : List Int).map (AV.int .i64)) (some 1)), (54, .sl (l_28.map (AV.int .i64)) (some 3)), (55, .ptr 1 1), (56, .sl (t_2.Tops.map (AV.int .i64)) none), (57, .sl (r_29.map (AV.int .i64)) (some 4)), (58, i6 n_22)]) (by simp) (by kernel_rfl) trivial (by kernel_rfl) ?_
          refine drR 2 1 (([n_22] : List Int).map (AV.int .i64)) rfl rfl (fun _ => by kernel_rfl) (by simp) rfl rfl ?_
          refine drE (some (.app (l_30.map (AV.int .i64)) l_30.length)) (some (LApp r_29.length (r_29.map (AV.int .i64)) (([n_22] : List Int).map (AV.int .i64)) 1 (l_30.map (AV.int .i64)) l_30.length)) (.sl (l_30.map (AV.int .i64)) (some 4)) _ _ rfl rfl rfl rfl rfl (by kernel_rfl) (LApp.of hl_30 (fun _ => rfl)) ?_
          refine drS [0, 1, 2] 2 [] [] (mkS 65 [(2, .sl (out_21.map A_br2_Truth) (some 0)), (3, .ptr 0 0), (4, .ptr 1 0), (8, .ptr 2 0), (9, i6 k_12), (10, i6 n_22), (45, .bool (decide (n_22 ≤ x_6.Top.Hi))), (48, (A_Float f_1)), (49, .ptr 1 0), (50, .sl (t_2.Kilos.map (AV.int .i64)) none), (51, .sl (r_27.map (AV.int .i64)) (some 3)), (52, i6 k_12), (53, .sl (([k_12] : List Int).map (AV.int .i64)) (some 1)), (54, .sl (l_28.map (AV.int .i64)) (some 3)), (55, .ptr 1 1), (56, .sl (t_2.Tops.map (AV.int .i64)) none), (57, .sl (r_29.map (AV.int .i64)) (some 4)), (58, i6 n_22), (59, .sl (([n_22] : List Int).map (AV.int .i64)) (some 2)), (60, .sl (l_30.map (AV.int .i64)) (some 4)), (61, .agg [.sl (l_28.map (AV.int .i64)) (some 3), .sl (l_30.map (AV.int .i64)) (some 4)]), (62, .sl (out_21.map A_br2_Truth) (some 0))]) (by simp) (by kernel_rfl) trivial (by kernel_rfl) ?_
          exact DrO.nil rfl
         ·dsimp only [List.getLastD_cons, List.getLastD_nil]
          obtain ⟨r_31, hr_31, h⟩ := bE h
          refine ExO.callG (ih f_1 (⟨l_28, l_30⟩ : T_br2_Truth) out_21 r_31 hr_31) [(A_Float f_1), .agg [.sl (l_28.map (AV.int .i64)) (some 3), .sl (l_30.map (AV.int .i64)) (some 4)]] 0 [] rfl rfl (by simp; try rfl) (by simp; try rfl) (by rfl) ?_
          refine rn 1 [2, 3, 4, 8, 9, 10] (mkS 65 [(2, .sl (r_31.map A_br2_Truth) (some 0)), (3, .ptr 0 0), (4, .ptr 1 0), (8, .ptr 2 0), (9, i6 k_12), (10, i6 n_22)]) ⟨[(C_Float f_1), (C_br2_Truth t_2), (C_Load x_6)], [(r_31.length, 2), (1, 1), (1, 1), (l_28.length, 1), (l_30.length, 1)]⟩ ?_
          refine ExO.nil ?_
          refine rg 3 [2, 3, 4, 8, 9, 10] (mkS 65 [(2, .sl (r_31.map A_br2_Truth) (some 0)), (3, .ptr 0 0), (4, .ptr 1 0), (8, .ptr 2 0), (9, i6 k_12), (10, i6 (IntKind.i64.wrap (n_22 + 1)))]) ⟨[(C_Float f_1), (C_br2_Truth t_2), (C_Load x_6)], [(r_31.length, 2), (1, 1), (1, 1), (l_28.length, 1), (l_30.length, 1)]⟩ ?_
          dsimp only
          exact ⟨_, _, forgetA (m := 65) 3 [0] [(2, .sl (r_31.map A_br2_Truth) (some 0)), (3, .ptr 0 0), (4, .ptr 1 0), (8, .ptr 2 0), (9, i6 k_12), (10, i6 (IntKind.i64.wrap (n_22 + 1)))] [(C_Float f_1), (C_br2_Truth t_2), (C_Load x_6)] [(r_31.length, 2)] (by simp [setAll]) (by simp) ⟨(reT (KL_br2_Truth _) rfl), rfl, rfl, rfl, rfl, rfl, trivial⟩ (by simp) rfl (by decide) (sig0 1 rfl rfl), k, Nat.lt_succ_self k, r_31, (IntKind.i64.wrap (n_22 + 1)), h, rfl, rfl⟩
        ·refine Ex.condF _ rfl hc_26 ?_
         refine Ex.exit ?_
         (try simp only [reduceCtorEq, AEx.ex.injEq, Nat.reduceEqDiff, if_true, if_false])
         exact ⟨_, _, forgetK [2, 3, 4, 8, 9], out_21, h, rfl, rfl⟩
      ·rintro a S ⟨out_17, h, rfl, rfl⟩
       subst hK_20
       refine rg 3 [2, 3, 4, 8, 9] (mkS 65 [(2, .sl (out_17.map A_br2_Truth) (some 0)), (3, .ptr 0 0), (4, .ptr 1 0), (8, .ptr 2 0), (9, i6 (IntKind.i64.wrap (k_12 + 1)))]) ⟨[(C_Float f_1), (C_br2_Truth t_2), (C_Load x_6)], [(out_17.length, 2)]⟩ ?_
       dsimp only
       exact ⟨_, _, Forgets.refl _ _ _, k, Nat.lt_succ_self k, out_17, (IntKind.i64.wrap (k_12 + 1)), h, rfl, rfl⟩
     ·refine Ex.condF _ rfl hc_16 ?_
      refine Ex.exit ?_
      (try simp only [reduceCtorEq, AEx.ex.injEq, Nat.reduceEqDiff, if_true, if_false])
      exact ⟨_, _, forgetA (m := 65) 0 [0] [(2, .sl (out_11.map A_br2_Truth) (some 0))] [] [(out_11.length, 2)] (by simp [setAll]) (by simp) ⟨(reT (KL_br2_Truth _) rfl), trivial⟩ (by simp) rfl (by decide) (sig0 1 rfl rfl), out_11, h, rfl, rfl⟩
   ·rintro a S ⟨out_7, h, rfl, rfl⟩
    subst hK_10
    refine Ex.seq (rg 2 [6] (mkS 65 [(6, .sl (out_7.map A_br2_Truth) (some 0))]) ⟨[], [(out_7.length, 2)]⟩ ?_)
    refine Ex.ret ?_
    obtain rfl := sJ h
    exact ⟨.inr rfl, out_7.map A_br2_Truth, by kernel_rfl, by simp, rfl⟩
theorem k_br2_Down (N : Nat) (n_1 : Int) (d_2 : Int) (n_1z : Int) (d_2z : Int) (r s : Int) (hr : p_br2_Down N n_1 d_2 = some r) (hs : p_br2_Down N n_1z d_2z = some s) : ConsR ⟨20, [i6 n_1, i6 d_2], [], v_br2_Down r, []⟩ ⟨20, [i6 n_1z, i6 d_2z], [], v_br2_Down s, []⟩ := by
 intro _ h1 h2
 have h1 : ([i6 n_1, i6 d_2] : List AV) = [i6 n_1z, i6 d_2z] := h1
 have h2 : ([] : List (List AV)) = [] := h2
 obtain rfl : n_1 = n_1z := (intInj _) _ _ (List.cons.inj h1).1
 obtain rfl : d_2 = d_2z := (intInj _) _ _ (List.cons.inj (List.cons.inj h1).2).1
 rw [hr] at hs; cases hs; exact ⟨rfl, rfl⟩
theorem k_br2_Up (N : Nat) (n_1 : Int) (d_2 : Int) (n_1z : Int) (d_2z : Int) (r s : Int) (hr : p_br2_Up N n_1 d_2 = some r) (hs : p_br2_Up N n_1z d_2z = some s) : ConsR ⟨21, [i6 n_1, i6 d_2], [], v_br2_Up r, []⟩ ⟨21, [i6 n_1z, i6 d_2z], [], v_br2_Up s, []⟩ := by
 intro _ h1 h2
 have h1 : ([i6 n_1, i6 d_2] : List AV) = [i6 n_1z, i6 d_2z] := h1
 have h2 : ([] : List (List AV)) = [] := h2
 obtain rfl : n_1 = n_1z := (intInj _) _ _ (List.cons.inj h1).1
 obtain rfl : d_2 = d_2z := (intInj _) _ _ (List.cons.inj (List.cons.inj h1).2).1
 rw [hr] at hs; cases hs; exact ⟨rfl, rfl⟩
def p_bl2_FloatEnds (N : Nat) (nums_1 : (List Int)) : Option (Bool) := ((p_bk_DrumOf N nums_1).bind fun r_2 => ((p_bk_SmallFloat N r_2).bind fun r_3 => ((p_bk_RouteOf N r_3.2 r_3.1 4).bind fun r_4 => ((p_bl2_truthsg N r_3.1 (⟨[], []⟩ : T_br2_Truth) []).bind fun r_5 => ((mkI ((r_4.1.length : Nat) : Int)).bind fun k_6 => (letJ (fun (up_7 : Int) (b_8 : Int) (b_9 : Int) (b_10 : Int) (b_11 : Int) (b_12 : Int) (b_13 : Int) (b_14 : Int) (b_15 : Int) (w_16 : List Int) => ((p_Total N r_3.1).bind fun r_81 => ((p_Axles N r_3.1).bind fun r_82 => ((p_Height N r_3.1).bind fun r_83 => ((p_Stands N r_3.1).bind fun r_84 => ((p_Passes N r_3.1 r_4.1).bind fun r_85 => (letJ (fun (y_86 : Bool) => (bif y_86 then some false else (letJ (fun (_ : Unit) => ((p_br2_Down N b_10 (IntKind.i64.wrap (r_3.1.Rear - r_3.1.Front))).bind fun r_114 => ((p_br2_Up N b_11 (IntKind.i64.wrap (r_3.1.Rear - r_3.1.Front))).bind fun r_115 => ((p_bl2_span N r_114 r_115).bind fun r_116 => (bif ((r_82.1.Lo == r_116.Lo) && ((r_82.1.Hi == r_116.Hi) && true)) then ((p_br2_Down N b_12 (IntKind.i64.wrap (r_3.1.Rear - r_3.1.Front))).bind fun r_118 => ((p_br2_Up N b_13 (IntKind.i64.wrap (r_3.1.Rear - r_3.1.Front))).bind fun r_119 => ((p_bl2_span N r_118 r_119).bind fun r_120 => (bif ((r_82.2.1.Lo == r_120.Lo) && ((r_82.2.1.Hi == r_120.Hi) && true)) then ((p_bl2_awake N).bind fun r_123 => some r_123) else some false)))) else some false))))) (fun k_100 => (loop1 (fun rec_104 (k_103 : Int) => (bif (decide (k_103 < ((r_85.1.length : Nat) : Int))) then ((getI r_85.1 k_103).bind fun x_108 => ((idxI k_103 k_6).bind fun u_109 => ((w_16[Int.toNat k_103]?).bind fun x_110 => ((p_bl2_told N x_110 ((r_5.length : Nat) : Int)).bind fun r_111 => (bif (x_108 != r_111) then some false else (rec_104 (IntKind.i64.wrap (k_103 + 1)))))))) else (k_100 ()))) N 0))))) (fun k_87 => (bif (r_81.2 != 0) then (k_87 true) else (bif (r_82.2.2 != 0) then (k_87 true) else (bif (r_83.2 != 0) then (k_87 true) else (bif (r_84.2 != 0) then (k_87 true) else (bif (r_85.2 != 0) then (k_87 true) else (bif (!((r_81.1.Lo == b_8) && ((r_81.1.Hi == b_9) && true))) then (k_87 true) else (bif (!((r_83.1.Lo == b_14) && ((r_83.1.Hi == b_15) && true))) then (k_87 true) else (bif (((r_85.1.length : Nat) : Int) != ((r_4.1.length : Nat) : Int)) then (k_87 true) else ((p_bl2_told N up_7 ((r_5.length : Nat) : Int)).bind fun r_98 => (k_87 (r_84.1 != r_98))))))))))))))))))) (fun k_17 => (loop11 (fun rec_31 (up_20 : Int) (i_21 : Int) (b_22 : Int) (b_23 : Int) (b_24 : Int) (b_25 : Int) (b_26 : Int) (b_27 : Int) (b_28 : Int) (b_29 : Int) (w_30 : List Int) => (bif (decide (i_21 < ((r_5.length : Nat) : Int))) then ((getI r_5 i_21).bind fun x_35 => ((p_br2_Carries N r_3.1 x_35).bind fun r_36 => ((getI r_5 i_21).bind fun x_38 => ((p_br2_Weighs N r_3.1 x_38).bind fun r_39 => ((p_bl2_seen N (⟨b_22, b_23⟩ : T_Span) (decide (i_21 > 0)) r_39).bind fun r_40 => ((getI r_5 i_21).bind fun x_41 => ((p_br2_Tall N r_3.1 x_41).bind fun r_42 => ((p_bl2_seen N (⟨b_28, b_29⟩ : T_Span) (decide (i_21 > 0)) r_42).bind fun r_44 => ((p_bl2_seen N (⟨b_24, b_25⟩ : T_Span) (decide (i_21 > 0)) r_36.1).bind fun r_45 => ((p_bl2_seen N (⟨b_26, b_27⟩ : T_Span) (decide (i_21 > 0)) r_36.2).bind fun r_47 => (letJ (fun (up_48 : Int) => (letJ (fun (w_58 : List Int) => (rec_31 up_48 (IntKind.i64.wrap (i_21 + 1)) r_40.Lo r_40.Hi r_45.Lo r_45.Hi r_47.Lo r_47.Hi r_44.Lo r_44.Hi w_58)) (fun k_59 => (loop2 (fun rec_64 (k_62 : Int) (w_63 : List Int) => (bif (decide (k_62 < ((r_4.1.length : Nat) : Int))) then (letJ (fun (w_68 : List Int) => (rec_64 (IntKind.i64.wrap (k_62 + 1)) w_68)) (fun k_69 => ((getI r_4.1 k_62).bind fun x_72 => ((getI r_5 i_21).bind fun x_73 => ((p_br2_Goes N r_3.1 x_72 x_73).bind fun r_74 => (bif r_74 then ((idxI k_62 k_6).bind fun u_76 => ((w_63[Int.toNat k_62]?).bind fun x_77 => ((idxI k_62 k_6).bind fun u_78 => ((setI w_63 k_62 (fun (y_79 : Int) => (IntKind.i64.wrap (x_77 + 1)))).bind fun z_80 => (k_69 z_80))))) else (k_69 w_63))))))) else (k_59 w_63))) N 0 w_30)))) (fun k_49 => (letJ (fun (y_52 : Bool) => (bif y_52 then (k_49 (IntKind.i64.wrap (up_20 + 1))) else (k_49 up_20))) (fun k_53 => (bif (decide (r_36.1 ≥ 0)) then (k_53 (decide (r_36.2 ≥ 0))) else (k_53 false)))))))))))))))) else (k_17 up_20 b_22 b_23 b_24 b_25 b_26 b_27 b_28 b_29 w_30))) N 0 0 0 0 0 0 0 0 0 0 (List.replicate k_6 0)))))))))
def v_bl2_FloatEnds (r : Bool) : AV := .bool r
attribute [local simp] v_bl2_FloatEnds
theorem d_bl2_FloatEnds (N : Nat) (nums_1 : (List Int)) (r : Bool) (h : p_bl2_FloatEnds N nums_1 = some r) : Does Try.prog 3 [.sl (nums_1.map (AV.int .i64)) none] [] fun v c => v = v_bl2_FloatEnds r ∧ c = [] := by
 unfold p_bl2_FloatEnds at h
 refine Does.ofL comp3 _ _ rfl rfl ?_
 refine Ex.seq (rg 1 [0] (mkS 238 [(0, .sl (nums_1.map (AV.int .i64)) none)]) ⟨[], []⟩ ?_)
 refine Ex.seq ?_
 obtain ⟨r_2, hr_2, h⟩ := bE h
 refine Ex.reg (rn 1 [30] (mkS 238 [(30, .sl (nums_1.map (AV.int .i64)) none)]) ⟨[], []⟩ ?_)
 refine ExO.callL (v' := .ptr 0 0) [] [.sl (nums_1.map (AV.int .i64)) none] rfl rfl (a_bk_DrumOf nums_1) rfl rfl (d_bk_DrumOf N nums_1 r_2 hr_2) rfl (by simp) ?_
 refine rn 1 [3] (mkS 238 [(3, .ptr 0 0)]) ⟨[(C_bk_Drum r_2)], []⟩ ?_
 refine ExO.nil ?_
 refine Ex.seq ?_
 obtain ⟨r_3, hr_3, h⟩ := bE h
 refine Ex.reg (rn 1 [3, 32] (mkS 238 [(3, .ptr 0 0), (32, .ptr 0 0)]) ⟨[(C_bk_Drum r_2)], []⟩ ?_)
 refine ExO.callL [0] [.ptr 0 0] rfl rfl (by simp; try rfl) rfl (by simp) (d_bk_SmallFloat N r_2 r_3 hr_3) (b_bk_SmallFloat _ _ _ _) (by simp) ?_
 refine rn 2 [3, 4] (mkS 238 [(3, .ptr 0 0), (4, .ptr 1 0)]) ⟨[(C_bk_Drum r_3.2), (C_Float r_3.1)], []⟩ ?_
 refine ExO.nil ?_
 refine Ex.seq ?_
 obtain ⟨r_4, hr_4, h⟩ := bE h
 refine Ex.reg (rn 2 [4, 34, 35] (mkS 238 [(4, .ptr 1 0), (34, .ptr 0 0), (35, (A_Float r_3.1))]) ⟨[(C_bk_Drum r_3.2), (C_Float r_3.1)], []⟩ ?_)
 refine ExO.callL [0] [.ptr 0 0, (A_Float r_3.1), i6 4] rfl rfl (by simp; try rfl) rfl (by simp) (d_bk_RouteOf N r_3.2 r_3.1 4 r_4 hr_4) (b_bk_RouteOf _ _ _ _) (by simp) ?_
 refine rn 1 [4, 5] (mkS 238 [(4, .ptr 1 0), (5, .sl (r_4.1.map A_Hurdle) none)]) ⟨[(C_bk_Drum r_4.2), (C_Float r_3.1)], []⟩ ?_
 refine ExO.nil ?_
 refine Ex.seq ?_
 obtain ⟨r_5, hr_5, h⟩ := bE h
 refine Ex.reg (rn 2 [4, 5, 37, 38] (mkS 238 [(4, .ptr 1 0), (5, .sl (r_4.1.map A_Hurdle) none), (37, (A_Float r_3.1)), (38, .agg [.nils, .nils])]) ⟨[(C_bk_Drum r_4.2), (C_Float r_3.1)], []⟩ ?_)
 refine ExO.callG0 (d_bl2_truthsg N r_3.1 (⟨[], []⟩ : T_br2_Truth) [] r_5 hr_5) [(A_Float r_3.1), .agg [.nils, .nils]] [] rfl rfl rfl (by simp; try rfl) (by simp; try rfl) ?_
 refine rn 1 [4, 5, 6] (mkS 238 [(4, .ptr 1 0), (5, .sl (r_4.1.map A_Hurdle) none), (6, .sl (r_5.map A_br2_Truth) (some 0))]) ⟨[(C_bk_Drum r_4.2), (C_Float r_3.1)], [(r_5.length, 2)]⟩ ?_
 refine ExO.nil ?_
 refine Ex.seq (rg 6 [4, 5, 6, 7] (mkS 238 [(4, .ptr 1 0), (5, .sl (r_4.1.map A_Hurdle) none), (6, .sl (r_5.map A_br2_Truth) (some 0)), (7, i6 (IntKind.i64.wrap (r_3.1.Rear - r_3.1.Front)))]) ⟨[(C_bk_Drum r_4.2), (C_Float r_3.1)], [(r_5.length, 2)]⟩ ?_)
 refine Ex.seq (rg 4 [4, 5, 6, 7, 8, 9, 10, 11] (mkS 238 [(4, .ptr 1 0), (5, .sl (r_4.1.map A_Hurdle) none), (6, .sl (r_5.map A_br2_Truth) (some 0)), (7, i6 (IntKind.i64.wrap (r_3.1.Rear - r_3.1.Front))), (8, .ptr 2 0), (9, .ptr 3 0), (10, .ptr 4 0), (11, .ptr 5 0)]) ⟨[(C_bk_Drum r_4.2), (C_Float r_3.1), [i6 0, i6 0], [i6 0, i6 0], [i6 0, i6 0], [i6 0, i6 0]], [(r_5.length, 2)]⟩ ?_)
 refine Ex.seq (rg 1 [4, 5, 6, 7, 8, 9, 10, 11, 12] (mkS 238 [(4, .ptr 1 0), (5, .sl (r_4.1.map A_Hurdle) none), (6, .sl (r_5.map A_br2_Truth) (some 0)), (7, i6 (IntKind.i64.wrap (r_3.1.Rear - r_3.1.Front))), (8, .ptr 2 0), (9, .ptr 3 0), (10, .ptr 4 0), (11, .ptr 5 0), (12, i6 0)]) ⟨[(C_bk_Drum r_4.2), (C_Float r_3.1), [i6 0, i6 0], [i6 0, i6 0], [i6 0, i6 0], [i6 0, i6 0]], [(r_5.length, 2)]⟩ ?_)
 refine Ex.seq ?_
 obtain ⟨k_6, hk_6, h⟩ := bE h
 refine regH 4 [(1, .eq (i6 ((r_4.1.length : Nat) : Int))), (2, .mk (flat ((List.replicate k_6 0).map (AV.int .i64))) k_6)] [4, 5, 6, 7, 8, 9, 10, 11, 12, 13] [AV.int .i64 (((r_4.1.map A_Hurdle).length : Nat) : Int) = AV.int .i64 ((r_4.1.length : Nat) : Int), ((r_4.1.length : Nat) : Int) = ((k_6 : Nat) : Int) ∧ k_6 ≤ 65536 ∧ rep [i6 0] k_6 = (flat ((List.replicate k_6 0).map (AV.int .i64)))] (mkS 238 [(4, .ptr 1 0), (5, .sl (r_4.1.map A_Hurdle) none), (6, .sl (r_5.map A_br2_Truth) (some 0)), (7, i6 (IntKind.i64.wrap (r_3.1.Rear - r_3.1.Front))), (8, .ptr 2 0), (9, .ptr 3 0), (10, .ptr 4 0), (11, .ptr 5 0), (12, i6 0), (13, .ms 6 k_6 1)]) (⟨[(C_bk_Drum r_4.2), (C_Float r_3.1), [i6 0, i6 0], [i6 0, i6 0], [i6 0, i6 0], [i6 0, i6 0], (flat ((List.replicate k_6 0).map (AV.int .i64)))], [(r_5.length, 2)]⟩) (by kernel_rfl) ⟨lenM _ _, mk_of (f := (AV.int .i64)) 0 rfl hk_6, trivial⟩ rfl ?_
 refine Ex.seq (Ex.seq ?_)
 refine rg 1 [4, 5, 6, 7, 8, 9, 10, 11, 12, 13, 14] (mkS 238 [(4, .ptr 1 0), (5, .sl (r_4.1.map A_Hurdle) none), (6, .sl (r_5.map A_br2_Truth) (some 0)), (7, i6 (IntKind.i64.wrap (r_3.1.Rear - r_3.1.Front))), (8, .ptr 2 0), (9, .ptr 3 0), (10, .ptr 4 0), (11, .ptr 5 0), (12, i6 0), (13, .ms 6 k_6 1), (14, i6 0)]) ⟨[(C_bk_Drum r_4.2), (C_Float r_3.1), [i6 0, i6 0], [i6 0, i6 0], [i6 0, i6 0], [i6 0, i6 0], (flat ((List.replicate k_6 0).map (AV.int .i64)))], [(r_5.length, 2)]⟩ ?_
 obtain ⟨K_18, hK_19, h⟩ := letE h
 refine Ex.blockJ (fun a S => ∃ (up_7 : Int), ∃ (b_8 : Int), ∃ (b_9 : Int), ∃ (b_10 : Int), ∃ (b_11 : Int), ∃ (b_12 : Int), ∃ (b_13 : Int), ∃ (b_14 : Int), ∃ (b_15 : Int), ∃ (w_16 : List Int), K_18 up_7 b_8 b_9 b_10 b_11 b_12 b_13 b_14 b_15 w_16 = some r ∧ a = mkS 238 [(4, .ptr 1 0), (5, .sl (r_4.1.map A_Hurdle) none), (6, .sl (r_5.map A_br2_Truth) (some 0)), (7, i6 (IntKind.i64.wrap (r_3.1.Rear - r_3.1.Front))), (8, .ptr 2 0), (9, .ptr 3 0), (10, .ptr 4 0), (11, .ptr 5 0), (12, i6 up_7), (13, .ms 6 k_6 1)] ∧ S = ⟨[(C_bk_Drum r_4.2), (C_Float r_3.1), [i6 b_8, i6 b_9], [i6 b_10, i6 b_11], [i6 b_12, i6 b_13], [i6 b_14, i6 b_15], (flat (w_16.map (AV.int .i64)))], [(r_5.length, 2)]⟩) ?_ ?_
 ·obtain ⟨B_32, hB_33, h⟩ := loop11I h
  refine Ex.loopF (fun k a S => ∃ (up_20 : Int), ∃ (i_21 : Int), ∃ (b_22 : Int), ∃ (b_23 : Int), ∃ (b_24 : Int), ∃ (b_25 : Int), ∃ (b_26 : Int), ∃ (b_27 : Int), ∃ (b_28 : Int), ∃ (b_29 : Int), ∃ (w_30 : List Int), loop11 B_32 k up_20 i_21 b_22 b_23 b_24 b_25 b_26 b_27 b_28 b_29 w_30 = some r ∧ a = mkS 238 [(4, .ptr 1 0), (5, .sl (r_4.1.map A_Hurdle) none), (6, .sl (r_5.map A_br2_Truth) (some 0)), (7, i6 (IntKind.i64.wrap (r_3.1.Rear - r_3.1.Front))), (8, .ptr 2 0), (9, .ptr 3 0), (10, .ptr 4 0), (11, .ptr 5 0), (12, i6 up_20), (13, .ms 6 k_6 1), (14, i6 i_21)] ∧ S = ⟨[(C_bk_Drum r_4.2), (C_Float r_3.1), [i6 b_22, i6 b_23], [i6 b_24, i6 b_25], [i6 b_26, i6 b_27], [i6 b_28, i6 b_29], (flat (w_30.map (AV.int .i64)))], [(r_5.length, 2)]⟩) N ⟨_, _, Forgets.refl _ _ _, 0, 0, 0, 0, 0, 0, 0, 0, 0, 0, (List.replicate k_6 0), h, rfl, rfl⟩ ?_
  rintro k a S ⟨up_20, i_21, b_22, b_23, b_24, b_25, b_26, b_27, b_28, b_29, w_30, h, rfl, rfl⟩
  cases k with
  | zero => exact (loop11Z h).elim
  | succ k =>
   replace h := loop11S h hB_33
   refine Ex.seq (Ex.seq ?_)
   refine regH 4 [(2, .eq (i6 ((r_5.length : Nat) : Int)))] [4, 5, 6, 7, 8, 9, 10, 11, 12, 13, 14, 51] [AV.int .i64 (((r_5.map A_br2_Truth).length : Nat) : Int) = AV.int .i64 ((r_5.length : Nat) : Int)] (mkS 238 [(4, .ptr 1 0), (5, .sl (r_4.1.map A_Hurdle) none), (6, .sl (r_5.map A_br2_Truth) (some 0)), (7, i6 (IntKind.i64.wrap (r_3.1.Rear - r_3.1.Front))), (8, .ptr 2 0), (9, .ptr 3 0), (10, .ptr 4 0), (11, .ptr 5 0), (12, i6 up_20), (13, .ms 6 k_6 1), (14, i6 i_21), (51, .bool (decide (i_21 < ((r_5.length : Nat) : Int))))]) (⟨[(C_bk_Drum r_4.2), (C_Float r_3.1), [i6 b_22, i6 b_23], [i6 b_24, i6 b_25], [i6 b_26, i6 b_27], [i6 b_28, i6 b_29], (flat (w_30.map (AV.int .i64)))], [(r_5.length, 2)]⟩) (by kernel_rfl) ⟨lenM _ _, trivial⟩ rfl ?_
   rcases condI h with ⟨hc_34, h⟩ | ⟨hc_34, h⟩
   ·refine Ex.condT _ rfl hc_34 ?_
    refine Ex.skip ?_
    refine Ex.seq ?_
    refine Ex.blockK ?_
    refine Ex.seq ?_
    obtain ⟨x_35, hx_35, h⟩ := bE h
    obtain ⟨r_36, hr_36, h⟩ := bE h
    have hT_37 : DoesA Try.prog [⟨8, [(A_Float r_3.1), (A_br2_Truth x_35)], [], (v_br2_Carries r_36), []⟩] ∧ ConsA [⟨8, [(A_Float r_3.1), (A_br2_Truth x_35)], [], (v_br2_Carries r_36), []⟩] := ⟨⟨(d_br2_Carries N r_3.1 x_35 r_36 hr_36), rfl, trivial⟩, ⟨trivial, trivial⟩⟩
    refine Ex.drawE (a1 := mkS 238 [(4, .ptr 1 0), (5, .sl (r_4.1.map A_Hurdle) none), (6, .sl (r_5.map A_br2_Truth) (some 0)), (7, i6 (IntKind.i64.wrap (r_3.1.Rear - r_3.1.Front))), (8, .ptr 2 0), (9, .ptr 3 0), (10, .ptr 4 0), (11, .ptr 5 0), (12, i6 up_20), (13, .ms 6 k_6 1), (14, i6 i_21), (15, i6 r_36.1), (51, .bool (decide (i_21 < ((r_5.length : Nat) : Int)))), (54, .tup [i6 r_36.1, i6 r_36.2]), (55, (A_Float r_3.1)), (56, .sl (r_5.map A_br2_Truth) (some 0)), (57, i6 i_21), (58, .rop (C_br2_Truth x_35)), (59, (A_br2_Truth x_35)), (60, .tup [i6 r_36.1, i6 r_36.2]), (61, i6 r_36.1), (62, i6 r_36.2)]) (tabO_ok hT_37.1) [] [] [] ?_ ?_
    ·refine drS [0, 1, 2, 3, 4, 5, 6] 5 [(3, .rop (C_br2_Truth x_35))] [LGet (r_5.map A_br2_Truth) i_21 2 (C_br2_Truth x_35)] (mkS 238 [(4, .ptr 1 0), (5, .sl (r_4.1.map A_Hurdle) none), (6, .sl (r_5.map A_br2_Truth) (some 0)), (7, i6 (IntKind.i64.wrap (r_3.1.Rear - r_3.1.Front))), (8, .ptr 2 0), (9, .ptr 3 0), (10, .ptr 4 0), (11, .ptr 5 0), (12, i6 up_20), (13, .ms 6 k_6 1), (14, i6 i_21), (51, .bool (decide (i_21 < ((r_5.length : Nat) : Int)))), (55, (A_Float r_3.1)), (56, .sl (r_5.map A_br2_Truth) (some 0)), (57, i6 i_21), (58, .rop (C_br2_Truth x_35)), (59, (A_br2_Truth x_35))]) (by simp) (by kernel_rfl) ⟨LGet.of hx_35 rfl, trivial⟩ (by kernel_rfl) ?_
     refine drC hT_37.2 0 _ [(A_Float r_3.1), (A_br2_Truth x_35)] (v_br2_Carries r_36) rfl rfl rfl rfl rfl (fun _ => rfl) rfl (by simp; try rfl) (fun _ => b_br2_Carries _ _ _ _) ?_
     refine drS [0, 1, 2, 3, 4, 5, 6] 4 [] [] (mkS 238 [(4, .ptr 1 0), (5, .sl (r_4.1.map A_Hurdle) none), (6, .sl (r_5.map A_br2_Truth) (some 0)), (7, i6 (IntKind.i64.wrap (r_3.1.Rear - r_3.1.Front))), (8, .ptr 2 0), (9, .ptr 3 0), (10, .ptr 4 0), (11, .ptr 5 0), (12, i6 up_20), (13, .ms 6 k_6 1), (14, i6 i_21), (15, i6 r_36.1), (51, .bool (decide (i_21 < ((r_5.length : Nat) : Int)))), (54, .tup [i6 r_36.1, i6 r_36.2]), (55, (A_Float r_3.1)), (56, .sl (r_5.map A_br2_Truth) (some 0)), (57, i6 i_21), (58, .rop (C_br2_Truth x_35)), (59, (A_br2_Truth x_35)), (60, .tup [i6 r_36.1, i6 r_36.2]), (61, i6 r_36.1), (62, i6 r_36.2)]) (by simp) (by kernel_rfl) trivial (by kernel_rfl) ?_
     exact DrO.nil rfl
    ·dsimp only [List.getLastD_cons, List.getLastD_nil]
     refine rn 1 [4, 5, 6, 7, 8, 9, 10, 11, 12, 13, 14, 15, 16] (mkS 238 [(4, .ptr 1 0), (5, .sl (r_4.1.map A_Hurdle) none), (6, .sl (r_5.map A_br2_Truth) (some 0)), (7, i6 (IntKind.i64.wrap (r_3.1.Rear - r_3.1.Front))), (8, .ptr 2 0), (9, .ptr 3 0), (10, .ptr 4 0), (11, .ptr 5 0), (12, i6 up_20), (13, .ms 6 k_6 1), (14, i6 i_21), (15, i6 r_36.1), (16, i6 r_36.2)]) ⟨[(C_bk_Drum r_4.2), (C_Float r_3.1), [i6 b_22, i6 b_23], [i6 b_24, i6 b_25], [i6 b_26, i6 b_27], [i6 b_28, i6 b_29], (flat (w_30.map (AV.int .i64)))], [(r_5.length, 2)]⟩ ?_
     refine ExO.nil ?_
     refine Ex.seq ?_
     obtain ⟨x_38, hx_38, h⟩ := bE h
     obtain ⟨r_39, hr_39, h⟩ := bE h
     obtain ⟨r_40, hr_40, h⟩ := bE h
     obtain ⟨x_41, hx_41, h⟩ := bE h
     obtain ⟨r_42, hr_42, h⟩ := bE h
     have hT_43 : DoesA Try.prog [⟨10, [(A_Float r_3.1), (A_br2_Truth x_38)], [], (v_br2_Weighs r_39), []⟩, ⟨9, [.agg [i6 b_22, i6 b_23], .bool (decide (i_21 > 0)), i6 r_39], [], (v_bl2_seen r_40), []⟩, ⟨11, [(A_Float r_3.1), (A_br2_Truth x_41)], [], (v_br2_Tall r_42), []⟩] ∧ ConsA [⟨10, [(A_Float r_3.1), (A_br2_Truth x_38)], [], (v_br2_Weighs r_39), []⟩, ⟨9, [.agg [i6 b_22, i6 b_23], .bool (decide (i_21 > 0)), i6 r_39], [], (v_bl2_seen r_40), []⟩, ⟨11, [(A_Float r_3.1), (A_br2_Truth x_41)], [], (v_br2_Tall r_42), []⟩] := ⟨⟨(d_br2_Weighs N r_3.1 x_38 r_39 hr_39), rfl, (d_bl2_seen N (⟨b_22, b_23⟩ : T_Span) (decide (i_21 > 0)) r_39 r_40 hr_40), rfl, (d_br2_Tall N r_3.1 x_41 r_42 hr_42), rfl, trivial⟩, ⟨⟨ConsR.ne rfl, ConsR.ne rfl, trivial⟩, ⟨ConsR.ne rfl, trivial⟩, trivial, trivial⟩⟩
     refine Ex.drawE (a1 := mkS 238 [(4, .ptr 1 0), (5, .sl (r_4.1.map A_Hurdle) none), (6, .sl (r_5.map A_br2_Truth) (some 0)), (7, i6 (IntKind.i64.wrap (r_3.1.Rear - r_3.1.Front))), (8, .ptr 2 0), (9, .ptr 3 0), (10, .ptr 4 0), (11, .ptr 5 0), (12, i6 up_20), (13, .ms 6 k_6 1), (14, i6 i_21), (15, i6 r_36.1), (16, i6 r_36.2), (63, .agg [i6 b_22, i6 b_23]), (64, i6 i_21), (65, .bool (decide (i_21 > 0))), (66, (A_Float r_3.1)), (67, .sl (r_5.map A_br2_Truth) (some 0)), (68, i6 i_21), (69, .rop (C_br2_Truth x_38)), (70, (A_br2_Truth x_38)), (71, i6 r_39), (72, (A_Span r_40)), (73, .agg [i6 b_28, i6 b_29]), (74, i6 i_21), (75, .bool (decide (i_21 > 0))), (76, (A_Float r_3.1)), (77, .sl (r_5.map A_br2_Truth) (some 0)), (78, i6 i_21), (79, .rop (C_br2_Truth x_41)), (80, (A_br2_Truth x_41)), (81, i6 r_42)]) (tabO_ok hT_43.1) [] [] [] ?_ ?_
     ·refine drS [0, 1, 2, 3, 4, 5, 6] 8 [(6, .rop (C_br2_Truth x_38))] [LGet (r_5.map A_br2_Truth) i_21 2 (C_br2_Truth x_38)] (mkS 238 [(4, .ptr 1 0), (5, .sl (r_4.1.map A_Hurdle) none), (6, .sl (r_5.map A_br2_Truth) (some 0)), (7, i6 (IntKind.i64.wrap (r_3.1.Rear - r_3.1.Front))), (8, .ptr 2 0), (9, .ptr 3 0), (10, .ptr 4 0), (11, .ptr 5 0), (12, i6 up_20), (13, .ms 6 k_6 1), (14, i6 i_21), (15, i6 r_36.1), (16, i6 r_36.2), (63, .agg [i6 b_22, i6 b_23]), (64, i6 i_21), (65, .bool (decide (i_21 > 0))), (66, (A_Float r_3.1)), (67, .sl (r_5.map A_br2_Truth) (some 0)), (68, i6 i_21), (69, .rop (C_br2_Truth x_38)), (70, (A_br2_Truth x_38))]) (by simp) (by kernel_rfl) ⟨LGet.of hx_38 rfl, trivial⟩ (by kernel_rfl) ?_
      refine drC hT_43.2 0 _ [(A_Float r_3.1), (A_br2_Truth x_38)] (v_br2_Weighs r_39) rfl rfl rfl rfl rfl (fun _ => rfl) rfl (by simp; try rfl) (fun _ => b_br2_Weighs _ _ _ _) ?_
      refine drC hT_43.2 1 _ [.agg [i6 b_22, i6 b_23], .bool (decide (i_21 > 0)), i6 r_39] (v_bl2_seen r_40) rfl rfl rfl rfl rfl (fun _ => rfl) rfl (by simp; try rfl) (fun _ => b_bl2_seen _ _ _ _) ?_
      refine drS [0, 1, 2, 3, 4, 5, 6] 8 [(6, .rop (C_br2_Truth x_41))] [LGet (r_5.map A_br2_Truth) i_21 2 (C_br2_Truth x_41)] (mkS 238 [(4, .ptr 1 0), (5, .sl (r_4.1.map A_Hurdle) none), (6, .sl (r_5.map A_br2_Truth) (some 0)), (7, i6 (IntKind.i64.wrap (r_3.1.Rear - r_3.1.Front))), (8, .ptr 2 0), (9, .ptr 3 0), (10, .ptr 4 0), (11, .ptr 5 0), (12, i6 up_20), (13, .ms 6 k_6 1), (14, i6 i_21), (15, i6 r_36.1), (16, i6 r_36.2), (63, .agg [i6 b_22, i6 b_23]), (64, i6 i_21), (65, .bool (decide (i_21 > 0))), (66, (A_Float r_3.1)), (67, .sl (r_5.map A_br2_Truth) (some 0)), (68, i6 i_21), (69, .rop (C_br2_Truth x_38)), (70, (A_br2_Truth x_38)), (71, i6 r_39), (72, (A_Span r_40)), (73, .agg [i6 b_28, i6 b_29]), (74, i6 i_21), (75, .bool (decide (i_21 > 0))), (76, (A_Float r_3.1)), (77, .sl (r_5.map A_br2_Truth) (some 0)), (78, i6 i_21), (79, .rop (C_br2_Truth x_41)), (80, (A_br2_Truth x_41))]) (by simp) (by kernel_rfl) ⟨LGet.of hx_41 rfl, trivial⟩ (by kernel_rfl) ?_
      refine drC hT_43.2 2 _ [(A_Float r_3.1), (A_br2_Truth x_41)] (v_br2_Tall r_42) rfl rfl rfl rfl rfl (fun _ => rfl) rfl (by simp; try rfl) (fun _ => b_br2_Tall _ _ _ _) ?_
      exact DrO.nil rfl
     ·dsimp only [List.getLastD_cons, List.getLastD_nil]
      obtain ⟨r_44, hr_44, h⟩ := bE h
      refine ExO.callL [] [.agg [i6 b_28, i6 b_29], .bool (decide (i_21 > 0)), i6 r_42] rfl rfl (a_bl2_seen (⟨b_28, b_29⟩ : T_Span) (decide (i_21 > 0)) r_42) rfl rfl (d_bl2_seen N (⟨b_28, b_29⟩ : T_Span) (decide (i_21 > 0)) r_42 r_44 hr_44) (b_bl2_seen _ _ _ _) rfl ?_
      refine rn 2 [4, 5, 6, 7, 8, 9, 10, 11, 12, 13, 14, 15, 16] (mkS 238 [(4, .ptr 1 0), (5, .sl (r_4.1.map A_Hurdle) none), (6, .sl (r_5.map A_br2_Truth) (some 0)), (7, i6 (IntKind.i64.wrap (r_3.1.Rear - r_3.1.Front))), (8, .ptr 2 0), (9, .ptr 3 0), (10, .ptr 4 0), (11, .ptr 5 0), (12, i6 up_20), (13, .ms 6 k_6 1), (14, i6 i_21), (15, i6 r_36.1), (16, i6 r_36.2)]) ⟨[(C_bk_Drum r_4.2), (C_Float r_3.1), (C_Span r_40), [i6 b_24, i6 b_25], [i6 b_26, i6 b_27], (C_Span r_44), (flat (w_30.map (AV.int .i64)))], [(r_5.length, 2)]⟩ ?_
      refine ExO.nil ?_
      refine Ex.seq ?_
      obtain ⟨r_45, hr_45, h⟩ := bE h
      have hT_46 : DoesA Try.prog [⟨9, [.agg [i6 b_24, i6 b_25], .bool (decide (i_21 > 0)), i6 r_36.1], [], (v_bl2_seen r_45), []⟩] ∧ ConsA [⟨9, [.agg [i6 b_24, i6 b_25], .bool (decide (i_21 > 0)), i6 r_36.1], [], (v_bl2_seen r_45), []⟩] := ⟨⟨(d_bl2_seen N (⟨b_24, b_25⟩ : T_Span) (decide (i_21 > 0)) r_36.1 r_45 hr_45), rfl, trivial⟩, ⟨trivial, trivial⟩⟩
      refine Ex.drawE (a1 := mkS 238 [(4, .ptr 1 0), (5, .sl (r_4.1.map A_Hurdle) none), (6, .sl (r_5.map A_br2_Truth) (some 0)), (7, i6 (IntKind.i64.wrap (r_3.1.Rear - r_3.1.Front))), (8, .ptr 2 0), (9, .ptr 3 0), (10, .ptr 4 0), (11, .ptr 5 0), (12, i6 up_20), (13, .ms 6 k_6 1), (14, i6 i_21), (15, i6 r_36.1), (16, i6 r_36.2), (83, .agg [i6 b_24, i6 b_25]), (84, i6 i_21), (85, .bool (decide (i_21 > 0))), (86, i6 r_36.1), (87, (A_Span r_45)), (88, .agg [i6 b_26, i6 b_27]), (89, i6 i_21), (90, .bool (decide (i_21 > 0))), (91, i6 r_36.2)]) (tabO_ok hT_46.1) [] [] [] ?_ ?_
      ·refine drS [0, 1, 2, 3, 4, 5, 6] 4 [] [] (mkS 238 [(4, .ptr 1 0), (5, .sl (r_4.1.map A_Hurdle) none), (6, .sl (r_5.map A_br2_Truth) (some 0)), (7, i6 (IntKind.i64.wrap (r_3.1.Rear - r_3.1.Front))), (8, .ptr 2 0), (9, .ptr 3 0), (10, .ptr 4 0), (11, .ptr 5 0), (12, i6 up_20), (13, .ms 6 k_6 1), (14, i6 i_21), (15, i6 r_36.1), (16, i6 r_36.2), (83, .agg [i6 b_24, i6 b_25]), (84, i6 i_21), (85, .bool (decide (i_21 > 0))), (86, i6 r_36.1)]) (by simp) (by kernel_rfl) trivial (by kernel_rfl) ?_
       refine drC hT_46.2 0 _ [.agg [i6 b_24, i6 b_25], .bool (decide (i_21 > 0)), i6 r_36.1] (v_bl2_seen r_45) rfl rfl rfl rfl rfl (fun _ => rfl) rfl (by simp; try rfl) (fun _ => b_bl2_seen _ _ _ _) ?_
       refine drS [0, 1, 2, 3, 4, 5, 6] 4 [] [] (mkS 238 [(4, .ptr 1 0), (5, .sl (r_4.1.map A_Hurdle) none), (6, .sl (r_5.map A_br2_Truth) (some 0)), (7, i6 (IntKind.i64.wrap (r_3.1.Rear - r_3.1.Front))), (8, .ptr 2 0), (9, .ptr 3 0), (10, .ptr 4 0), (11, .ptr 5 0), (12, i6 up_20), (13, .ms 6 k_6 1), (14, i6 i_21), (15, i6 r_36.1), (16, i6 r_36.2), (83, .agg [i6 b_24, i6 b_25]), (84, i6 i_21), (85, .bool (decide (i_21 > 0))), (86, i6 r_36.1), (87, (A_Span r_45)), (88, .agg [i6 b_26, i6 b_27]), (89, i6 i_21), (90, .bool (decide (i_21 > 0))), (91, i6 r_36.2)]) (by simp) (by kernel_rfl) trivial (by kernel_rfl) ?_
       exact DrO.nil rfl
      ·dsimp only [List.getLastD_cons, List.getLastD_nil]
       obtain ⟨r_47, hr_47, h⟩ := bE h
       refine ExO.callL [] [.agg [i6 b_26, i6 b_27], .bool (decide (i_21 > 0)), i6 r_36.2] rfl rfl (a_bl2_seen (⟨b_26, b_27⟩ : T_Span) (decide (i_21 > 0)) r_36.2) rfl rfl (d_bl2_seen N (⟨b_26, b_27⟩ : T_Span) (decide (i_21 > 0)) r_36.2 r_47 hr_47) (b_bl2_seen _ _ _ _) rfl ?_
       refine rn 2 [4, 5, 6, 7, 8, 9, 10, 11, 12, 13, 14, 15, 16] (mkS 238 [(4, .ptr 1 0), (5, .sl (r_4.1.map A_Hurdle) none), (6, .sl (r_5.map A_br2_Truth) (some 0)), (7, i6 (IntKind.i64.wrap (r_3.1.Rear - r_3.1.Front))), (8, .ptr 2 0), (9, .ptr 3 0), (10, .ptr 4 0), (11, .ptr 5 0), (12, i6 up_20), (13, .ms 6 k_6 1), (14, i6 i_21), (15, i6 r_36.1), (16, i6 r_36.2)]) ⟨[(C_bk_Drum r_4.2), (C_Float r_3.1), (C_Span r_40), (C_Span r_45), (C_Span r_47), (C_Span r_44), (flat (w_30.map (AV.int .i64)))], [(r_5.length, 2)]⟩ ?_
       refine ExO.nil ?_
       obtain ⟨K_50, hK_51, h⟩ := letE h
       refine Ex.seqJ (fun a S => ∃ (up_48 : Int), K_50 up_48 = some r ∧ a = mkS 238 [(4, .ptr 1 0), (5, .sl (r_4.1.map A_Hurdle) none), (6, .sl (r_5.map A_br2_Truth) (some 0)), (7, i6 (IntKind.i64.wrap (r_3.1.Rear - r_3.1.Front))), (8, .ptr 2 0), (9, .ptr 3 0), (10, .ptr 4 0), (11, .ptr 5 0), (12, i6 up_48), (13, .ms 6 k_6 1), (14, i6 i_21)] ∧ S = ⟨[(C_bk_Drum r_4.2), (C_Float r_3.1), (C_Span r_40), (C_Span r_45), (C_Span r_47), (C_Span r_44), (flat (w_30.map (AV.int .i64)))], [(r_5.length, 2)]⟩) ?_ ?_
       ·obtain ⟨K_54, hK_55, h⟩ := letE h
        refine Ex.seqJ (fun a S => ∃ (y_52 : Bool), K_54 y_52 = some r ∧ a = mkS 238 [(4, .ptr 1 0), (5, .sl (r_4.1.map A_Hurdle) none), (6, .sl (r_5.map A_br2_Truth) (some 0)), (7, i6 (IntKind.i64.wrap (r_3.1.Rear - r_3.1.Front))), (8, .ptr 2 0), (9, .ptr 3 0), (10, .ptr 4 0), (11, .ptr 5 0), (12, i6 up_20), (13, .ms 6 k_6 1), (14, i6 i_21), (98, .bool y_52)] ∧ S = ⟨[(C_bk_Drum r_4.2), (C_Float r_3.1), (C_Span r_40), (C_Span r_45), (C_Span r_47), (C_Span r_44), (flat (w_30.map (AV.int .i64)))], [(r_5.length, 2)]⟩) ?_ ?_
        ·rcases condI h with ⟨hc_56, h⟩ | ⟨hc_56, h⟩
         ·refine regH 6 [(2, .eq (.bool true))] [4, 5, 6, 7, 8, 9, 10, 11, 12, 13, 14, 98] [AV.bool (decide (r_36.1 ≥ 0)) = AV.bool true] (mkS 238 [(4, .ptr 1 0), (5, .sl (r_4.1.map A_Hurdle) none), (6, .sl (r_5.map A_br2_Truth) (some 0)), (7, i6 (IntKind.i64.wrap (r_3.1.Rear - r_3.1.Front))), (8, .ptr 2 0), (9, .ptr 3 0), (10, .ptr 4 0), (11, .ptr 5 0), (12, i6 up_20), (13, .ms 6 k_6 1), (14, i6 i_21), (98, .bool (decide (r_36.2 ≥ 0)))]) (⟨[(C_bk_Drum r_4.2), (C_Float r_3.1), (C_Span r_40), (C_Span r_45), (C_Span r_47), (C_Span r_44), (flat (w_30.map (AV.int .i64)))], [(r_5.length, 2)]⟩) (by kernel_rfl) ⟨congrArg AV.bool hc_56, trivial⟩ rfl ?_
          (try simp only [reduceCtorEq, AEx.ex.injEq, Nat.reduceEqDiff, if_true, if_false])
          exact ⟨_, _, Forgets.refl _ _ _, (decide (r_36.2 ≥ 0)), h, rfl, rfl⟩
         ·refine regH 6 [(2, .eq (.bool false))] [4, 5, 6, 7, 8, 9, 10, 11, 12, 13, 14, 98] [AV.bool (decide (r_36.1 ≥ 0)) = AV.bool false] (mkS 238 [(4, .ptr 1 0), (5, .sl (r_4.1.map A_Hurdle) none), (6, .sl (r_5.map A_br2_Truth) (some 0)), (7, i6 (IntKind.i64.wrap (r_3.1.Rear - r_3.1.Front))), (8, .ptr 2 0), (9, .ptr 3 0), (10, .ptr 4 0), (11, .ptr 5 0), (12, i6 up_20), (13, .ms 6 k_6 1), (14, i6 i_21), (98, .bool false)]) (⟨[(C_bk_Drum r_4.2), (C_Float r_3.1), (C_Span r_40), (C_Span r_45), (C_Span r_47), (C_Span r_44), (flat (w_30.map (AV.int .i64)))], [(r_5.length, 2)]⟩) (by kernel_rfl) ⟨congrArg AV.bool hc_56, trivial⟩ rfl ?_
          (try simp only [reduceCtorEq, AEx.ex.injEq, Nat.reduceEqDiff, if_true, if_false])
          exact ⟨_, _, Forgets.refl _ _ _, false, h, rfl, rfl⟩
        ·rintro a S ⟨y_52, h, rfl, rfl⟩
         subst hK_55
         rcases condI h with ⟨hc_57, h⟩ | ⟨hc_57, h⟩
         ·refine Ex.condT _ rfl hc_57 ?_
          refine rg 3 [4, 5, 6, 7, 8, 9, 10, 11, 12, 13, 14] (mkS 238 [(4, .ptr 1 0), (5, .sl (r_4.1.map A_Hurdle) none), (6, .sl (r_5.map A_br2_Truth) (some 0)), (7, i6 (IntKind.i64.wrap (r_3.1.Rear - r_3.1.Front))), (8, .ptr 2 0), (9, .ptr 3 0), (10, .ptr 4 0), (11, .ptr 5 0), (12, i6 (IntKind.i64.wrap (up_20 + 1))), (13, .ms 6 k_6 1), (14, i6 i_21)]) ⟨[(C_bk_Drum r_4.2), (C_Float r_3.1), (C_Span r_40), (C_Span r_45), (C_Span r_47), (C_Span r_44), (flat (w_30.map (AV.int .i64)))], [(r_5.length, 2)]⟩ ?_
          (try simp only [reduceCtorEq, AEx.ex.injEq, Nat.reduceEqDiff, if_true, if_false])
          exact ⟨_, _, Forgets.refl _ _ _, (IntKind.i64.wrap (up_20 + 1)), h, rfl, rfl⟩
         ·refine Ex.condF _ rfl hc_57 ?_
          refine Ex.skip ?_
          (try simp only [reduceCtorEq, AEx.ex.injEq, Nat.reduceEqDiff, if_true, if_false])
          exact ⟨_, _, forgetK [4, 5, 6, 7, 8, 9, 10, 11, 12, 13, 14], up_20, h, rfl, rfl⟩
       ·rintro a S ⟨up_48, h, rfl, rfl⟩
        subst hK_51
        refine Ex.seq (rg 1 [4, 5, 6, 7, 8, 9, 10, 11, 12, 13, 14, 17] (mkS 238 [(4, .ptr 1 0), (5, .sl (r_4.1.map A_Hurdle) none), (6, .sl (r_5.map A_br2_Truth) (some 0)), (7, i6 (IntKind.i64.wrap (r_3.1.Rear - r_3.1.Front))), (8, .ptr 2 0), (9, .ptr 3 0), (10, .ptr 4 0), (11, .ptr 5 0), (12, i6 up_48), (13, .ms 6 k_6 1), (14, i6 i_21), (17, i6 0)]) ⟨[(C_bk_Drum r_4.2), (C_Float r_3.1), (C_Span r_40), (C_Span r_45), (C_Span r_47), (C_Span r_44), (flat (w_30.map (AV.int .i64)))], [(r_5.length, 2)]⟩ ?_)
        obtain ⟨K_60, hK_61, h⟩ := letE h
        refine Ex.blockJ (fun a S => ∃ (w_58 : List Int), K_60 w_58 = some r ∧ a = mkS 238 [(4, .ptr 1 0), (5, .sl (r_4.1.map A_Hurdle) none), (6, .sl (r_5.map A_br2_Truth) (some 0)), (7, i6 (IntKind.i64.wrap (r_3.1.Rear - r_3.1.Front))), (8, .ptr 2 0), (9, .ptr 3 0), (10, .ptr 4 0), (11, .ptr 5 0), (12, i6 up_48), (13, .ms 6 k_6 1), (14, i6 i_21)] ∧ S = ⟨[(C_bk_Drum r_4.2), (C_Float r_3.1), (C_Span r_40), (C_Span r_45), (C_Span r_47), (C_Span r_44), (flat (w_58.map (AV.int .i64)))], [(r_5.length, 2)]⟩) ?_ ?_
        ·obtain ⟨B_65, hB_66, h⟩ := loop2I h
         refine Ex.loopF (fun k a S => ∃ (k_62 : Int), ∃ (w_63 : List Int), loop2 B_65 k k_62 w_63 = some r ∧ a = mkS 238 [(4, .ptr 1 0), (5, .sl (r_4.1.map A_Hurdle) none), (6, .sl (r_5.map A_br2_Truth) (some 0)), (7, i6 (IntKind.i64.wrap (r_3.1.Rear - r_3.1.Front))), (8, .ptr 2 0), (9, .ptr 3 0), (10, .ptr 4 0), (11, .ptr 5 0), (12, i6 up_48), (13, .ms 6 k_6 1), (14, i6 i_21), (17, i6 k_62)] ∧ S = ⟨[(C_bk_Drum r_4.2), (C_Float r_3.1), (C_Span r_40), (C_Span r_45), (C_Span r_47), (C_Span r_44), (flat (w_63.map (AV.int .i64)))], [(r_5.length, 2)]⟩) N ⟨_, _, Forgets.refl _ _ _, 0, w_30, h, rfl, rfl⟩ ?_
         rintro k a S ⟨k_62, w_63, h, rfl, rfl⟩
         cases k with
         | zero => exact (loop2Z h).elim
         | succ k =>
          replace h := loop2S h hB_66
          refine Ex.seq (Ex.seq ?_)
          refine regH 4 [(2, .eq (i6 ((r_4.1.length : Nat) : Int)))] [4, 5, 6, 7, 8, 9, 10, 11, 12, 13, 14, 17, 104] [AV.int .i64 (((r_4.1.map A_Hurdle).length : Nat) : Int) = AV.int .i64 ((r_4.1.length : Nat) : Int)] (mkS 238 [(4, .ptr 1 0), (5, .sl (r_4.1.map A_Hurdle) none), (6, .sl (r_5.map A_br2_Truth) (some 0)), (7, i6 (IntKind.i64.wrap (r_3.1.Rear - r_3.1.Front))), (8, .ptr 2 0), (9, .ptr 3 0), (10, .ptr 4 0), (11, .ptr 5 0), (12, i6 up_48), (13, .ms 6 k_6 1), (14, i6 i_21), (17, i6 k_62), (104, .bool (decide (k_62 < ((r_4.1.length : Nat) : Int))))]) (⟨[(C_bk_Drum r_4.2), (C_Float r_3.1), (C_Span r_40), (C_Span r_45), (C_Span r_47), (C_Span r_44), (flat (w_63.map (AV.int .i64)))], [(r_5.length, 2)]⟩) (by kernel_rfl) ⟨lenM _ _, trivial⟩ rfl ?_
          rcases condI h with ⟨hc_67, h⟩ | ⟨hc_67, h⟩
          ·refine Ex.condT _ rfl hc_67 ?_
           refine Ex.skip ?_
           refine Ex.seq ?_
           obtain ⟨K_70, hK_71, h⟩ := letE h
           refine Ex.blockJ (fun a S => ∃ (w_68 : List Int), K_70 w_68 = some r ∧ a = mkS 238 [(4, .ptr 1 0), (5, .sl (r_4.1.map A_Hurdle) none), (6, .sl (r_5.map A_br2_Truth) (some 0)), (7, i6 (IntKind.i64.wrap (r_3.1.Rear - r_3.1.Front))), (8, .ptr 2 0), (9, .ptr 3 0), (10, .ptr 4 0), (11, .ptr 5 0), (12, i6 up_48), (13, .ms 6 k_6 1), (14, i6 i_21), (17, i6 k_62)] ∧ S = ⟨[(C_bk_Drum r_4.2), (C_Float r_3.1), (C_Span r_40), (C_Span r_45), (C_Span r_47), (C_Span r_44), (flat (w_68.map (AV.int .i64)))], [(r_5.length, 2)]⟩) ?_ ?_
           ·refine Ex.seq ?_
            obtain ⟨x_72, hx_72, h⟩ := bE h
            obtain ⟨x_73, hx_73, h⟩ := bE h
            refine Ex.drawE (a1 := mkS 238 [(4, .ptr 1 0), (5, .sl (r_4.1.map A_Hurdle) none), (6, .sl (r_5.map A_br2_Truth) (some 0)), (7, i6 (IntKind.i64.wrap (r_3.1.Rear - r_3.1.Front))), (8, .ptr 2 0), (9, .ptr 3 0), (10, .ptr 4 0), (11, .ptr 5 0), (12, i6 up_48), (13, .ms 6 k_6 1), (14, i6 i_21), (17, i6 k_62), (104, .bool (decide (k_62 < ((r_4.1.length : Nat) : Int)))), (107, (A_Float r_3.1)), (108, .sl (r_4.1.map A_Hurdle) none), (109, i6 k_62), (110, .rop (C_Hurdle x_72)), (111, (A_Hurdle x_72)), (112, .sl (r_5.map A_br2_Truth) (some 0)), (113, i6 i_21), (114, .rop (C_br2_Truth x_73)), (115, (A_br2_Truth x_73))]) (noClr_ok _) [] [] [] ?_ ?_
            ·refine drS [0, 1, 2, 3, 4, 5, 6] 9 [(3, .rop (C_Hurdle x_72)), (7, .rop (C_br2_Truth x_73))] [LGet (r_4.1.map A_Hurdle) k_62 3 (C_Hurdle x_72), LGet (r_5.map A_br2_Truth) i_21 2 (C_br2_Truth x_73)] (mkS 238 [(4, .ptr 1 0), (5, .sl (r_4.1.map A_Hurdle) none), (6, .sl (r_5.map A_br2_Truth) (some 0)), (7, i6 (IntKind.i64.wrap (r_3.1.Rear - r_3.1.Front))), (8, .ptr 2 0), (9, .ptr 3 0), (10, .ptr 4 0), (11, .ptr 5 0), (12, i6 up_48), (13, .ms 6 k_6 1), (14, i6 i_21), (17, i6 k_62), (104, .bool (decide (k_62 < ((r_4.1.length : Nat) : Int)))), (107, (A_Float r_3.1)), (108, .sl (r_4.1.map A_Hurdle) none), (109, i6 k_62), (110, .rop (C_Hurdle x_72)), (111, (A_Hurdle x_72)), (112, .sl (r_5.map A_br2_Truth) (some 0)), (113, i6 i_21), (114, .rop (C_br2_Truth x_73)), (115, (A_br2_Truth x_73))]) (by simp) (by kernel_rfl) ⟨LGet.of hx_72 rfl, LGet.of hx_73 rfl, trivial⟩ (by kernel_rfl) ?_
             exact DrO.nil rfl
            ·dsimp only [List.getLastD_cons, List.getLastD_nil]
             obtain ⟨r_74, hr_74, h⟩ := bE h
             refine ExO.callL [] [(A_Float r_3.1), (A_Hurdle x_72), (A_br2_Truth x_73)] rfl rfl (a_br2_Goes r_3.1 x_72 x_73) rfl rfl (d_br2_Goes N r_3.1 x_72 x_73 r_74 hr_74) (b_br2_Goes _ _ _ _) rfl ?_
             refine rn 0 [4, 5, 6, 7, 8, 9, 10, 11, 12, 13, 14, 17, 116] (mkS 238 [(4, .ptr 1 0), (5, .sl (r_4.1.map A_Hurdle) none), (6, .sl (r_5.map A_br2_Truth) (some 0)), (7, i6 (IntKind.i64.wrap (r_3.1.Rear - r_3.1.Front))), (8, .ptr 2 0), (9, .ptr 3 0), (10, .ptr 4 0), (11, .ptr 5 0), (12, i6 up_48), (13, .ms 6 k_6 1), (14, i6 i_21), (17, i6 k_62), (116, .bool r_74)]) ⟨[(C_bk_Drum r_4.2), (C_Float r_3.1), (C_Span r_40), (C_Span r_45), (C_Span r_47), (C_Span r_44), (flat (w_63.map (AV.int .i64)))], [(r_5.length, 2)]⟩ ?_
             refine ExO.nil ?_
             rcases condI h with ⟨hc_75, h⟩ | ⟨hc_75, h⟩
             ·refine Ex.condT _ rfl hc_75 ?_
              obtain ⟨u_76, hu_76, h⟩ := bE h
              obtain ⟨x_77, hx_77, h⟩ := bE h
              obtain ⟨u_78, hu_78, h⟩ := bE h
              obtain ⟨z_80, hz_80, h⟩ := bE h
              refine regH 7 [(2, .adm), (3, .ld (i6 x_77)), (5, .adm), (6, .st (flat (z_80.map (AV.int .i64))))] [4, 5, 6, 7, 8, 9, 10, 11, 12, 13, 14, 17] [0 ≤ k_62 ∧ k_62 < ((k_6 : Nat) : Int), takeCells (flat (w_63.map (AV.int .i64))) (0 + Int.toNat k_62 * 1) none = some (i6 x_77), 0 ≤ k_62 ∧ k_62 < ((k_6 : Nat) : Int), 0 + Int.toNat k_62 * 1 + 1 ≤ ((flat (w_63.map (AV.int .i64)))).length ∧ layAt (flat (w_63.map (AV.int .i64))) (0 + Int.toNat k_62 * 1) [i6 (IntKind.i64.wrap (x_77 + 1))] = (flat (z_80.map (AV.int .i64)))] (mkS 238 [(4, .ptr 1 0), (5, .sl (r_4.1.map A_Hurdle) none), (6, .sl (r_5.map A_br2_Truth) (some 0)), (7, i6 (IntKind.i64.wrap (r_3.1.Rear - r_3.1.Front))), (8, .ptr 2 0), (9, .ptr 3 0), (10, .ptr 4 0), (11, .ptr 5 0), (12, i6 up_48), (13, .ms 6 k_6 1), (14, i6 i_21), (17, i6 k_62)]) (⟨[(C_bk_Drum r_4.2), (C_Float r_3.1), (C_Span r_40), (C_Span r_45), (C_Span r_47), (C_Span r_44), (flat (z_80.map (AV.int .i64)))], [(r_5.length, 2)]⟩) (by kernel_rfl) ⟨idxI.of hu_76, ldFl (f := (AV.int .i64)) (s := 1) w_63 _ 0 k_62 x_77 (i6 x_77) (fun _ => rfl) hx_77 rfl (by omega), idxI.of hu_78, stFl (f := (AV.int .i64)) (s := 1) _ 0 1 k_62 (fun (y_79 : Int) => (IntKind.i64.wrap (x_77 + 1))) _ (fun _ => rfl) hz_80 rfl (by decide) (by omega) (fun _ => rfl), trivial⟩ rfl ?_
              (try simp only [reduceCtorEq, AEx.ex.injEq, Nat.reduceEqDiff, if_true, if_false])
              exact ⟨_, _, Forgets.refl _ _ _, z_80, h, rfl, rfl⟩
             ·refine Ex.condF _ rfl hc_75 ?_
              refine Ex.skip ?_
              (try simp only [reduceCtorEq, AEx.ex.injEq, Nat.reduceEqDiff, if_true, if_false])
              exact ⟨_, _, forgetK [4, 5, 6, 7, 8, 9, 10, 11, 12, 13, 14, 17], w_63, h, rfl, rfl⟩
           ·rintro a S ⟨w_68, h, rfl, rfl⟩
            subst hK_71
            refine rg 3 [4, 5, 6, 7, 8, 9, 10, 11, 12, 13, 14, 17] (mkS 238 [(4, .ptr 1 0), (5, .sl (r_4.1.map A_Hurdle) none), (6, .sl (r_5.map A_br2_Truth) (some 0)), (7, i6 (IntKind.i64.wrap (r_3.1.Rear - r_3.1.Front))), (8, .ptr 2 0), (9, .ptr 3 0), (10, .ptr 4 0), (11, .ptr 5 0), (12, i6 up_48), (13, .ms 6 k_6 1), (14, i6 i_21), (17, i6 (IntKind.i64.wrap (k_62 + 1)))]) ⟨[(C_bk_Drum r_4.2), (C_Float r_3.1), (C_Span r_40), (C_Span r_45), (C_Span r_47), (C_Span r_44), (flat (w_68.map (AV.int .i64)))], [(r_5.length, 2)]⟩ ?_
            dsimp only
            exact ⟨_, _, Forgets.refl _ _ _, k, Nat.lt_succ_self k, (IntKind.i64.wrap (k_62 + 1)), w_68, h, rfl, rfl⟩
          ·refine Ex.condF _ rfl hc_67 ?_
           refine Ex.exit ?_
           (try simp only [reduceCtorEq, AEx.ex.injEq, Nat.reduceEqDiff, if_true, if_false])
           exact ⟨_, _, forgetK [4, 5, 6, 7, 8, 9, 10, 11, 12, 13, 14], w_63, h, rfl, rfl⟩
        ·rintro a S ⟨w_58, h, rfl, rfl⟩
         subst hK_61
         refine rg 3 [4, 5, 6, 7, 8, 9, 10, 11, 12, 13, 14] (mkS 238 [(4, .ptr 1 0), (5, .sl (r_4.1.map A_Hurdle) none), (6, .sl (r_5.map A_br2_Truth) (some 0)), (7, i6 (IntKind.i64.wrap (r_3.1.Rear - r_3.1.Front))), (8, .ptr 2 0), (9, .ptr 3 0), (10, .ptr 4 0), (11, .ptr 5 0), (12, i6 up_48), (13, .ms 6 k_6 1), (14, i6 (IntKind.i64.wrap (i_21 + 1)))]) ⟨[(C_bk_Drum r_4.2), (C_Float r_3.1), (C_Span r_40), (C_Span r_45), (C_Span r_47), (C_Span r_44), (flat (w_58.map (AV.int .i64)))], [(r_5.length, 2)]⟩ ?_
         dsimp only
         exact ⟨_, _, Forgets.refl _ _ _, k, Nat.lt_succ_self k, up_48, (IntKind.i64.wrap (i_21 + 1)), r_40.Lo, r_40.Hi, r_45.Lo, r_45.Hi, r_47.Lo, r_47.Hi, r_44.Lo, r_44.Hi, w_58, h, rfl, rfl⟩
   ·refine Ex.condF _ rfl hc_34 ?_
    refine Ex.exit ?_
    (try simp only [reduceCtorEq, AEx.ex.injEq, Nat.reduceEqDiff, if_true, if_false])
    exact ⟨_, _, forgetK [4, 5, 6, 7, 8, 9, 10, 11, 12, 13], up_20, b_22, b_23, b_24, b_25, b_26, b_27, b_28, b_29, w_30, h, rfl, rfl⟩
 ·rintro a S ⟨up_7, b_8, b_9, b_10, b_11, b_12, b_13, b_14, b_15, w_16, h, rfl, rfl⟩
  subst hK_19
  refine Ex.seq ?_
  obtain ⟨r_81, hr_81, h⟩ := bE h
  refine Ex.reg (rn 1 [4, 5, 6, 7, 8, 9, 10, 11, 12, 13, 124] (mkS 238 [(4, .ptr 1 0), (5, .sl (r_4.1.map A_Hurdle) none), (6, .sl (r_5.map A_br2_Truth) (some 0)), (7, i6 (IntKind.i64.wrap (r_3.1.Rear - r_3.1.Front))), (8, .ptr 2 0), (9, .ptr 3 0), (10, .ptr 4 0), (11, .ptr 5 0), (12, i6 up_7), (13, .ms 6 k_6 1), (124, (A_Float r_3.1))]) ⟨[(C_bk_Drum r_4.2), (C_Float r_3.1), [i6 b_8, i6 b_9], [i6 b_10, i6 b_11], [i6 b_12, i6 b_13], [i6 b_14, i6 b_15], (flat (w_16.map (AV.int .i64)))], [(r_5.length, 2)]⟩ ?_)
  refine ExO.callL [] [(A_Float r_3.1)] rfl rfl (a_Total r_3.1) rfl rfl (d_Total N r_3.1 r_81 hr_81) (b_Total _ _ _ _) rfl ?_
  refine rn 6 [4, 5, 6, 7, 8, 9, 10, 11, 12, 13, 18, 19] (mkS 238 [(4, .ptr 1 0), (5, .sl (r_4.1.map A_Hurdle) none), (6, .sl (r_5.map A_br2_Truth) (some 0)), (7, i6 (IntKind.i64.wrap (r_3.1.Rear - r_3.1.Front))), (8, .ptr 2 0), (9, .ptr 3 0), (10, .ptr 4 0), (11, .ptr 5 0), (12, i6 up_7), (13, .ms 6 k_6 1), (18, .ptr 7 0), (19, i6 r_81.2)]) ⟨[(C_bk_Drum r_4.2), (C_Float r_3.1), [i6 b_8, i6 b_9], [i6 b_10, i6 b_11], [i6 b_12, i6 b_13], [i6 b_14, i6 b_15], (flat (w_16.map (AV.int .i64))), (C_Span r_81.1)], [(r_5.length, 2)]⟩ ?_
  refine ExO.nil ?_
  refine Ex.seq ?_
  obtain ⟨r_82, hr_82, h⟩ := bE h
  refine Ex.reg (rn 1 [4, 5, 6, 7, 8, 9, 10, 11, 12, 13, 18, 19, 129] (mkS 238 [(4, .ptr 1 0), (5, .sl (r_4.1.map A_Hurdle) none), (6, .sl (r_5.map A_br2_Truth) (some 0)), (7, i6 (IntKind.i64.wrap (r_3.1.Rear - r_3.1.Front))), (8, .ptr 2 0), (9, .ptr 3 0), (10, .ptr 4 0), (11, .ptr 5 0), (12, i6 up_7), (13, .ms 6 k_6 1), (18, .ptr 7 0), (19, i6 r_81.2), (129, (A_Float r_3.1))]) ⟨[(C_bk_Drum r_4.2), (C_Float r_3.1), [i6 b_8, i6 b_9], [i6 b_10, i6 b_11], [i6 b_12, i6 b_13], [i6 b_14, i6 b_15], (flat (w_16.map (AV.int .i64))), (C_Span r_81.1)], [(r_5.length, 2)]⟩ ?_)
  refine ExO.callL [] [(A_Float r_3.1)] rfl rfl (a_Axles r_3.1) rfl rfl (d_Axles N r_3.1 r_82 hr_82) (b_Axles _ _ _ _) rfl ?_
  refine rn 9 [4, 5, 6, 7, 8, 9, 10, 11, 12, 13, 18, 19, 20, 21, 22] (mkS 238 [(4, .ptr 1 0), (5, .sl (r_4.1.map A_Hurdle) none), (6, .sl (r_5.map A_br2_Truth) (some 0)), (7, i6 (IntKind.i64.wrap (r_3.1.Rear - r_3.1.Front))), (8, .ptr 2 0), (9, .ptr 3 0), (10, .ptr 4 0), (11, .ptr 5 0), (12, i6 up_7), (13, .ms 6 k_6 1), (18, .ptr 7 0), (19, i6 r_81.2), (20, .ptr 8 0), (21, .ptr 9 0), (22, i6 r_82.2.2)]) ⟨[(C_bk_Drum r_4.2), (C_Float r_3.1), [i6 b_8, i6 b_9], [i6 b_10, i6 b_11], [i6 b_12, i6 b_13], [i6 b_14, i6 b_15], (flat (w_16.map (AV.int .i64))), (C_Span r_81.1), (C_Span r_82.1), (C_Span r_82.2.1)], [(r_5.length, 2)]⟩ ?_
  refine ExO.nil ?_
  refine Ex.seq ?_
  obtain ⟨r_83, hr_83, h⟩ := bE h
  refine Ex.reg (rn 1 [4, 5, 6, 7, 8, 9, 10, 11, 12, 13, 18, 19, 20, 21, 22, 135] (mkS 238 [(4, .ptr 1 0), (5, .sl (r_4.1.map A_Hurdle) none), (6, .sl (r_5.map A_br2_Truth) (some 0)), (7, i6 (IntKind.i64.wrap (r_3.1.Rear - r_3.1.Front))), (8, .ptr 2 0), (9, .ptr 3 0), (10, .ptr 4 0), (11, .ptr 5 0), (12, i6 up_7), (13, .ms 6 k_6 1), (18, .ptr 7 0), (19, i6 r_81.2), (20, .ptr 8 0), (21, .ptr 9 0), (22, i6 r_82.2.2), (135, (A_Float r_3.1))]) ⟨[(C_bk_Drum r_4.2), (C_Float r_3.1), [i6 b_8, i6 b_9], [i6 b_10, i6 b_11], [i6 b_12, i6 b_13], [i6 b_14, i6 b_15], (flat (w_16.map (AV.int .i64))), (C_Span r_81.1), (C_Span r_82.1), (C_Span r_82.2.1)], [(r_5.length, 2)]⟩ ?_)
  refine ExO.callL [] [(A_Float r_3.1)] rfl rfl (a_Height r_3.1) rfl rfl (d_Height N r_3.1 r_83 hr_83) (b_Height _ _ _ _) rfl ?_
  refine rn 6 [4, 5, 6, 7, 8, 9, 10, 11, 12, 13, 18, 19, 20, 21, 22, 23, 24] (mkS 238 [(4, .ptr 1 0), (5, .sl (r_4.1.map A_Hurdle) none), (6, .sl (r_5.map A_br2_Truth) (some 0)), (7, i6 (IntKind.i64.wrap (r_3.1.Rear - r_3.1.Front))), (8, .ptr 2 0), (9, .ptr 3 0), (10, .ptr 4 0), (11, .ptr 5 0), (12, i6 up_7), (13, .ms 6 k_6 1), (18, .ptr 7 0), (19, i6 r_81.2), (20, .ptr 8 0), (21, .ptr 9 0), (22, i6 r_82.2.2), (23, .ptr 10 0), (24, i6 r_83.2)]) ⟨[(C_bk_Drum r_4.2), (C_Float r_3.1), [i6 b_8, i6 b_9], [i6 b_10, i6 b_11], [i6 b_12, i6 b_13], [i6 b_14, i6 b_15], (flat (w_16.map (AV.int .i64))), (C_Span r_81.1), (C_Span r_82.1), (C_Span r_82.2.1), (C_Span r_83.1)], [(r_5.length, 2)]⟩ ?_
  refine ExO.nil ?_
  refine Ex.seq ?_
  obtain ⟨r_84, hr_84, h⟩ := bE h
  refine Ex.reg (rn 1 [4, 5, 6, 7, 8, 9, 10, 11, 12, 13, 18, 19, 20, 21, 22, 23, 24, 140] (mkS 238 [(4, .ptr 1 0), (5, .sl (r_4.1.map A_Hurdle) none), (6, .sl (r_5.map A_br2_Truth) (some 0)), (7, i6 (IntKind.i64.wrap (r_3.1.Rear - r_3.1.Front))), (8, .ptr 2 0), (9, .ptr 3 0), (10, .ptr 4 0), (11, .ptr 5 0), (12, i6 up_7), (13, .ms 6 k_6 1), (18, .ptr 7 0), (19, i6 r_81.2), (20, .ptr 8 0), (21, .ptr 9 0), (22, i6 r_82.2.2), (23, .ptr 10 0), (24, i6 r_83.2), (140, (A_Float r_3.1))]) ⟨[(C_bk_Drum r_4.2), (C_Float r_3.1), [i6 b_8, i6 b_9], [i6 b_10, i6 b_11], [i6 b_12, i6 b_13], [i6 b_14, i6 b_15], (flat (w_16.map (AV.int .i64))), (C_Span r_81.1), (C_Span r_82.1), (C_Span r_82.2.1), (C_Span r_83.1)], [(r_5.length, 2)]⟩ ?_)
  refine ExO.callL [] [(A_Float r_3.1)] rfl rfl (a_Stands r_3.1) rfl rfl (d_Stands N r_3.1 r_84 hr_84) (b_Stands _ _ _ _) rfl ?_
  refine rn 5 [4, 5, 6, 7, 8, 9, 10, 11, 12, 13, 18, 19, 20, 21, 22, 23, 24, 25, 26] (mkS 238 [(4, .ptr 1 0), (5, .sl (r_4.1.map A_Hurdle) none), (6, .sl (r_5.map A_br2_Truth) (some 0)), (7, i6 (IntKind.i64.wrap (r_3.1.Rear - r_3.1.Front))), (8, .ptr 2 0), (9, .ptr 3 0), (10, .ptr 4 0), (11, .ptr 5 0), (12, i6 up_7), (13, .ms 6 k_6 1), (18, .ptr 7 0), (19, i6 r_81.2), (20, .ptr 8 0), (21, .ptr 9 0), (22, i6 r_82.2.2), (23, .ptr 10 0), (24, i6 r_83.2), (25, i6 r_84.1), (26, i6 r_84.2)]) ⟨[(C_bk_Drum r_4.2), (C_Float r_3.1), [i6 b_8, i6 b_9], [i6 b_10, i6 b_11], [i6 b_12, i6 b_13], [i6 b_14, i6 b_15], (flat (w_16.map (AV.int .i64))), (C_Span r_81.1), (C_Span r_82.1), (C_Span r_82.2.1), (C_Span r_83.1)], [(r_5.length, 2)]⟩ ?_
  refine ExO.nil ?_
  refine Ex.seq ?_
  obtain ⟨r_85, hr_85, h⟩ := bE h
  refine Ex.reg (rn 2 [5, 6, 7, 8, 9, 10, 11, 12, 13, 18, 19, 20, 21, 22, 23, 24, 25, 26, 145, 146] (mkS 238 [(5, .sl (r_4.1.map A_Hurdle) none), (6, .sl (r_5.map A_br2_Truth) (some 0)), (7, i6 (IntKind.i64.wrap (r_3.1.Rear - r_3.1.Front))), (8, .ptr 2 0), (9, .ptr 3 0), (10, .ptr 4 0), (11, .ptr 5 0), (12, i6 up_7), (13, .ms 6 k_6 1), (18, .ptr 7 0), (19, i6 r_81.2), (20, .ptr 8 0), (21, .ptr 9 0), (22, i6 r_82.2.2), (23, .ptr 10 0), (24, i6 r_83.2), (25, i6 r_84.1), (26, i6 r_84.2), (145, (A_Float r_3.1)), (146, .sl (r_4.1.map A_Hurdle) none)]) ⟨[(C_bk_Drum r_4.2), (C_Float r_3.1), [i6 b_8, i6 b_9], [i6 b_10, i6 b_11], [i6 b_12, i6 b_13], [i6 b_14, i6 b_15], (flat (w_16.map (AV.int .i64))), (C_Span r_81.1), (C_Span r_82.1), (C_Span r_82.2.1), (C_Span r_83.1)], [(r_5.length, 2)]⟩ ?_)
  refine ExO.callL [] [(A_Float r_3.1), .sl (r_4.1.map A_Hurdle) none] rfl rfl (a_Passes r_3.1 r_4.1) rfl rfl (d_Passes N r_3.1 r_4.1 r_85 hr_85) (b_Passes _ _ _ _) rfl ?_
  refine rn 5 [5, 6, 7, 8, 9, 10, 11, 12, 13, 18, 19, 20, 21, 22, 23, 24, 25, 26, 27, 28] (mkS 238 [(5, .sl (r_4.1.map A_Hurdle) none), (6, .sl (r_5.map A_br2_Truth) (some 0)), (7, i6 (IntKind.i64.wrap (r_3.1.Rear - r_3.1.Front))), (8, .ptr 2 0), (9, .ptr 3 0), (10, .ptr 4 0), (11, .ptr 5 0), (12, i6 up_7), (13, .ms 6 k_6 1), (18, .ptr 7 0), (19, i6 r_81.2), (20, .ptr 8 0), (21, .ptr 9 0), (22, i6 r_82.2.2), (23, .ptr 10 0), (24, i6 r_83.2), (25, i6 r_84.1), (26, i6 r_84.2), (27, .sl (r_85.1.map (AV.int .i64)) none), (28, i6 r_85.2)]) ⟨[(C_bk_Drum r_4.2), (C_Float r_3.1), [i6 b_8, i6 b_9], [i6 b_10, i6 b_11], [i6 b_12, i6 b_13], [i6 b_14, i6 b_15], (flat (w_16.map (AV.int .i64))), (C_Span r_81.1), (C_Span r_82.1), (C_Span r_82.2.1), (C_Span r_83.1)], [(r_5.length, 2)]⟩ ?_
  refine ExO.nil ?_
  refine Ex.seq ?_
  obtain ⟨K_88, hK_89, h⟩ := letE h
  refine Ex.seqJ (fun a S => ∃ (y_86 : Bool), K_88 y_86 = some r ∧ a = mkS 238 [(6, .sl (r_5.map A_br2_Truth) (some 0)), (7, i6 (IntKind.i64.wrap (r_3.1.Rear - r_3.1.Front))), (9, .ptr 3 0), (10, .ptr 4 0), (13, .ms 6 k_6 1), (20, .ptr 8 0), (21, .ptr 9 0), (27, .sl (r_85.1.map (AV.int .i64)) none), (192, .bool y_86)] ∧ S = ⟨[(C_bk_Drum r_4.2), (C_Float r_3.1), [i6 b_8, i6 b_9], [i6 b_10, i6 b_11], [i6 b_12, i6 b_13], [i6 b_14, i6 b_15], (flat (w_16.map (AV.int .i64))), (C_Span r_81.1), (C_Span r_82.1), (C_Span r_82.2.1)], [(r_5.length, 2)]⟩) ?_ ?_
  ·rcases condI h with ⟨hc_90, h⟩ | ⟨hc_90, h⟩
   ·refine regH 43 [(2, .eq (.bool true))] [6, 7, 9, 10, 13, 20, 21, 27, 192] [AV.bool (r_81.2 != 0) = AV.bool true] (mkS 238 [(6, .sl (r_5.map A_br2_Truth) (some 0)), (7, i6 (IntKind.i64.wrap (r_3.1.Rear - r_3.1.Front))), (9, .ptr 3 0), (10, .ptr 4 0), (13, .ms 6 k_6 1), (20, .ptr 8 0), (21, .ptr 9 0), (27, .sl (r_85.1.map (AV.int .i64)) none), (192, .bool true)]) (⟨[(C_bk_Drum r_4.2), (C_Float r_3.1), [i6 b_8, i6 b_9], [i6 b_10, i6 b_11], [i6 b_12, i6 b_13], [i6 b_14, i6 b_15], (flat (w_16.map (AV.int .i64))), (C_Span r_81.1), (C_Span r_82.1), (C_Span r_82.2.1), (C_Span r_83.1)], [(r_5.length, 2)]⟩) (by kernel_rfl) ⟨congrArg AV.bool hc_90, trivial⟩ rfl ?_
    (try simp only [reduceCtorEq, AEx.ex.injEq, Nat.reduceEqDiff, if_true, if_false])
    exact ⟨_, _, forgetA (m := 238) 10 [0] [(6, .sl (r_5.map A_br2_Truth) (some 0)), (7, i6 (IntKind.i64.wrap (r_3.1.Rear - r_3.1.Front))), (9, .ptr 3 0), (10, .ptr 4 0), (13, .ms 6 k_6 1), (20, .ptr 8 0), (21, .ptr 9 0), (27, .sl (r_85.1.map (AV.int .i64)) none), (192, .bool true)] [(C_bk_Drum r_4.2), (C_Float r_3.1), [i6 b_8, i6 b_9], [i6 b_10, i6 b_11], [i6 b_12, i6 b_13], [i6 b_14, i6 b_15], (flat (w_16.map (AV.int .i64))), (C_Span r_81.1), (C_Span r_82.1), (C_Span r_82.2.1)] [(r_5.length, 2)] (by simp [setAll]) (by simp) ⟨(reT (KL_br2_Truth _) rfl), rfl, rfl, rfl, rfl, rfl, rfl, (reN (cleanI _ _)), rfl, trivial⟩ (mapMC (show List.mapM (re 10 [0]) (C_bk_Drum r_4.2) = some (C_bk_Drum r_4.2) by simp) (mapMC (show List.mapM (re 10 [0]) (C_Float r_3.1) = some (C_Float r_3.1) by simp) (mapMC (show List.mapM (re 10 [0]) [i6 b_8, i6 b_9] = some [i6 b_8, i6 b_9] by simp) (mapMC (show List.mapM (re 10 [0]) [i6 b_10, i6 b_11] = some [i6 b_10, i6 b_11] by simp) (mapMC (show List.mapM (re 10 [0]) [i6 b_12, i6 b_13] = some [i6 b_12, i6 b_13] by simp) (mapMC (show List.mapM (re 10 [0]) [i6 b_14, i6 b_15] = some [i6 b_14, i6 b_15] by simp) (mapMC (flat_re (f := (AV.int .i64)) (fun _ => rfl) _ _ _) (mapMC (show List.mapM (re 10 [0]) (C_Span r_81.1) = some (C_Span r_81.1) by simp) (mapMC (show List.mapM (re 10 [0]) (C_Span r_82.1) = some (C_Span r_82.1) by simp) (mapMC (show List.mapM (re 10 [0]) (C_Span r_82.2.1) = some (C_Span r_82.2.1) by simp) rfl)))))))))) rfl (by decide), true, h, rfl, rfl⟩
   ·rcases condI h with ⟨hc_91, h⟩ | ⟨hc_91, h⟩
    ·refine regH 43 [(2, .eq (.bool false)), (6, .eq (.bool true))] [6, 7, 9, 10, 13, 20, 21, 27, 192] [AV.bool (r_81.2 != 0) = AV.bool false, AV.bool (r_82.2.2 != 0) = AV.bool true] (mkS 238 [(6, .sl (r_5.map A_br2_Truth) (some 0)), (7, i6 (IntKind.i64.wrap (r_3.1.Rear - r_3.1.Front))), (9, .ptr 3 0), (10, .ptr 4 0), (13, .ms 6 k_6 1), (20, .ptr 8 0), (21, .ptr 9 0), (27, .sl (r_85.1.map (AV.int .i64)) none), (192, .bool true)]) (⟨[(C_bk_Drum r_4.2), (C_Float r_3.1), [i6 b_8, i6 b_9], [i6 b_10, i6 b_11], [i6 b_12, i6 b_13], [i6 b_14, i6 b_15], (flat (w_16.map (AV.int .i64))), (C_Span r_81.1), (C_Span r_82.1), (C_Span r_82.2.1), (C_Span r_83.1)], [(r_5.length, 2)]⟩) (by kernel_rfl) ⟨congrArg AV.bool hc_90, congrArg AV.bool hc_91, trivial⟩ rfl ?_
     (try simp only [reduceCtorEq, AEx.ex.injEq, Nat.reduceEqDiff, if_true, if_false])
     exact ⟨_, _, forgetA (m := 238) 10 [0] [(6, .sl (r_5.map A_br2_Truth) (some 0)), (7, i6 (IntKind.i64.wrap (r_3.1.Rear - r_3.1.Front))), (9, .ptr 3 0), (10, .ptr 4 0), (13, .ms 6 k_6 1), (20, .ptr 8 0), (21, .ptr 9 0), (27, .sl (r_85.1.map (AV.int .i64)) none), (192, .bool true)] [(C_bk_Drum r_4.2), (C_Float r_3.1), [i6 b_8, i6 b_9], [i6 b_10, i6 b_11], [i6 b_12, i6 b_13], [i6 b_14, i6 b_15], (flat (w_16.map (AV.int .i64))), (C_Span r_81.1), (C_Span r_82.1), (C_Span r_82.2.1)] [(r_5.length, 2)] (by simp [setAll]) (by simp) ⟨(reT (KL_br2_Truth _) rfl), rfl, rfl, rfl, rfl, rfl, rfl, (reN (cleanI _ _)), rfl, trivial⟩ (mapMC (show List.mapM (re 10 [0]) (C_bk_Drum r_4.2) = some (C_bk_Drum r_4.2) by simp) (mapMC (show List.mapM (re 10 [0]) (C_Float r_3.1) = some (C_Float r_3.1) by simp) (mapMC (show List.mapM (re 10 [0]) [i6 b_8, i6 b_9] = some [i6 b_8, i6 b_9] by simp) (mapMC (show List.mapM (re 10 [0]) [i6 b_10, i6 b_11] = some [i6 b_10, i6 b_11] by simp) (mapMC (show List.mapM (re 10 [0]) [i6 b_12, i6 b_13] = some [i6 b_12, i6 b_13] by simp) (mapMC (show List.mapM (re 10 [0]) [i6 b_14, i6 b_15] = some [i6 b_14, i6 b_15] by simp) (mapMC (flat_re (f := (AV.int .i64)) (fun _ => rfl) _ _ _) (mapMC (show List.mapM (re 10 [0]) (C_Span r_81.1) = some (C_Span r_81.1) by simp) (mapMC (show List.mapM (re 10 [0]) (C_Span r_82.1) = some (C_Span r_82.1) by simp) (mapMC (show List.mapM (re 10 [0]) (C_Span r_82.2.1) = some (C_Span r_82.2.1) by simp) rfl)))))))))) rfl (by decide), true, h, rfl, rfl⟩
    ·rcases condI h with ⟨hc_92, h⟩ | ⟨hc_92, h⟩
     ·refine regH 43 [(2, .eq (.bool false)), (6, .eq (.bool false)), (10, .eq (.bool true))] [6, 7, 9, 10, 13, 20, 21, 27, 192] [AV.bool (r_81.2 != 0) = AV.bool false, AV.bool (r_82.2.2 != 0) = AV.bool false, AV.bool (r_83.2 != 0) = AV.bool true] (mkS 238 [(6, .sl (r_5.map A_br2_Truth) (some 0)), (7, i6 (IntKind.i64.wrap (r_3.1.Rear - r_3.1.Front))), (9, .ptr 3 0), (10, .ptr 4 0), (13, .ms 6 k_6 1), (20, .ptr 8 0), (21, .ptr 9 0), (27, .sl (r_85.1.map (AV.int .i64)) none), (192, .bool true)]) (⟨[(C_bk_Drum r_4.2), (C_Float r_3.1), [i6 b_8, i6 b_9], [i6 b_10, i6 b_11], [i6 b_12, i6 b_13], [i6 b_14, i6 b_15], (flat (w_16.map (AV.int .i64))), (C_Span r_81.1), (C_Span r_82.1), (C_Span r_82.2.1), (C_Span r_83.1)], [(r_5.length, 2)]⟩) (by kernel_rfl) ⟨congrArg AV.bool hc_90, congrArg AV.bool hc_91, congrArg AV.bool hc_92, trivial⟩ rfl ?_
      (try simp only [reduceCtorEq, AEx.ex.injEq, Nat.reduceEqDiff, if_true, if_false])
      exact ⟨_, _, forgetA (m := 238) 10 [0] [(6, .sl (r_5.map A_br2_Truth) (some 0)), (7, i6 (IntKind.i64.wrap (r_3.1.Rear - r_3.1.Front))), (9, .ptr 3 0), (10, .ptr 4 0), (13, .ms 6 k_6 1), (20, .ptr 8 0), (21, .ptr 9 0), (27, .sl (r_85.1.map (AV.int .i64)) none), (192, .bool true)] [(C_bk_Drum r_4.2), (C_Float r_3.1), [i6 b_8, i6 b_9], [i6 b_10, i6 b_11], [i6 b_12, i6 b_13], [i6 b_14, i6 b_15], (flat (w_16.map (AV.int .i64))), (C_Span r_81.1), (C_Span r_82.1), (C_Span r_82.2.1)] [(r_5.length, 2)] (by simp [setAll]) (by simp) ⟨(reT (KL_br2_Truth _) rfl), rfl, rfl, rfl, rfl, rfl, rfl, (reN (cleanI _ _)), rfl, trivial⟩ (mapMC (show List.mapM (re 10 [0]) (C_bk_Drum r_4.2) = some (C_bk_Drum r_4.2) by simp) (mapMC (show List.mapM (re 10 [0]) (C_Float r_3.1) = some (C_Float r_3.1) by simp) (mapMC (show List.mapM (re 10 [0]) [i6 b_8, i6 b_9] = some [i6 b_8, i6 b_9] by simp) (mapMC (show List.mapM (re 10 [0]) [i6 b_10, i6 b_11] = some [i6 b_10, i6 b_11] by simp) (mapMC (show List.mapM (re 10 [0]) [i6 b_12, i6 b_13] = some [i6 b_12, i6 b_13] by simp) (mapMC (show List.mapM (re 10 [0]) [i6 b_14, i6 b_15] = some [i6 b_14, i6 b_15] by simp) (mapMC (flat_re (f := (AV.int .i64)) (fun _ => rfl) _ _ _) (mapMC (show List.mapM (re 10 [0]) (C_Span r_81.1) = some (C_Span r_81.1) by simp) (mapMC (show List.mapM (re 10 [0]) (C_Span r_82.1) = some (C_Span r_82.1) by simp) (mapMC (show List.mapM (re 10 [0]) (C_Span r_82.2.1) = some (C_Span r_82.2.1) by simp) rfl)))))))))) rfl (by decide), true, h, rfl, rfl⟩
     ·rcases condI h with ⟨hc_93, h⟩ | ⟨hc_93, h⟩
      ·refine regH 43 [(2, .eq (.bool false)), (6, .eq (.bool false)), (10, .eq (.bool false)), (14, .eq (.bool true))] [6, 7, 9, 10, 13, 20, 21, 27, 192] [AV.bool (r_81.2 != 0) = AV.bool false, AV.bool (r_82.2.2 != 0) = AV.bool false, AV.bool (r_83.2 != 0) = AV.bool false, AV.bool (r_84.2 != 0) = AV.bool true] (mkS 238 [(6, .sl (r_5.map A_br2_Truth) (some 0)), (7, i6 (IntKind.i64.wrap (r_3.1.Rear - r_3.1.Front))), (9, .ptr 3 0), (10, .ptr 4 0), (13, .ms 6 k_6 1), (20, .ptr 8 0), (21, .ptr 9 0), (27, .sl (r_85.1.map (AV.int .i64)) none), (192, .bool true)]) (⟨[(C_bk_Drum r_4.2), (C_Float r_3.1), [i6 b_8, i6 b_9], [i6 b_10, i6 b_11], [i6 b_12, i6 b_13], [i6 b_14, i6 b_15], (flat (w_16.map (AV.int .i64))), (C_Span r_81.1), (C_Span r_82.1), (C_Span r_82.2.1), (C_Span r_83.1)], [(r_5.length, 2)]⟩) (by kernel_rfl) ⟨congrArg AV.bool hc_90, congrArg AV.bool hc_91, congrArg AV.bool hc_92, congrArg AV.bool hc_93, trivial⟩ rfl ?_
       (try simp only [reduceCtorEq, AEx.ex.injEq, Nat.reduceEqDiff, if_true, if_false])
       exact ⟨_, _, forgetA (m := 238) 10 [0] [(6, .sl (r_5.map A_br2_Truth) (some 0)), (7, i6 (IntKind.i64.wrap (r_3.1.Rear - r_3.1.Front))), (9, .ptr 3 0), (10, .ptr 4 0), (13, .ms 6 k_6 1), (20, .ptr 8 0), (21, .ptr 9 0), (27, .sl (r_85.1.map (AV.int .i64)) none), (192, .bool true)] [(C_bk_Drum r_4.2), (C_Float r_3.1), [i6 b_8, i6 b_9], [i6 b_10, i6 b_11], [i6 b_12, i6 b_13], [i6 b_14, i6 b_15], (flat (w_16.map (AV.int .i64))), (C_Span r_81.1), (C_Span r_82.1), (C_Span r_82.2.1)] [(r_5.length, 2)] (by simp [setAll]) (by simp) ⟨(reT (KL_br2_Truth _) rfl), rfl, rfl, rfl, rfl, rfl, rfl, (reN (cleanI _ _)), rfl, trivial⟩ (mapMC (show List.mapM (re 10 [0]) (C_bk_Drum r_4.2) = some (C_bk_Drum r_4.2) by simp) (mapMC (show List.mapM (re 10 [0]) (C_Float r_3.1) = some (C_Float r_3.1) by simp) (mapMC (show List.mapM (re 10 [0]) [i6 b_8, i6 b_9] = some [i6 b_8, i6 b_9] by simp) (mapMC (show List.mapM (re 10 [0]) [i6 b_10, i6 b_11] = some [i6 b_10, i6 b_11] by simp) (mapMC (show List.mapM (re 10 [0]) [i6 b_12, i6 b_13] = some [i6 b_12, i6 b_13] by simp) (mapMC (show List.mapM (re 10 [0]) [i6 b_14, i6 b_15] = some [i6 b_14, i6 b_15] by simp) (mapMC (flat_re (f := (AV.int .i64)) (fun _ => rfl) _ _ _) (mapMC (show List.mapM (re 10 [0]) (C_Span r_81.1) = some (C_Span r_81.1) by simp) (mapMC (show List.mapM (re 10 [0]) (C_Span r_82.1) = some (C_Span r_82.1) by simp) (mapMC (show List.mapM (re 10 [0]) (C_Span r_82.2.1) = some (C_Span r_82.2.1) by simp) rfl)))))))))) rfl (by decide), true, h, rfl, rfl⟩
      ·rcases condI h with ⟨hc_94, h⟩ | ⟨hc_94, h⟩
       ·refine regH 43 [(2, .eq (.bool false)), (6, .eq (.bool false)), (10, .eq (.bool false)), (14, .eq (.bool false)), (18, .eq (.bool true))] [6, 7, 9, 10, 13, 20, 21, 27, 192] [AV.bool (r_81.2 != 0) = AV.bool false, AV.bool (r_82.2.2 != 0) = AV.bool false, AV.bool (r_83.2 != 0) = AV.bool false, AV.bool (r_84.2 != 0) = AV.bool false, AV.bool (r_85.2 != 0) = AV.bool true] (mkS 238 [(6, .sl (r_5.map A_br2_Truth) (some 0)), (7, i6 (IntKind.i64.wrap (r_3.1.Rear - r_3.1.Front))), (9, .ptr 3 0), (10, .ptr 4 0), (13, .ms 6 k_6 1), (20, .ptr 8 0), (21, .ptr 9 0), (27, .sl (r_85.1.map (AV.int .i64)) none), (192, .bool true)]) (⟨[(C_bk_Drum r_4.2), (C_Float r_3.1), [i6 b_8, i6 b_9], [i6 b_10, i6 b_11], [i6 b_12, i6 b_13], [i6 b_14, i6 b_15], (flat (w_16.map (AV.int .i64))), (C_Span r_81.1), (C_Span r_82.1), (C_Span r_82.2.1), (C_Span r_83.1)], [(r_5.length, 2)]⟩) (by kernel_rfl) ⟨congrArg AV.bool hc_90, congrArg AV.bool hc_91, congrArg AV.bool hc_92, congrArg AV.bool hc_93, congrArg AV.bool hc_94, trivial⟩ rfl ?_
        (try simp only [reduceCtorEq, AEx.ex.injEq, Nat.reduceEqDiff, if_true, if_false])
        exact ⟨_, _, forgetA (m := 238) 10 [0] [(6, .sl (r_5.map A_br2_Truth) (some 0)), (7, i6 (IntKind.i64.wrap (r_3.1.Rear - r_3.1.Front))), (9, .ptr 3 0), (10, .ptr 4 0), (13, .ms 6 k_6 1), (20, .ptr 8 0), (21, .ptr 9 0), (27, .sl (r_85.1.map (AV.int .i64)) none), (192, .bool true)] [(C_bk_Drum r_4.2), (C_Float r_3.1), [i6 b_8, i6 b_9], [i6 b_10, i6 b_11], [i6 b_12, i6 b_13], [i6 b_14, i6 b_15], (flat (w_16.map (AV.int .i64))), (C_Span r_81.1), (C_Span r_82.1), (C_Span r_82.2.1)] [(r_5.length, 2)] (by simp [setAll]) (by simp) ⟨(reT (KL_br2_Truth _) rfl), rfl, rfl, rfl, rfl, rfl, rfl, (reN (cleanI _ _)), rfl, trivial⟩ (mapMC (show List.mapM (re 10 [0]) (C_bk_Drum r_4.2) = some (C_bk_Drum r_4.2) by simp) (mapMC (show List.mapM (re 10 [0]) (C_Float r_3.1) = some (C_Float r_3.1) by simp) (mapMC (show List.mapM (re 10 [0]) [i6 b_8, i6 b_9] = some [i6 b_8, i6 b_9] by simp) (mapMC (show List.mapM (re 10 [0]) [i6 b_10, i6 b_11] = some [i6 b_10, i6 b_11] by simp) (mapMC (show List.mapM (re 10 [0]) [i6 b_12, i6 b_13] = some [i6 b_12, i6 b_13] by simp) (mapMC (show List.mapM (re 10 [0]) [i6 b_14, i6 b_15] = some [i6 b_14, i6 b_15] by simp) (mapMC (flat_re (f := (AV.int .i64)) (fun _ => rfl) _ _ _) (mapMC (show List.mapM (re 10 [0]) (C_Span r_81.1) = some (C_Span r_81.1) by simp) (mapMC (show List.mapM (re 10 [0]) (C_Span r_82.1) = some (C_Span r_82.1) by simp) (mapMC (show List.mapM (re 10 [0]) (C_Span r_82.2.1) = some (C_Span r_82.2.1) by simp) rfl)))))))))) rfl (by decide), true, h, rfl, rfl⟩
       ·rcases condI h with ⟨hc_95, h⟩ | ⟨hc_95, h⟩
        ·refine regH 43 [(2, .eq (.bool false)), (6, .eq (.bool false)), (10, .eq (.bool false)), (14, .eq (.bool false)), (18, .eq (.bool false)), (23, .eq (.bool true))] [6, 7, 9, 10, 13, 20, 21, 27, 192] [AV.bool (r_81.2 != 0) = AV.bool false, AV.bool (r_82.2.2 != 0) = AV.bool false, AV.bool (r_83.2 != 0) = AV.bool false, AV.bool (r_84.2 != 0) = AV.bool false, AV.bool (r_85.2 != 0) = AV.bool false, AV.bool (!((r_81.1.Lo == b_8) && ((r_81.1.Hi == b_9) && true))) = AV.bool true] (mkS 238 [(6, .sl (r_5.map A_br2_Truth) (some 0)), (7, i6 (IntKind.i64.wrap (r_3.1.Rear - r_3.1.Front))), (9, .ptr 3 0), (10, .ptr 4 0), (13, .ms 6 k_6 1), (20, .ptr 8 0), (21, .ptr 9 0), (27, .sl (r_85.1.map (AV.int .i64)) none), (192, .bool true)]) (⟨[(C_bk_Drum r_4.2), (C_Float r_3.1), [i6 b_8, i6 b_9], [i6 b_10, i6 b_11], [i6 b_12, i6 b_13], [i6 b_14, i6 b_15], (flat (w_16.map (AV.int .i64))), (C_Span r_81.1), (C_Span r_82.1), (C_Span r_82.2.1), (C_Span r_83.1)], [(r_5.length, 2)]⟩) (by kernel_rfl) ⟨congrArg AV.bool hc_90, congrArg AV.bool hc_91, congrArg AV.bool hc_92, congrArg AV.bool hc_93, congrArg AV.bool hc_94, congrArg AV.bool hc_95, trivial⟩ rfl ?_
         (try simp only [reduceCtorEq, AEx.ex.injEq, Nat.reduceEqDiff, if_true, if_false])
         exact ⟨_, _, forgetA (m := 238) 10 [0] [(6, .sl (r_5.map A_br2_Truth) (some 0)), (7, i6 (IntKind.i64.wrap (r_3.1.Rear - r_3.1.Front))), (9, .ptr 3 0), (10, .ptr 4 0), (13, .ms 6 k_6 1), (20, .ptr 8 0), (21, .ptr 9 0), (27, .sl (r_85.1.map (AV.int .i64)) none), (192, .bool true)] [(C_bk_Drum r_4.2), (C_Float r_3.1), [i6 b_8, i6 b_9], [i6 b_10, i6 b_11], [i6 b_12, i6 b_13], [i6 b_14, i6 b_15], (flat (w_16.map (AV.int .i64))), (C_Span r_81.1), (C_Span r_82.1), (C_Span r_82.2.1)] [(r_5.length, 2)] (by simp [setAll]) (by simp) ⟨(reT (KL_br2_Truth _) rfl), rfl, rfl, rfl, rfl, rfl, rfl, (reN (cleanI _ _)), rfl, trivial⟩ (mapMC (show List.mapM (re 10 [0]) (C_bk_Drum r_4.2) = some (C_bk_Drum r_4.2) by simp) (mapMC (show List.mapM (re 10 [0]) (C_Float r_3.1) = some (C_Float r_3.1) by simp) (mapMC (show List.mapM (re 10 [0]) [i6 b_8, i6 b_9] = some [i6 b_8, i6 b_9] by simp) (mapMC (show List.mapM (re 10 [0]) [i6 b_10, i6 b_11] = some [i6 b_10, i6 b_11] by simp) (mapMC (show List.mapM (re 10 [0]) [i6 b_12, i6 b_13] = some [i6 b_12, i6 b_13] by simp) (mapMC (show List.mapM (re 10 [0]) [i6 b_14, i6 b_15] = some [i6 b_14, i6 b_15] by simp) (mapMC (flat_re (f := (AV.int .i64)) (fun _ => rfl) _ _ _) (mapMC (show List.mapM (re 10 [0]) (C_Span r_81.1) = some (C_Span r_81.1) by simp) (mapMC (show List.mapM (re 10 [0]) (C_Span r_82.1) = some (C_Span r_82.1) by simp) (mapMC (show List.mapM (re 10 [0]) (C_Span r_82.2.1) = some (C_Span r_82.2.1) by simp) rfl)))))))))) rfl (by decide), true, h, rfl, rfl⟩
        ·rcases condI h with ⟨hc_96, h⟩ | ⟨hc_96, h⟩
         ·refine regH 43 [(2, .eq (.bool false)), (6, .eq (.bool false)), (10, .eq (.bool false)), (14, .eq (.bool false)), (18, .eq (.bool false)), (23, .eq (.bool false)), (28, .eq (.bool true))] [6, 7, 9, 10, 13, 20, 21, 27, 192] [AV.bool (r_81.2 != 0) = AV.bool false, AV.bool (r_82.2.2 != 0) = AV.bool false, AV.bool (r_83.2 != 0) = AV.bool false, AV.bool (r_84.2 != 0) = AV.bool false, AV.bool (r_85.2 != 0) = AV.bool false, AV.bool (!((r_81.1.Lo == b_8) && ((r_81.1.Hi == b_9) && true))) = AV.bool false, AV.bool (!((r_83.1.Lo == b_14) && ((r_83.1.Hi == b_15) && true))) = AV.bool true] (mkS 238 [(6, .sl (r_5.map A_br2_Truth) (some 0)), (7, i6 (IntKind.i64.wrap (r_3.1.Rear - r_3.1.Front))), (9, .ptr 3 0), (10, .ptr 4 0), (13, .ms 6 k_6 1), (20, .ptr 8 0), (21, .ptr 9 0), (27, .sl (r_85.1.map (AV.int .i64)) none), (192, .bool true)]) (⟨[(C_bk_Drum r_4.2), (C_Float r_3.1), [i6 b_8, i6 b_9], [i6 b_10, i6 b_11], [i6 b_12, i6 b_13], [i6 b_14, i6 b_15], (flat (w_16.map (AV.int .i64))), (C_Span r_81.1), (C_Span r_82.1), (C_Span r_82.2.1), (C_Span r_83.1)], [(r_5.length, 2)]⟩) (by kernel_rfl) ⟨congrArg AV.bool hc_90, congrArg AV.bool hc_91, congrArg AV.bool hc_92, congrArg AV.bool hc_93, congrArg AV.bool hc_94, congrArg AV.bool hc_95, congrArg AV.bool hc_96, trivial⟩ rfl ?_
          (try simp only [reduceCtorEq, AEx.ex.injEq, Nat.reduceEqDiff, if_true, if_false])
          exact ⟨_, _, forgetA (m := 238) 10 [0] [(6, .sl (r_5.map A_br2_Truth) (some 0)), (7, i6 (IntKind.i64.wrap (r_3.1.Rear - r_3.1.Front))), (9, .ptr 3 0), (10, .ptr 4 0), (13, .ms 6 k_6 1), (20, .ptr 8 0), (21, .ptr 9 0), (27, .sl (r_85.1.map (AV.int .i64)) none), (192, .bool true)] [(C_bk_Drum r_4.2), (C_Float r_3.1), [i6 b_8, i6 b_9], [i6 b_10, i6 b_11], [i6 b_12, i6 b_13], [i6 b_14, i6 b_15], (flat (w_16.map (AV.int .i64))), (C_Span r_81.1), (C_Span r_82.1), (C_Span r_82.2.1)] [(r_5.length, 2)] (by simp [setAll]) (by simp) ⟨(reT (KL_br2_Truth _) rfl), rfl, rfl, rfl, rfl, rfl, rfl, (reN (cleanI _ _)), rfl, trivial⟩ (mapMC (show List.mapM (re 10 [0]) (C_bk_Drum r_4.2) = some (C_bk_Drum r_4.2) by simp) (mapMC (show List.mapM (re 10 [0]) (C_Float r_3.1) = some (C_Float r_3.1) by simp) (mapMC (show List.mapM (re 10 [0]) [i6 b_8, i6 b_9] = some [i6 b_8, i6 b_9] by simp) (mapMC (show List.mapM (re 10 [0]) [i6 b_10, i6 b_11] = some [i6 b_10, i6 b_11] by simp) (mapMC (show List.mapM (re 10 [0]) [i6 b_12, i6 b_13] = some [i6 b_12, i6 b_13] by simp) (mapMC (show List.mapM (re 10 [0]) [i6 b_14, i6 b_15] = some [i6 b_14, i6 b_15] by simp) (mapMC (flat_re (f := (AV.int .i64)) (fun _ => rfl) _ _ _) (mapMC (show List.mapM (re 10 [0]) (C_Span r_81.1) = some (C_Span r_81.1) by simp) (mapMC (show List.mapM (re 10 [0]) (C_Span r_82.1) = some (C_Span r_82.1) by simp) (mapMC (show List.mapM (re 10 [0]) (C_Span r_82.2.1) = some (C_Span r_82.2.1) by simp) rfl)))))))))) rfl (by decide), true, h, rfl, rfl⟩
         ·rcases condI h with ⟨hc_97, h⟩ | ⟨hc_97, h⟩
          ·refine regH 43 [(2, .eq (.bool false)), (6, .eq (.bool false)), (10, .eq (.bool false)), (14, .eq (.bool false)), (18, .eq (.bool false)), (23, .eq (.bool false)), (28, .eq (.bool false)), (30, .eq (i6 ((r_85.1.length : Nat) : Int))), (32, .eq (i6 ((r_4.1.length : Nat) : Int))), (35, .eq (.bool true))] [6, 7, 9, 10, 13, 20, 21, 27, 192] [AV.bool (r_81.2 != 0) = AV.bool false, AV.bool (r_82.2.2 != 0) = AV.bool false, AV.bool (r_83.2 != 0) = AV.bool false, AV.bool (r_84.2 != 0) = AV.bool false, AV.bool (r_85.2 != 0) = AV.bool false, AV.bool (!((r_81.1.Lo == b_8) && ((r_81.1.Hi == b_9) && true))) = AV.bool false, AV.bool (!((r_83.1.Lo == b_14) && ((r_83.1.Hi == b_15) && true))) = AV.bool false, AV.int .i64 (((r_85.1.map (AV.int .i64)).length : Nat) : Int) = AV.int .i64 ((r_85.1.length : Nat) : Int), AV.int .i64 (((r_4.1.map A_Hurdle).length : Nat) : Int) = AV.int .i64 ((r_4.1.length : Nat) : Int), AV.bool (((r_85.1.length : Nat) : Int) != ((r_4.1.length : Nat) : Int)) = AV.bool true] (mkS 238 [(6, .sl (r_5.map A_br2_Truth) (some 0)), (7, i6 (IntKind.i64.wrap (r_3.1.Rear - r_3.1.Front))), (9, .ptr 3 0), (10, .ptr 4 0), (13, .ms 6 k_6 1), (20, .ptr 8 0), (21, .ptr 9 0), (27, .sl (r_85.1.map (AV.int .i64)) none), (192, .bool true)]) (⟨[(C_bk_Drum r_4.2), (C_Float r_3.1), [i6 b_8, i6 b_9], [i6 b_10, i6 b_11], [i6 b_12, i6 b_13], [i6 b_14, i6 b_15], (flat (w_16.map (AV.int .i64))), (C_Span r_81.1), (C_Span r_82.1), (C_Span r_82.2.1), (C_Span r_83.1)], [(r_5.length, 2)]⟩) (by kernel_rfl) ⟨congrArg AV.bool hc_90, congrArg AV.bool hc_91, congrArg AV.bool hc_92, congrArg AV.bool hc_93, congrArg AV.bool hc_94, congrArg AV.bool hc_95, congrArg AV.bool hc_96, lenM _ _, lenM _ _, congrArg AV.bool hc_97, trivial⟩ rfl ?_
           (try simp only [reduceCtorEq, AEx.ex.injEq, Nat.reduceEqDiff, if_true, if_false])
           exact ⟨_, _, forgetA (m := 238) 10 [0] [(6, .sl (r_5.map A_br2_Truth) (some 0)), (7, i6 (IntKind.i64.wrap (r_3.1.Rear - r_3.1.Front))), (9, .ptr 3 0), (10, .ptr 4 0), (13, .ms 6 k_6 1), (20, .ptr 8 0), (21, .ptr 9 0), (27, .sl (r_85.1.map (AV.int .i64)) none), (192, .bool true)] [(C_bk_Drum r_4.2), (C_Float r_3.1), [i6 b_8, i6 b_9], [i6 b_10, i6 b_11], [i6 b_12, i6 b_13], [i6 b_14, i6 b_15], (flat (w_16.map (AV.int .i64))), (C_Span r_81.1), (C_Span r_82.1), (C_Span r_82.2.1)] [(r_5.length, 2)] (by simp [setAll]) (by simp) ⟨(reT (KL_br2_Truth _) rfl), rfl, rfl, rfl, rfl, rfl, rfl, (reN (cleanI _ _)), rfl, trivial⟩ (mapMC (show List.mapM (re 10 [0]) (C_bk_Drum r_4.2) = some (C_bk_Drum r_4.2) by simp) (mapMC (show List.mapM (re 10 [0]) (C_Float r_3.1) = some (C_Float r_3.1) by simp) (mapMC (show List.mapM (re 10 [0]) [i6 b_8, i6 b_9] = some [i6 b_8, i6 b_9] by simp) (mapMC (show List.mapM (re 10 [0]) [i6 b_10, i6 b_11] = some [i6 b_10, i6 b_11] by simp) (mapMC (show List.mapM (re 10 [0]) [i6 b_12, i6 b_13] = some [i6 b_12, i6 b_13] by simp) (mapMC (show List.mapM (re 10 [0]) [i6 b_14, i6 b_15] = some [i6 b_14, i6 b_15] by simp) (mapMC (flat_re (f := (AV.int .i64)) (fun _ => rfl) _ _ _) (mapMC (show List.mapM (re 10 [0]) (C_Span r_81.1) = some (C_Span r_81.1) by simp) (mapMC (show List.mapM (re 10 [0]) (C_Span r_82.1) = some (C_Span r_82.1) by simp) (mapMC (show List.mapM (re 10 [0]) (C_Span r_82.2.1) = some (C_Span r_82.2.1) by simp) rfl)))))))))) rfl (by decide), true, h, rfl, rfl⟩
          ·obtain ⟨r_98, hr_98, h⟩ := bE h
           refine Ex.reg ?_
           refine runH 40 [(2, .eq (.bool false)), (6, .eq (.bool false)), (10, .eq (.bool false)), (14, .eq (.bool false)), (18, .eq (.bool false)), (23, .eq (.bool false)), (28, .eq (.bool false)), (30, .eq (i6 ((r_85.1.length : Nat) : Int))), (32, .eq (i6 ((r_4.1.length : Nat) : Int))), (35, .eq (.bool false)), (39, .eq (i6 ((r_5.length : Nat) : Int)))] [6, 7, 9, 10, 13, 20, 21, 27, 185, 186, 187, 189] [AV.bool (r_81.2 != 0) = AV.bool false, AV.bool (r_82.2.2 != 0) = AV.bool false, AV.bool (r_83.2 != 0) = AV.bool false, AV.bool (r_84.2 != 0) = AV.bool false, AV.bool (r_85.2 != 0) = AV.bool false, AV.bool (!((r_81.1.Lo == b_8) && ((r_81.1.Hi == b_9) && true))) = AV.bool false, AV.bool (!((r_83.1.Lo == b_14) && ((r_83.1.Hi == b_15) && true))) = AV.bool false, AV.int .i64 (((r_85.1.map (AV.int .i64)).length : Nat) : Int) = AV.int .i64 ((r_85.1.length : Nat) : Int), AV.int .i64 (((r_4.1.map A_Hurdle).length : Nat) : Int) = AV.int .i64 ((r_4.1.length : Nat) : Int), AV.bool (((r_85.1.length : Nat) : Int) != ((r_4.1.length : Nat) : Int)) = AV.bool false, AV.int .i64 (((r_5.map A_br2_Truth).length : Nat) : Int) = AV.int .i64 ((r_5.length : Nat) : Int)] (mkS 238 [(6, .sl (r_5.map A_br2_Truth) (some 0)), (7, i6 (IntKind.i64.wrap (r_3.1.Rear - r_3.1.Front))), (9, .ptr 3 0), (10, .ptr 4 0), (13, .ms 6 k_6 1), (20, .ptr 8 0), (21, .ptr 9 0), (27, .sl (r_85.1.map (AV.int .i64)) none), (185, .bool false), (186, i6 r_84.1), (187, i6 up_7), (189, i6 ((r_5.length : Nat) : Int))]) (⟨[(C_bk_Drum r_4.2), (C_Float r_3.1), [i6 b_8, i6 b_9], [i6 b_10, i6 b_11], [i6 b_12, i6 b_13], [i6 b_14, i6 b_15], (flat (w_16.map (AV.int .i64))), (C_Span r_81.1), (C_Span r_82.1), (C_Span r_82.2.1), (C_Span r_83.1)], [(r_5.length, 2)]⟩) (by kernel_rfl) ⟨congrArg AV.bool hc_90, congrArg AV.bool hc_91, congrArg AV.bool hc_92, congrArg AV.bool hc_93, congrArg AV.bool hc_94, congrArg AV.bool hc_95, congrArg AV.bool hc_96, lenM _ _, lenM _ _, congrArg AV.bool hc_97, lenM _ _, trivial⟩ ?_
           refine ExO.callL [] [i6 up_7, i6 ((r_5.length : Nat) : Int)] rfl rfl (a_bl2_told up_7 ((r_5.length : Nat) : Int)) rfl rfl (d_bl2_told N up_7 ((r_5.length : Nat) : Int) r_98 hr_98) (b_bl2_told _ _ _ _) rfl ?_
           refine rn 2 [6, 7, 9, 10, 13, 20, 21, 27, 192] (mkS 238 [(6, .sl (r_5.map A_br2_Truth) (some 0)), (7, i6 (IntKind.i64.wrap (r_3.1.Rear - r_3.1.Front))), (9, .ptr 3 0), (10, .ptr 4 0), (13, .ms 6 k_6 1), (20, .ptr 8 0), (21, .ptr 9 0), (27, .sl (r_85.1.map (AV.int .i64)) none), (192, .bool (r_84.1 != r_98))]) ⟨[(C_bk_Drum r_4.2), (C_Float r_3.1), [i6 b_8, i6 b_9], [i6 b_10, i6 b_11], [i6 b_12, i6 b_13], [i6 b_14, i6 b_15], (flat (w_16.map (AV.int .i64))), (C_Span r_81.1), (C_Span r_82.1), (C_Span r_82.2.1), (C_Span r_83.1)], [(r_5.length, 2)]⟩ ?_
           refine ExO.nil ?_
           (try simp only [reduceCtorEq, AEx.ex.injEq, Nat.reduceEqDiff, if_true, if_false])
           exact ⟨_, _, forgetA (m := 238) 10 [0] [(6, .sl (r_5.map A_br2_Truth) (some 0)), (7, i6 (IntKind.i64.wrap (r_3.1.Rear - r_3.1.Front))), (9, .ptr 3 0), (10, .ptr 4 0), (13, .ms 6 k_6 1), (20, .ptr 8 0), (21, .ptr 9 0), (27, .sl (r_85.1.map (AV.int .i64)) none), (192, .bool (r_84.1 != r_98))] [(C_bk_Drum r_4.2), (C_Float r_3.1), [i6 b_8, i6 b_9], [i6 b_10, i6 b_11], [i6 b_12, i6 b_13], [i6 b_14, i6 b_15], (flat (w_16.map (AV.int .i64))), (C_Span r_81.1), (C_Span r_82.1), (C_Span r_82.2.1)] [(r_5.length, 2)] (by simp [setAll]) (by simp) ⟨(reT (KL_br2_Truth _) rfl), rfl, rfl, rfl, rfl, rfl, rfl, (reN (cleanI _ _)), rfl, trivial⟩ (mapMC (show List.mapM (re 10 [0]) (C_bk_Drum r_4.2) = some (C_bk_Drum r_4.2) by simp) (mapMC (show List.mapM (re 10 [0]) (C_Float r_3.1) = some (C_Float r_3.1) by simp) (mapMC (show List.mapM (re 10 [0]) [i6 b_8, i6 b_9] = some [i6 b_8, i6 b_9] by simp) (mapMC (show List.mapM (re 10 [0]) [i6 b_10, i6 b_11] = some [i6 b_10, i6 b_11] by simp) (mapMC (show List.mapM (re 10 [0]) [i6 b_12, i6 b_13] = some [i6 b_12, i6 b_13] by simp) (mapMC (show List.mapM (re 10 [0]) [i6 b_14, i6 b_15] = some [i6 b_14, i6 b_15] by simp) (mapMC (flat_re (f := (AV.int .i64)) (fun _ => rfl) _ _ _) (mapMC (show List.mapM (re 10 [0]) (C_Span r_81.1) = some (C_Span r_81.1) by simp) (mapMC (show List.mapM (re 10 [0]) (C_Span r_82.1) = some (C_Span r_82.1) by simp) (mapMC (show List.mapM (re 10 [0]) (C_Span r_82.2.1) = some (C_Span r_82.2.1) by simp) rfl)))))))))) rfl (by decide), (r_84.1 != r_98), h, rfl, rfl⟩
  ·rintro a S ⟨y_86, h, rfl, rfl⟩
   subst hK_89
   rcases condI h with ⟨hc_99, h⟩ | ⟨hc_99, h⟩
   ·refine Ex.condT _ rfl hc_99 ?_
    refine Ex.seq (rg 1 [2] (mkS 238 [(2, .bool false)]) ⟨[(C_bk_Drum r_4.2), (C_Float r_3.1), [i6 b_8, i6 b_9], [i6 b_10, i6 b_11], [i6 b_12, i6 b_13], [i6 b_14, i6 b_15], (flat (w_16.map (AV.int .i64))), (C_Span r_81.1), (C_Span r_82.1), (C_Span r_82.2.1)], [(r_5.length, 2)]⟩ ?_)
    refine Ex.ret ?_
    obtain rfl := sJ h
    exact rt (.bool false)
   ·refine Ex.condF _ rfl hc_99 ?_
    refine Ex.skip ?_
    refine Ex.seq (Ex.seq ?_)
    refine rg 1 [6, 7, 9, 10, 13, 20, 21, 27, 29] (mkS 238 [(6, .sl (r_5.map A_br2_Truth) (some 0)), (7, i6 (IntKind.i64.wrap (r_3.1.Rear - r_3.1.Front))), (9, .ptr 3 0), (10, .ptr 4 0), (13, .ms 6 k_6 1), (20, .ptr 8 0), (21, .ptr 9 0), (27, .sl (r_85.1.map (AV.int .i64)) none), (29, i6 0)]) ⟨[(C_bk_Drum r_4.2), (C_Float r_3.1), [i6 b_8, i6 b_9], [i6 b_10, i6 b_11], [i6 b_12, i6 b_13], [i6 b_14, i6 b_15], (flat (w_16.map (AV.int .i64))), (C_Span r_81.1), (C_Span r_82.1), (C_Span r_82.2.1)], [(r_5.length, 2)]⟩ ?_
    obtain ⟨K_101, hK_102, h⟩ := letE h
    refine Ex.blockJ (fun a S => K_101 () = some r ∧ a = mkS 238 [(7, i6 (IntKind.i64.wrap (r_3.1.Rear - r_3.1.Front))), (9, .ptr 3 0), (10, .ptr 4 0), (20, .ptr 8 0), (21, .ptr 9 0)] ∧ S = ⟨[(C_bk_Drum r_4.2), (C_Float r_3.1), [i6 b_8, i6 b_9], [i6 b_10, i6 b_11], [i6 b_12, i6 b_13], [i6 b_14, i6 b_15], (flat (w_16.map (AV.int .i64))), (C_Span r_81.1), (C_Span r_82.1), (C_Span r_82.2.1)], []⟩) ?_ ?_
    ·obtain ⟨B_105, hB_106, h⟩ := loop1I h
     refine Ex.loopF (fun k a S => ∃ (k_103 : Int), loop1 B_105 k k_103 = some r ∧ a = mkS 238 [(6, .sl (r_5.map A_br2_Truth) (some 0)), (7, i6 (IntKind.i64.wrap (r_3.1.Rear - r_3.1.Front))), (9, .ptr 3 0), (10, .ptr 4 0), (13, .ms 6 k_6 1), (20, .ptr 8 0), (21, .ptr 9 0), (27, .sl (r_85.1.map (AV.int .i64)) none), (29, i6 k_103)] ∧ S = ⟨[(C_bk_Drum r_4.2), (C_Float r_3.1), [i6 b_8, i6 b_9], [i6 b_10, i6 b_11], [i6 b_12, i6 b_13], [i6 b_14, i6 b_15], (flat (w_16.map (AV.int .i64))), (C_Span r_81.1), (C_Span r_82.1), (C_Span r_82.2.1)], [(r_5.length, 2)]⟩) N ⟨_, _, Forgets.refl _ _ _, 0, h, rfl, rfl⟩ ?_
     rintro k a S ⟨k_103, h, rfl, rfl⟩
     cases k with
     | zero => exact (loop1Z h).elim
     | succ k =>
      replace h := loop1S h hB_106
      refine Ex.seq (Ex.seq ?_)
      refine regH 4 [(2, .eq (i6 ((r_85.1.length : Nat) : Int)))] [6, 7, 9, 10, 13, 20, 21, 27, 29, 196] [AV.int .i64 (((r_85.1.map (AV.int .i64)).length : Nat) : Int) = AV.int .i64 ((r_85.1.length : Nat) : Int)] (mkS 238 [(6, .sl (r_5.map A_br2_Truth) (some 0)), (7, i6 (IntKind.i64.wrap (r_3.1.Rear - r_3.1.Front))), (9, .ptr 3 0), (10, .ptr 4 0), (13, .ms 6 k_6 1), (20, .ptr 8 0), (21, .ptr 9 0), (27, .sl (r_85.1.map (AV.int .i64)) none), (29, i6 k_103), (196, .bool (decide (k_103 < ((r_85.1.length : Nat) : Int))))]) (⟨[(C_bk_Drum r_4.2), (C_Float r_3.1), [i6 b_8, i6 b_9], [i6 b_10, i6 b_11], [i6 b_12, i6 b_13], [i6 b_14, i6 b_15], (flat (w_16.map (AV.int .i64))), (C_Span r_81.1), (C_Span r_82.1), (C_Span r_82.2.1)], [(r_5.length, 2)]⟩) (by kernel_rfl) ⟨lenM _ _, trivial⟩ rfl ?_
      rcases condI h with ⟨hc_107, h⟩ | ⟨hc_107, h⟩
      ·refine Ex.condT _ rfl hc_107 ?_
       refine Ex.skip ?_
       refine Ex.seq ?_
       refine Ex.blockK ?_
       refine Ex.seq ?_
       obtain ⟨x_108, hx_108, h⟩ := bE h
       obtain ⟨u_109, hu_109, h⟩ := bE h
       obtain ⟨x_110, hx_110, h⟩ := bE h
       obtain ⟨r_111, hr_111, h⟩ := bE h
       have hT_112 : DoesA Try.prog [⟨18, [i6 x_110, i6 ((r_5.length : Nat) : Int)], [], (v_bl2_told r_111), []⟩] ∧ ConsA [⟨18, [i6 x_110, i6 ((r_5.length : Nat) : Int)], [], (v_bl2_told r_111), []⟩] := ⟨⟨(d_bl2_told N x_110 ((r_5.length : Nat) : Int) r_111 hr_111), rfl, trivial⟩, ⟨trivial, trivial⟩⟩
       refine Ex.drawE (a1 := mkS 238 [(6, .sl (r_5.map A_br2_Truth) (some 0)), (7, i6 (IntKind.i64.wrap (r_3.1.Rear - r_3.1.Front))), (9, .ptr 3 0), (10, .ptr 4 0), (13, .ms 6 k_6 1), (20, .ptr 8 0), (21, .ptr 9 0), (27, .sl (r_85.1.map (AV.int .i64)) none), (29, i6 k_103), (196, .bool (decide (k_103 < ((r_85.1.length : Nat) : Int)))), (199, .sl (r_85.1.map (AV.int .i64)) none), (200, i6 k_103), (201, .rop [i6 x_108]), (202, i6 x_108), (203, .ms 6 k_6 1), (204, i6 k_103), (205, .ptr 6 (0 + Int.toNat k_103 * 1)), (206, i6 x_110), (207, .sl (r_5.map A_br2_Truth) (some 0)), (208, i6 ((r_5.length : Nat) : Int)), (209, i6 r_111)]) (tabO_ok hT_112.1) [] [] [] ?_ ?_
       ·refine drS [0, 1, 2, 3, 4, 5, 6, 7, 8, 9] 10 [(2, .rop [i6 x_108]), (6, .adm), (7, .ld (i6 x_110)), (9, .eq (i6 ((r_5.length : Nat) : Int)))] [LGet (r_85.1.map (AV.int .i64)) k_103 1 [i6 x_108], 0 ≤ k_103 ∧ k_103 < ((k_6 : Nat) : Int), takeCells (flat (w_16.map (AV.int .i64))) (0 + Int.toNat k_103 * 1) none = some (i6 x_110), AV.int .i64 (((r_5.map A_br2_Truth).length : Nat) : Int) = AV.int .i64 ((r_5.length : Nat) : Int)] (mkS 238 [(6, .sl (r_5.map A_br2_Truth) (some 0)), (7, i6 (IntKind.i64.wrap (r_3.1.Rear - r_3.1.Front))), (9, .ptr 3 0), (10, .ptr 4 0), (13, .ms 6 k_6 1), (20, .ptr 8 0), (21, .ptr 9 0), (27, .sl (r_85.1.map (AV.int .i64)) none), (29, i6 k_103), (196, .bool (decide (k_103 < ((r_85.1.length : Nat) : Int)))), (199, .sl (r_85.1.map (AV.int .i64)) none), (200, i6 k_103), (201, .rop [i6 x_108]), (202, i6 x_108), (203, .ms 6 k_6 1), (204, i6 k_103), (205, .ptr 6 (0 + Int.toNat k_103 * 1)), (206, i6 x_110), (207, .sl (r_5.map A_br2_Truth) (some 0)), (208, i6 ((r_5.length : Nat) : Int))]) (by simp) (by kernel_rfl) ⟨LGet.of hx_108 rfl, idxI.of hu_109, ldFl (f := (AV.int .i64)) (s := 1) w_16 _ 0 k_103 x_110 (i6 x_110) (fun _ => rfl) hx_110 rfl (by omega), lenM _ _, trivial⟩ (by kernel_rfl) ?_
        refine drC hT_112.2 0 _ [i6 x_110, i6 ((r_5.length : Nat) : Int)] (v_bl2_told r_111) rfl rfl rfl rfl rfl (fun _ => rfl) rfl (by simp; try rfl) (fun _ => b_bl2_told _ _ _ _) ?_
        exact DrO.nil rfl
       ·dsimp only [List.getLastD_cons, List.getLastD_nil]
        refine rn 1 [6, 7, 9, 10, 13, 20, 21, 27, 29, 210] (mkS 238 [(6, .sl (r_5.map A_br2_Truth) (some 0)), (7, i6 (IntKind.i64.wrap (r_3.1.Rear - r_3.1.Front))), (9, .ptr 3 0), (10, .ptr 4 0), (13, .ms 6 k_6 1), (20, .ptr 8 0), (21, .ptr 9 0), (27, .sl (r_85.1.map (AV.int .i64)) none), (29, i6 k_103), (210, .bool (x_108 != r_111))]) ⟨[(C_bk_Drum r_4.2), (C_Float r_3.1), [i6 b_8, i6 b_9], [i6 b_10, i6 b_11], [i6 b_12, i6 b_13], [i6 b_14, i6 b_15], (flat (w_16.map (AV.int .i64))), (C_Span r_81.1), (C_Span r_82.1), (C_Span r_82.2.1)], [(r_5.length, 2)]⟩ ?_
        refine ExO.nil ?_
        rcases condI h with ⟨hc_113, h⟩ | ⟨hc_113, h⟩
        ·refine Ex.condT _ rfl hc_113 ?_
         refine Ex.seq (rg 1 [2] (mkS 238 [(2, .bool false)]) ⟨[(C_bk_Drum r_4.2), (C_Float r_3.1), [i6 b_8, i6 b_9], [i6 b_10, i6 b_11], [i6 b_12, i6 b_13], [i6 b_14, i6 b_15], (flat (w_16.map (AV.int .i64))), (C_Span r_81.1), (C_Span r_82.1), (C_Span r_82.2.1)], [(r_5.length, 2)]⟩ ?_)
         refine Ex.ret ?_
         obtain rfl := sJ h
         exact rt (.bool false)
        ·refine Ex.condF _ rfl hc_113 ?_
         refine Ex.skip ?_
         refine rg 3 [6, 7, 9, 10, 13, 20, 21, 27, 29] (mkS 238 [(6, .sl (r_5.map A_br2_Truth) (some 0)), (7, i6 (IntKind.i64.wrap (r_3.1.Rear - r_3.1.Front))), (9, .ptr 3 0), (10, .ptr 4 0), (13, .ms 6 k_6 1), (20, .ptr 8 0), (21, .ptr 9 0), (27, .sl (r_85.1.map (AV.int .i64)) none), (29, i6 (IntKind.i64.wrap (k_103 + 1)))]) ⟨[(C_bk_Drum r_4.2), (C_Float r_3.1), [i6 b_8, i6 b_9], [i6 b_10, i6 b_11], [i6 b_12, i6 b_13], [i6 b_14, i6 b_15], (flat (w_16.map (AV.int .i64))), (C_Span r_81.1), (C_Span r_82.1), (C_Span r_82.2.1)], [(r_5.length, 2)]⟩ ?_
         dsimp only
         exact ⟨_, _, Forgets.refl _ _ _, k, Nat.lt_succ_self k, (IntKind.i64.wrap (k_103 + 1)), h, rfl, rfl⟩
      ·refine Ex.condF _ rfl hc_107 ?_
       refine Ex.exit ?_
       (try simp only [reduceCtorEq, AEx.ex.injEq, Nat.reduceEqDiff, if_true, if_false])
       exact ⟨_, _, forgetA (m := 238) 10 [] [(7, i6 (IntKind.i64.wrap (r_3.1.Rear - r_3.1.Front))), (9, .ptr 3 0), (10, .ptr 4 0), (20, .ptr 8 0), (21, .ptr 9 0)] [(C_bk_Drum r_4.2), (C_Float r_3.1), [i6 b_8, i6 b_9], [i6 b_10, i6 b_11], [i6 b_12, i6 b_13], [i6 b_14, i6 b_15], (flat (w_16.map (AV.int .i64))), (C_Span r_81.1), (C_Span r_82.1), (C_Span r_82.2.1)] [] (by simp [setAll]) (by simp) ⟨rfl, rfl, rfl, rfl, rfl, trivial⟩ (mapMC (show List.mapM (re 10 []) (C_bk_Drum r_4.2) = some (C_bk_Drum r_4.2) by simp) (mapMC (show List.mapM (re 10 []) (C_Float r_3.1) = some (C_Float r_3.1) by simp) (mapMC (show List.mapM (re 10 []) [i6 b_8, i6 b_9] = some [i6 b_8, i6 b_9] by simp) (mapMC (show List.mapM (re 10 []) [i6 b_10, i6 b_11] = some [i6 b_10, i6 b_11] by simp) (mapMC (show List.mapM (re 10 []) [i6 b_12, i6 b_13] = some [i6 b_12, i6 b_13] by simp) (mapMC (show List.mapM (re 10 []) [i6 b_14, i6 b_15] = some [i6 b_14, i6 b_15] by simp) (mapMC (flat_re (f := (AV.int .i64)) (fun _ => rfl) _ _ _) (mapMC (show List.mapM (re 10 []) (C_Span r_81.1) = some (C_Span r_81.1) by simp) (mapMC (show List.mapM (re 10 []) (C_Span r_82.1) = some (C_Span r_82.1) by simp) (mapMC (show List.mapM (re 10 []) (C_Span r_82.2.1) = some (C_Span r_82.2.1) by simp) rfl)))))))))) rfl (by decide), h, rfl, rfl⟩
    ·rintro a S ⟨h, rfl, rfl⟩
     subst hK_102
     refine Ex.seq ?_
     obtain ⟨r_114, hr_114, h⟩ := bE h
     obtain ⟨r_115, hr_115, h⟩ := bE h
     obtain ⟨r_116, hr_116, h⟩ := bE h
     rcases condI h with ⟨hc_117, h⟩ | ⟨hc_117, h⟩
     ·obtain ⟨r_118, hr_118, h⟩ := bE h
      obtain ⟨r_119, hr_119, h⟩ := bE h
      obtain ⟨r_120, hr_120, h⟩ := bE h
      have hT_121 : DoesA Try.prog [⟨20, [i6 b_10, i6 (IntKind.i64.wrap (r_3.1.Rear - r_3.1.Front))], [], (v_br2_Down r_114), []⟩, ⟨21, [i6 b_11, i6 (IntKind.i64.wrap (r_3.1.Rear - r_3.1.Front))], [], (v_br2_Up r_115), []⟩, ⟨19, [i6 r_114, i6 r_115], [], (v_bl2_span r_116), []⟩, ⟨20, [i6 b_12, i6 (IntKind.i64.wrap (r_3.1.Rear - r_3.1.Front))], [], (v_br2_Down r_118), []⟩, ⟨21, [i6 b_13, i6 (IntKind.i64.wrap (r_3.1.Rear - r_3.1.Front))], [], (v_br2_Up r_119), []⟩, ⟨19, [i6 r_118, i6 r_119], [], (v_bl2_span r_120), []⟩] ∧ ConsA [⟨20, [i6 b_10, i6 (IntKind.i64.wrap (r_3.1.Rear - r_3.1.Front))], [], (v_br2_Down r_114), []⟩, ⟨21, [i6 b_11, i6 (IntKind.i64.wrap (r_3.1.Rear - r_3.1.Front))], [], (v_br2_Up r_115), []⟩, ⟨19, [i6 r_114, i6 r_115], [], (v_bl2_span r_116), []⟩, ⟨20, [i6 b_12, i6 (IntKind.i64.wrap (r_3.1.Rear - r_3.1.Front))], [], (v_br2_Down r_118), []⟩, ⟨21, [i6 b_13, i6 (IntKind.i64.wrap (r_3.1.Rear - r_3.1.Front))], [], (v_br2_Up r_119), []⟩, ⟨19, [i6 r_118, i6 r_119], [], (v_bl2_span r_120), []⟩] := ⟨⟨(d_br2_Down N b_10 (IntKind.i64.wrap (r_3.1.Rear - r_3.1.Front)) r_114 hr_114), rfl, (d_br2_Up N b_11 (IntKind.i64.wrap (r_3.1.Rear - r_3.1.Front)) r_115 hr_115), rfl, (d_bl2_span N r_114 r_115 r_116 hr_116), rfl, (d_br2_Down N b_12 (IntKind.i64.wrap (r_3.1.Rear - r_3.1.Front)) r_118 hr_118), rfl, (d_br2_Up N b_13 (IntKind.i64.wrap (r_3.1.Rear - r_3.1.Front)) r_119 hr_119), rfl, (d_bl2_span N r_118 r_119 r_120 hr_120), rfl, trivial⟩, ⟨⟨ConsR.ne rfl, ConsR.ne rfl, k_br2_Down N b_10 (IntKind.i64.wrap (r_3.1.Rear - r_3.1.Front)) b_12 (IntKind.i64.wrap (r_3.1.Rear - r_3.1.Front)) r_114 r_118 hr_114 hr_118, ConsR.ne rfl, ConsR.ne rfl, trivial⟩, ⟨ConsR.ne rfl, ConsR.ne rfl, k_br2_Up N b_11 (IntKind.i64.wrap (r_3.1.Rear - r_3.1.Front)) b_13 (IntKind.i64.wrap (r_3.1.Rear - r_3.1.Front)) r_115 r_119 hr_115 hr_119, ConsR.ne rfl, trivial⟩, ⟨ConsR.ne rfl, ConsR.ne rfl, k_bl2_span N r_114 r_115 r_118 r_119 r_116 r_120 hr_116 hr_120, trivial⟩, ⟨ConsR.ne rfl, ConsR.ne rfl, trivial⟩, ⟨ConsR.ne rfl, trivial⟩, trivial, trivial⟩⟩
      refine Ex.drawE (a1 := mkS 238 [(7, i6 (IntKind.i64.wrap (r_3.1.Rear - r_3.1.Front))), (9, .ptr 3 0), (10, .ptr 4 0), (20, .ptr 8 0), (21, .ptr 9 0), (211, (A_Span r_82.1)), (212, .ptr 3 0), (213, i6 b_10), (214, i6 (IntKind.i64.wrap (r_3.1.Rear - r_3.1.Front))), (215, i6 r_114), (216, .ptr 3 1), (217, i6 b_11), (218, i6 (IntKind.i64.wrap (r_3.1.Rear - r_3.1.Front))), (219, i6 r_115), (220, (A_Span r_116)), (221, .bool ((r_82.1.Lo == r_116.Lo) && ((r_82.1.Hi == r_116.Hi) && true))), (222, .bool true), (223, (A_Span r_82.2.1)), (224, .ptr 4 0), (225, i6 b_12), (226, i6 (IntKind.i64.wrap (r_3.1.Rear - r_3.1.Front))), (227, i6 r_118), (228, .ptr 4 1), (229, i6 b_13), (230, i6 (IntKind.i64.wrap (r_3.1.Rear - r_3.1.Front))), (231, i6 r_119), (232, (A_Span r_120))]) (tabO_ok hT_121.1) [] [] [] ?_ ?_
      ·refine drS [0, 1, 2, 3, 4, 5, 6, 7, 8, 9] 4 [] [] (mkS 238 [(7, i6 (IntKind.i64.wrap (r_3.1.Rear - r_3.1.Front))), (9, .ptr 3 0), (10, .ptr 4 0), (20, .ptr 8 0), (21, .ptr 9 0), (211, (A_Span r_82.1)), (212, .ptr 3 0), (213, i6 b_10), (214, i6 (IntKind.i64.wrap (r_3.1.Rear - r_3.1.Front)))]) (by simp) (by kernel_rfl) trivial (by kernel_rfl) ?_
       refine drC hT_121.2 0 _ [i6 b_10, i6 (IntKind.i64.wrap (r_3.1.Rear - r_3.1.Front))] (v_br2_Down r_114) rfl rfl rfl rfl rfl (fun _ => rfl) rfl (by simp; try rfl) (fun _ => b_br2_Down _ _ _ _) ?_
       refine drS [0, 1, 2, 3, 4, 5, 6, 7, 8, 9] 3 [] [] (mkS 238 [(7, i6 (IntKind.i64.wrap (r_3.1.Rear - r_3.1.Front))), (9, .ptr 3 0), (10, .ptr 4 0), (20, .ptr 8 0), (21, .ptr 9 0), (211, (A_Span r_82.1)), (212, .ptr 3 0), (213, i6 b_10), (214, i6 (IntKind.i64.wrap (r_3.1.Rear - r_3.1.Front))), (215, i6 r_114), (216, .ptr 3 1), (217, i6 b_11), (218, i6 (IntKind.i64.wrap (r_3.1.Rear - r_3.1.Front)))]) (by simp) (by kernel_rfl) trivial (by kernel_rfl) ?_
       refine drC hT_121.2 1 _ [i6 b_11, i6 (IntKind.i64.wrap (r_3.1.Rear - r_3.1.Front))] (v_br2_Up r_115) rfl rfl rfl rfl rfl (fun _ => rfl) rfl (by simp; try rfl) (fun _ => b_br2_Up _ _ _ _) ?_
       refine drC hT_121.2 2 _ [i6 r_114, i6 r_115] (v_bl2_span r_116) rfl rfl rfl rfl rfl (fun _ => rfl) rfl (by simp; try rfl) (fun _ => b_bl2_span _ _ _ _) ?_
       refine drS [0, 1, 2, 3, 4, 5, 6, 7, 8, 9] 6 [(1, .eq (.bool true))] [AV.bool ((r_82.1.Lo == r_116.Lo) && ((r_82.1.Hi == r_116.Hi) && true)) = AV.bool true] (mkS 238 [(7, i6 (IntKind.i64.wrap (r_3.1.Rear - r_3.1.Front))), (9, .ptr 3 0), (10, .ptr 4 0), (20, .ptr 8 0), (21, .ptr 9 0), (211, (A_Span r_82.1)), (212, .ptr 3 0), (213, i6 b_10), (214, i6 (IntKind.i64.wrap (r_3.1.Rear - r_3.1.Front))), (215, i6 r_114), (216, .ptr 3 1), (217, i6 b_11), (218, i6 (IntKind.i64.wrap (r_3.1.Rear - r_3.1.Front))), (219, i6 r_115), (220, (A_Span r_116)), (221, .bool ((r_82.1.Lo == r_116.Lo) && ((r_82.1.Hi == r_116.Hi) && true))), (222, .bool true), (223, (A_Span r_82.2.1)), (224, .ptr 4 0), (225, i6 b_12), (226, i6 (IntKind.i64.wrap (r_3.1.Rear - r_3.1.Front)))]) (by simp) (by kernel_rfl) ⟨congrArg AV.bool hc_117, trivial⟩ (by kernel_rfl) ?_
       refine drC hT_121.2 3 _ [i6 b_12, i6 (IntKind.i64.wrap (r_3.1.Rear - r_3.1.Front))] (v_br2_Down r_118) rfl rfl rfl rfl rfl (fun _ => rfl) rfl (by simp; try rfl) (fun _ => b_br2_Down _ _ _ _) ?_
       refine drS [0, 1, 2, 3, 4, 5, 6, 7, 8, 9] 3 [] [] (mkS 238 [(7, i6 (IntKind.i64.wrap (r_3.1.Rear - r_3.1.Front))), (9, .ptr 3 0), (10, .ptr 4 0), (20, .ptr 8 0), (21, .ptr 9 0), (211, (A_Span r_82.1)), (212, .ptr 3 0), (213, i6 b_10), (214, i6 (IntKind.i64.wrap (r_3.1.Rear - r_3.1.Front))), (215, i6 r_114), (216, .ptr 3 1), (217, i6 b_11), (218, i6 (IntKind.i64.wrap (r_3.1.Rear - r_3.1.Front))), (219, i6 r_115), (220, (A_Span r_116)), (221, .bool ((r_82.1.Lo == r_116.Lo) && ((r_82.1.Hi == r_116.Hi) && true))), (222, .bool true), (223, (A_Span r_82.2.1)), (224, .ptr 4 0), (225, i6 b_12), (226, i6 (IntKind.i64.wrap (r_3.1.Rear - r_3.1.Front))), (227, i6 r_118), (228, .ptr 4 1), (229, i6 b_13), (230, i6 (IntKind.i64.wrap (r_3.1.Rear - r_3.1.Front)))]) (by simp) (by kernel_rfl) trivial (by kernel_rfl) ?_
       refine drC hT_121.2 4 _ [i6 b_13, i6 (IntKind.i64.wrap (r_3.1.Rear - r_3.1.Front))] (v_br2_Up r_119) rfl rfl rfl rfl rfl (fun _ => rfl) rfl (by simp; try rfl) (fun _ => b_br2_Up _ _ _ _) ?_
       refine drC hT_121.2 5 _ [i6 r_118, i6 r_119] (v_bl2_span r_120) rfl rfl rfl rfl rfl (fun _ => rfl) rfl (by simp; try rfl) (fun _ => b_bl2_span _ _ _ _) ?_
       exact DrO.nil rfl
      ·dsimp only [List.getLastD_cons, List.getLastD_nil]
       rcases condI h with ⟨hc_122, h⟩ | ⟨hc_122, h⟩
       ·obtain ⟨r_123, hr_123, h⟩ := bE h
        refine runH 3 [(2, .eq (.bool true))] [235] [AV.bool ((r_82.2.1.Lo == r_120.Lo) && ((r_82.2.1.Hi == r_120.Hi) && true)) = AV.bool true] (mkS 238 [(235, .bool true)]) (⟨[(C_bk_Drum r_4.2), (C_Float r_3.1), [i6 b_8, i6 b_9], [i6 b_10, i6 b_11], [i6 b_12, i6 b_13], [i6 b_14, i6 b_15], (flat (w_16.map (AV.int .i64))), (C_Span r_81.1), (C_Span r_82.1), (C_Span r_82.2.1)], []⟩) (by kernel_rfl) ⟨congrArg AV.bool hc_122, trivial⟩ ?_
        refine ExO.callL [] [] rfl rfl (a_bl2_awake) rfl rfl (d_bl2_awake N r_123 hr_123) (b_bl2_awake _ _ _ _) rfl ?_
        refine rn 2 [2] (mkS 238 [(2, .bool r_123)]) ⟨[(C_bk_Drum r_4.2), (C_Float r_3.1), [i6 b_8, i6 b_9], [i6 b_10, i6 b_11], [i6 b_12, i6 b_13], [i6 b_14, i6 b_15], (flat (w_16.map (AV.int .i64))), (C_Span r_81.1), (C_Span r_82.1), (C_Span r_82.2.1)], []⟩ ?_
        refine ExO.nil ?_
        refine Ex.ret ?_
        obtain rfl := sJ h
        exact rt (.bool r_123)
       ·refine runH 6 [(2, .eq (.bool false))] [2] [AV.bool ((r_82.2.1.Lo == r_120.Lo) && ((r_82.2.1.Hi == r_120.Hi) && true)) = AV.bool false] (mkS 238 [(2, .bool false)]) (⟨[(C_bk_Drum r_4.2), (C_Float r_3.1), [i6 b_8, i6 b_9], [i6 b_10, i6 b_11], [i6 b_12, i6 b_13], [i6 b_14, i6 b_15], (flat (w_16.map (AV.int .i64))), (C_Span r_81.1), (C_Span r_82.1), (C_Span r_82.2.1)], []⟩) (by kernel_rfl) ⟨congrArg AV.bool hc_122, trivial⟩ ?_
        refine ExO.nil ?_
        refine Ex.ret ?_
        obtain rfl := sJ h
        exact rt (.bool false)
     ·have hT_125 : DoesA Try.prog [⟨20, [i6 b_10, i6 (IntKind.i64.wrap (r_3.1.Rear - r_3.1.Front))], [], (v_br2_Down r_114), []⟩, ⟨21, [i6 b_11, i6 (IntKind.i64.wrap (r_3.1.Rear - r_3.1.Front))], [], (v_br2_Up r_115), []⟩, ⟨19, [i6 r_114, i6 r_115], [], (v_bl2_span r_116), []⟩] ∧ ConsA [⟨20, [i6 b_10, i6 (IntKind.i64.wrap (r_3.1.Rear - r_3.1.Front))], [], (v_br2_Down r_114), []⟩, ⟨21, [i6 b_11, i6 (IntKind.i64.wrap (r_3.1.Rear - r_3.1.Front))], [], (v_br2_Up r_115), []⟩, ⟨19, [i6 r_114, i6 r_115], [], (v_bl2_span r_116), []⟩] := ⟨⟨(d_br2_Down N b_10 (IntKind.i64.wrap (r_3.1.Rear - r_3.1.Front)) r_114 hr_114), rfl, (d_br2_Up N b_11 (IntKind.i64.wrap (r_3.1.Rear - r_3.1.Front)) r_115 hr_115), rfl, (d_bl2_span N r_114 r_115 r_116 hr_116), rfl, trivial⟩, ⟨⟨ConsR.ne rfl, ConsR.ne rfl, trivial⟩, ⟨ConsR.ne rfl, trivial⟩, trivial, trivial⟩⟩
      obtain ⟨X_124, hX_124, hcl_126, hcl_127, hcl_128⟩ : ∃ X : Clr, ClrOk Try.prog X ∧ X 20 [i6 b_10, i6 (IntKind.i64.wrap (r_3.1.Rear - r_3.1.Front))] ⟨[(C_bk_Drum r_4.2), (C_Float r_3.1), [i6 b_8, i6 b_9], [i6 b_10, i6 b_11], [i6 b_12, i6 b_13], [i6 b_14, i6 b_15], (flat (w_16.map (AV.int .i64))), (C_Span r_81.1), (C_Span r_82.1), (C_Span r_82.2.1)], []⟩ = some (v_br2_Down r_114, none) ∧ X 21 [i6 b_11, i6 (IntKind.i64.wrap (r_3.1.Rear - r_3.1.Front))] ⟨[(C_bk_Drum r_4.2), (C_Float r_3.1), [i6 b_8, i6 b_9], [i6 b_10, i6 b_11], [i6 b_12, i6 b_13], [i6 b_14, i6 b_15], (flat (w_16.map (AV.int .i64))), (C_Span r_81.1), (C_Span r_82.1), (C_Span r_82.2.1)], []⟩ = some (v_br2_Up r_115, none) ∧ X 19 [i6 r_114, i6 r_115] ⟨[(C_bk_Drum r_4.2), (C_Float r_3.1), [i6 b_8, i6 b_9], [i6 b_10, i6 b_11], [i6 b_12, i6 b_13], [i6 b_14, i6 b_15], (flat (w_16.map (AV.int .i64))), (C_Span r_81.1), (C_Span r_82.1), (C_Span r_82.2.1)], []⟩ = some (v_bl2_span r_116, none) := ⟨_, tabO_ok hT_125.1, tabO_pure hT_125.2 0 _ [i6 b_10, i6 (IntKind.i64.wrap (r_3.1.Rear - r_3.1.Front))] _ rfl rfl rfl rfl (by simp; try rfl) (fun _ => b_br2_Down _ _ _ _), tabO_pure hT_125.2 1 _ [i6 b_11, i6 (IntKind.i64.wrap (r_3.1.Rear - r_3.1.Front))] _ rfl rfl rfl rfl (by simp; try rfl) (fun _ => b_br2_Up _ _ _ _), tabO_pure hT_125.2 2 _ [i6 r_114, i6 r_115] _ rfl rfl rfl rfl (by simp; try rfl) (fun _ => b_bl2_span _ _ _ _)⟩
      refine dregX hX_124 [(4, .cl (v_br2_Down r_114)), (8, .cl (v_br2_Up r_115)), (9, .cl (v_bl2_span r_116)), (11, .eq (.bool false))] [] [2] [X_124 20 [i6 b_10, i6 (IntKind.i64.wrap (r_3.1.Rear - r_3.1.Front))] ⟨[(C_bk_Drum r_4.2), (C_Float r_3.1), [i6 b_8, i6 b_9], [i6 b_10, i6 b_11], [i6 b_12, i6 b_13], [i6 b_14, i6 b_15], (flat (w_16.map (AV.int .i64))), (C_Span r_81.1), (C_Span r_82.1), (C_Span r_82.2.1)], []⟩ = some (v_br2_Down r_114, none), X_124 21 [i6 b_11, i6 (IntKind.i64.wrap (r_3.1.Rear - r_3.1.Front))] ⟨[(C_bk_Drum r_4.2), (C_Float r_3.1), [i6 b_8, i6 b_9], [i6 b_10, i6 b_11], [i6 b_12, i6 b_13], [i6 b_14, i6 b_15], (flat (w_16.map (AV.int .i64))), (C_Span r_81.1), (C_Span r_82.1), (C_Span r_82.2.1)], []⟩ = some (v_br2_Up r_115, none), X_124 19 [i6 r_114, i6 r_115] ⟨[(C_bk_Drum r_4.2), (C_Float r_3.1), [i6 b_8, i6 b_9], [i6 b_10, i6 b_11], [i6 b_12, i6 b_13], [i6 b_14, i6 b_15], (flat (w_16.map (AV.int .i64))), (C_Span r_81.1), (C_Span r_82.1), (C_Span r_82.2.1)], []⟩ = some (v_bl2_span r_116, none), AV.bool ((r_82.1.Lo == r_116.Lo) && ((r_82.1.Hi == r_116.Hi) && true)) = AV.bool false] [] (mkS 238 [(7, i6 (IntKind.i64.wrap (r_3.1.Rear - r_3.1.Front))), (9, .ptr 3 0), (10, .ptr 4 0), (20, .ptr 8 0), (21, .ptr 9 0), (211, (A_Span r_82.1)), (212, .ptr 3 0), (213, i6 b_10), (214, i6 (IntKind.i64.wrap (r_3.1.Rear - r_3.1.Front))), (215, i6 r_114), (216, .ptr 3 1), (217, i6 b_11), (218, i6 (IntKind.i64.wrap (r_3.1.Rear - r_3.1.Front))), (219, i6 r_115), (220, (A_Span r_116)), (221, .bool ((r_82.1.Lo == r_116.Lo) && ((r_82.1.Hi == r_116.Hi) && true))), (222, .bool false), (223, .tup []), (224, .tup []), (225, .tup []), (226, .tup []), (227, .tup []), (228, .tup []), (229, .tup []), (230, .tup []), (231, .tup []), (232, .tup [])]) (mkS 238 [(2, .bool false)]) (by kernel_rfl) (by kernel_rfl) ⟨hcl_126, hcl_127, hcl_128, congrArg AV.bool hc_117, trivial⟩ (by kernel_rfl) trivial ?_
      refine Ex.ret ?_
      obtain rfl := sJ h
      exact rt (.bool false)
end Go.Proofs.Ytodhdfkefkkdnaa
end
section
namespace Go.Proofs.Ytodhdfkefkkdnaa
open Go.RowKit

def InT : List T_Load → List Int → List Int → Prop
 | [], [], [] => True
 | l :: ls, k :: ks, t :: ts => (l.Kilos.Lo ≤ k ∧ k ≤ l.Kilos.Hi ∧ l.Top.Lo ≤ t ∧ t ≤ l.Top.Hi) ∧ InT ls ks ts
 | _, _, _ => False
def loK (ls : List T_Load) : List Int := ls.map fun l => l.Kilos.Lo
def hiK (ls : List T_Load) : List Int := ls.map fun l => l.Kilos.Hi
def loT (ls : List T_Load) : List Int := ls.map fun l => l.Top.Lo
def hiT (ls : List T_Load) : List Int := ls.map fun l => l.Top.Hi
theorem ints_p (N : Nat) (l : List Int) (h : l.length ≤ 100) : p_bk_Ints N l = some l := by
 unfold p_bk_Ints
 rw [pushI_ok (by simp; omega), Option.bind_some]
 rfl
def six : Nat → Nat
 | 0 => 1
 | n + 1 => 6 * six n
structure AllT (ls : List T_Load) (tk tt : List Int) (L : List T_br2_Truth) : Prop where
 ok : ∀ x ∈ L, ∃ ks ts, x = ⟨tk ++ ks, tt ++ ts⟩ ∧ InT ls ks ts
 lo : (⟨tk ++ loK ls, tt ++ loT ls⟩ : T_br2_Truth) ∈ L
 hi : (⟨tk ++ hiK ls, tt ++ hiT ls⟩ : T_br2_Truth) ∈ L
 n : L.length ≤ six ls.length
structure Some2 (l : T_Load) (ls : List T_Load) (tk tt : List Int) (c : Nat) (done : Int → Int → Prop) (L : List T_br2_Truth) : Prop where
 ok : ∀ x ∈ L, ∃ ks ts, x = ⟨tk ++ ks, tt ++ ts⟩ ∧ InT (l :: ls) ks ts
 lo : ∀ k t, done k t → (⟨tk ++ k :: loK ls, tt ++ t :: loT ls⟩ : T_br2_Truth) ∈ L
 hi : ∀ k t, done k t → (⟨tk ++ k :: hiK ls, tt ++ t :: hiT ls⟩ : T_br2_Truth) ∈ L
 n : L.length ≤ c * six ls.length
theorem six_le (n m : Nat) (h : n ≤ m) : six n ≤ six m := by
 induction h with
 | refl => exact Nat.le_refl _
 | step _ ih => exact Nat.le_trans ih (by show _ ≤ 6 * six _; omega)
theorem truths_p (f : T_Float) (hn : f.Loads.length ≤ 3) (hall : ∀ l ∈ f.Loads, LdOk f.Front f.Rear l ∧ LdSmall l) : ∀ (ls : List T_Load) (ps : List T_Load) (N : Nat) (tk tt : List Int) (out : List T_br2_Truth), f.Loads = ps ++ ls → tk.length = ps.length → tt.length = ps.length → ls.length + 10 < N → out.length ≤ 400 * ps.length → ∃ L, p_bl2_truthsg N f ⟨tk, tt⟩ out = some (out ++ L) ∧ AllT ls tk tt L
 | [], ps, 0, tk, tt, out, hf, hk, ht, hN, ho => absurd hN (by omega)
 | [], ps, N + 1, tk, tt, out, hf, hk, ht, hN, ho => by
  have hpl : f.Loads.length = ps.length := by rw [hf]; simp
  refine ⟨[⟨tk, tt⟩], ?_, ⟨?_, by simp [loK, loT], by simp [hiK, hiT], by simp [six]⟩⟩
  ·rw [p_bl2_truthsg]
   try dsimp only
   rw [show ((((tk.length : Nat) : Int)) == ((f.Loads.length : Nat) : Int)) = true by rw [hf]; simp [hk], cond_true, pushI_ok (by simp; omega), Option.bind_some]
  ·intro x hx
   have : x = ⟨tk, tt⟩ := by simpa using hx
   subst this
   exact ⟨[], [], by simp, trivial⟩
 | l :: ls, ps, 0, tk, tt, out, hf, hk, ht, hN, ho => absurd hN (by omega)
 | l :: ls, ps, N + 1, tk, tt, out, hf, hk, ht, hN, ho => by
  have hlen : f.Loads.length = ps.length + (ls.length + 1) := by rw [hf]; simp
  have hm : l ∈ f.Loads := by rw [hf]; simp
  obtain ⟨h1, h2⟩ := hall l hm
  have k1 := h1.k1; have k2 := h1.k2; have k3 := h1.k3; have t1 := h1.t1; have t2 := h1.t2; have t3 := h1.t3
  have q1 := h2.k; have q2 := h2.t
  have s6 : six ls.length ≤ 36 := six_le _ 2 (by omega)
  rw [p_bl2_truthsg]
  try dsimp only
  rw [show ((((tk.length : Nat) : Int)) == ((f.Loads.length : Nat) : Int)) = false by rw [hlen, hk]; simp; omega, cond_false, show getI f.Loads ((tk.length : Nat) : Int) = some l by rw [getI_nat, hf, hk]; simp, Option.bind_some, letJ_eq]
  refine loop2_T (fun (r : Option (List T_br2_Truth)) => ∃ L, r = some (out ++ L) ∧ AllT (l :: ls) tk tt L) (fun o k => ∃ (j : Nat) (L : List T_br2_Truth), k = l.Kilos.Lo + j ∧ k ≤ l.Kilos.Hi + 1 ∧ o = out ++ L ∧ Some2 l ls tk tt (2 * j) (fun k' t' => l.Kilos.Lo ≤ k' ∧ k' < k ∧ l.Top.Lo ≤ t' ∧ t' ≤ l.Top.Hi) L) (fun o k => (l.Kilos.Hi + 1 - k).toNat) ?_ N out l.Kilos.Lo ⟨0, [], by omega, by omega, by simp, ⟨by simp, fun _ _ h => by omega, fun _ _ h => by omega, by simp⟩⟩ (by omega)
  rintro rec o k ⟨j, L, hkj, hk1, rfl, hS⟩ ih
  by_cases hc : k ≤ l.Kilos.Hi
  ·rw [show decide (k ≤ l.Kilos.Hi) = true from decide_eq_true hc, cond_true, letJ_eq]
   refine loop2_T (fun (r : Option (List T_br2_Truth)) => ∃ L, r = some (out ++ L) ∧ AllT (l :: ls) tk tt L) (fun o t => ∃ (i : Nat) (L : List T_br2_Truth), t = l.Top.Lo + i ∧ t ≤ l.Top.Hi + 1 ∧ o = out ++ L ∧ Some2 l ls tk tt (2 * j + i) (fun k' t' => l.Kilos.Lo ≤ k' ∧ l.Top.Lo ≤ t' ∧ (k' < k ∧ t' ≤ l.Top.Hi ∨ k' = k ∧ t' < t)) L) (fun o t => (l.Top.Hi + 1 - t).toNat) ?_ N (out ++ L) l.Top.Lo ⟨0, L, by omega, by omega, rfl, ⟨hS.ok, fun _ _ h => hS.lo _ _ (by omega), fun _ _ h => hS.hi _ _ (by omega), hS.n⟩⟩ (by omega)
   rintro rec2 o t ⟨i, L2, hti, ht1, rfl, hS2⟩ ih2
   by_cases hc2 : t ≤ l.Top.Hi
   ·have hb : (2 * j + i) * six ls.length ≤ 10 * 36 := Nat.mul_le_mul (by omega) s6
    have hL2 := hS2.n
    rw [show decide (t ≤ l.Top.Hi) = true from decide_eq_true hc2, cond_true, ints_p N tk (by omega), Option.bind_some, pushI_ok (by simp; omega), Option.bind_some, ints_p N tt (by omega), Option.bind_some, pushI_ok (by simp; omega), Option.bind_some]
    obtain ⟨L3, e3, h3⟩ := truths_p f hn hall ls (ps ++ [l]) N (tk ++ [k]) (tt ++ [t]) (out ++ L2) (by rw [hf]; simp) (by simp [hk]) (by simp [ht]) (by simp at hN; omega) (by simp; omega)
    rw [e3, Option.bind_some, w64 (x := t + 1) (by omega) (by omega), List.append_assoc]
    refine ih2 _ _ ⟨i + 1, L2 ++ L3, by omega, by omega, rfl, ⟨?_, ?_, ?_, ?_⟩⟩ (by omega)
    ·intro x hx
     rcases List.mem_append.1 hx with hx | hx
     ·exact hS2.ok x hx
     ·obtain ⟨ks, ts, rfl, hin⟩ := h3.ok x hx
      exact ⟨k :: ks, t :: ts, by simp, ⟨by omega, hin⟩⟩
    ·intro k' t' hd
     by_cases he : k' = k ∧ t' = t
     ·obtain ⟨rfl, rfl⟩ := he
      have := h3.lo
      simp only [List.append_assoc, List.singleton_append] at this
      exact List.mem_append.2 (.inr this)
     ·exact List.mem_append.2 (.inl (hS2.lo k' t' (by omega)))
    ·intro k' t' hd
     by_cases he : k' = k ∧ t' = t
     ·obtain ⟨rfl, rfl⟩ := he
      have := h3.hi
      simp only [List.append_assoc, List.singleton_append] at this
      exact List.mem_append.2 (.inr this)
     ·exact List.mem_append.2 (.inl (hS2.hi k' t' (by omega)))
    ·have := h3.n
     rw [List.length_append, show 2 * j + (i + 1) = (2 * j + i) + 1 by omega, Nat.add_mul, Nat.one_mul]
     omega
   ·rw [show decide (t ≤ l.Top.Hi) = false from decide_eq_false hc2, cond_false, w64 (x := k + 1) (by omega) (by omega)]
    refine ih _ _ ⟨j + 1, L2, by omega, by omega, rfl, ⟨hS2.ok, fun _ _ h => hS2.lo _ _ (by omega), fun _ _ h => hS2.hi _ _ (by omega), Nat.le_trans hS2.n (Nat.mul_le_mul_right _ (by omega))⟩⟩ (by omega)
  ·rw [show decide (k ≤ l.Kilos.Hi) = false from decide_eq_false hc, cond_false]
   refine ⟨L, rfl, hS.ok, hS.lo l.Kilos.Lo l.Top.Lo ⟨Int.le_refl _, by omega, Int.le_refl _, by omega⟩, hS.hi l.Kilos.Hi l.Top.Hi ⟨by omega, by omega, by omega, Int.le_refl _⟩, ?_⟩
   show L.length ≤ 6 * six ls.length
   exact Nat.le_trans hS.n (Nat.mul_le_mul_right _ (by omega))
end Go.Proofs.Ytodhdfkefkkdnaa
end
section
namespace Go.Proofs.Ytodhdfkefkkdnaa
open Go.RowKit

def wk (g : T_Load → Int) : List T_Load → List Int → Int
 | l :: ls, k :: ks => k * g l + wk g ls ks
 | _, _ => 0
theorem wk_map (g h : T_Load → Int) : ∀ ls, wk g ls (ls.map h) = (ls.map fun l => h l * g l).sum
 | [] => rfl
 | l :: ls => by
  simp only [List.map_cons, List.sum_cons, wk, wk_map g h ls]
theorem wk_bnd (g : T_Load → Int) : ∀ (ls : List T_Load) (ks : List Int), ks.length = ls.length → (∀ l ∈ ls, 0 ≤ g l ∧ g l ≤ 3000) → (∀ k ∈ ks, 0 ≤ k ∧ k ≤ 100000) → 0 ≤ wk g ls ks ∧ wk g ls ks ≤ 300000000 * (ls.length : Int)
 | [], [], _, _, _ => by simp [wk]
 | [], _ :: _, h, _, _ => by simp at h
 | _ :: _, [], h, _, _ => by simp at h
 | l :: ls, k :: ks, h, hg, hk => by
  have i := wk_bnd g ls ks (by simpa using h) (fun x hx => hg x (by simp [hx])) (fun x hx => hk x (by simp [hx]))
  obtain ⟨a, b⟩ := hg l (by simp)
  obtain ⟨c, d⟩ := hk k (by simp)
  have m := mulB (A := 100000) (B := 3000) c d a b
  simp only [wk, List.length_cons]
  omega
theorem wk_drop (g : T_Load → Int) (ls : List T_Load) (ks : List Int) (j : Nat) (h : j < ls.length) (h2 : j < ks.length) : wk g (ls.drop j) (ks.drop j) = ks[j] * g ls[j] + wk g (ls.drop (j + 1)) (ks.drop (j + 1)) := by
 rw [List.drop_eq_getElem_cons h, List.drop_eq_getElem_cons h2]
 rfl
theorem inT_len : ∀ (ls : List T_Load) (ks ts : List Int), InT ls ks ts → ks.length = ls.length ∧ ts.length = ls.length
 | [], [], [], _ => ⟨rfl, rfl⟩
 | l :: ls, k :: ks, t :: ts, h => by
  have := inT_len ls ks ts h.2
  simp only [List.length_cons]
  omega
 | [], _ :: _, _, h => h.elim
 | [], [], _ :: _, h => h.elim
 | _ :: _, [], _, h => h.elim
 | _ :: _, _ :: _, [], h => h.elim
theorem inT_k (P : T_Load → Prop) (hP : ∀ l, P l → 0 ≤ l.Kilos.Lo ∧ l.Kilos.Hi ≤ 100000) : ∀ (ls : List T_Load) (ks ts : List Int), InT ls ks ts → (∀ l ∈ ls, P l) → ∀ k ∈ ks, 0 ≤ k ∧ k ≤ 100000
 | [], [], [], _, _ => by simp
 | l :: ls, k :: ks, t :: ts, h, hl => by
  have i := inT_k P hP ls ks ts h.2 fun x hx => hl x (by simp [hx])
  have := hP l (hl l (by simp))
  have := h.1
  intro x hx
  rcases List.mem_cons.1 hx with rfl | hx
  ·omega
  ·exact i x hx
 | [], _ :: _, _, h, _ => h.elim
 | [], [], _ :: _, h, _ => h.elim
 | _ :: _, [], _, h, _ => h.elim
 | _ :: _, _ :: _, [], h, _ => h.elim
theorem wk_mono (g : T_Load → Int) : ∀ (ls : List T_Load) (ks ts : List Int), InT ls ks ts → (∀ l ∈ ls, 0 ≤ g l) → wk g ls (loK ls) ≤ wk g ls ks ∧ wk g ls ks ≤ wk g ls (hiK ls)
 | [], [], [], _, _ => ⟨Int.le_refl _, Int.le_refl _⟩
 | l :: ls, k :: ks, t :: ts, h, hg => by
  have i := wk_mono g ls ks ts h.2 fun x hx => hg x (by simp [hx])
  obtain ⟨a, b, _⟩ := h.1
  have g0 := hg l (by simp)
  have m1 := Int.mul_le_mul_of_nonneg_right a g0
  have m2 := Int.mul_le_mul_of_nonneg_right b g0
  simp only [loK, hiK, List.map_cons, wk] at i ⊢
  omega
 | [], _ :: _, _, h, _ => h.elim
 | [], [], _ :: _, h, _ => h.elim
 | _ :: _, [], _, h, _ => h.elim
 | _ :: _, _ :: _, [], h, _ => h.elim
theorem sum_mono : ∀ (ls : List T_Load) (ks ts : List Int), InT ls ks ts → (loK ls).sum ≤ ks.sum ∧ ks.sum ≤ (hiK ls).sum
 | [], [], [], _ => ⟨Int.le_refl _, Int.le_refl _⟩
 | l :: ls, k :: ks, t :: ts, h => by
  have i := sum_mono ls ks ts h.2
  obtain ⟨a, b, _⟩ := h.1
  simp only [loK, hiK, List.map_cons, List.sum_cons] at i ⊢
  omega
 | [], _ :: _, _, h => h.elim
 | [], [], _ :: _, h => h.elim
 | _ :: _, [], _, h => h.elim
 | _ :: _, _ :: _, [], h => h.elim
theorem tal_mono : ∀ (ls : List T_Load) (ks ts : List Int) (a b c : Int), InT ls ks ts → a ≤ b → b ≤ c → talL (loT ls) a ≤ talL ts b ∧ talL ts b ≤ talL (hiT ls) c
 | [], [], [], a, b, c, _, h1, h2 => ⟨h1, h2⟩
 | l :: ls, k :: ks, t :: ts, a, b, c, h, h1, h2 => by
  obtain ⟨_, _, p, q⟩ := h.1
  exact tal_mono ls ks ts (if l.Top.Lo > a then l.Top.Lo else a) (if t > b then t else b) (if l.Top.Hi > c then l.Top.Hi else c) h.2 (by split <;> split <;> omega) (by split <;> split <;> omega)
 | [], _ :: _, _, _, _, _, h, _, _ => h.elim
 | [], [], _ :: _, _, _, _, h, _, _ => h.elim
 | _ :: _, [], _, _, _, _, h, _, _ => h.elim
 | _ :: _, _ :: _, [], _, _, _, h, _, _ => h.elim
def frK (f : T_Float) (ks : List Int) : Int := f.Kilos * (f.Rear - f.Middle) + wk (fun l => f.Rear - l.At) f.Loads ks
def reK (f : T_Float) (ks : List Int) : Int := f.Kilos * (f.Middle - f.Front) + wk (fun l => l.At - f.Front) f.Loads ks
section
variable (f : T_Float) (h : FlOk f)
include h
theorem gR : ∀ l ∈ f.Loads, 0 ≤ f.Rear - l.At ∧ f.Rear - l.At ≤ 3000 := fun l hl => by
 have := h.l2; have := h.f1; have := h.f2; have := h.f3
 have a1 := (h.all l hl).a1; have a2 := (h.all l hl).a2
 omega
theorem gF : ∀ l ∈ f.Loads, 0 ≤ l.At - f.Front ∧ l.At - f.Front ≤ 3000 := fun l hl => by
 have := h.l2; have := h.f1; have := h.f2; have := h.f3
 have a1 := (h.all l hl).a1; have a2 := (h.all l hl).a2
 omega
theorem inK (ks ts : List Int) (hi : InT f.Loads ks ts) : ∀ k ∈ ks, 0 ≤ k ∧ k ≤ 100000 :=
 inT_k (fun l => LdOk f.Front f.Rear l) (fun l o => ⟨o.k1, o.k3⟩) f.Loads ks ts hi h.all
omit h in
theorem inLo : ∀ (ls : List T_Load), (∀ l ∈ ls, LdOk f.Front f.Rear l) → InT ls (loK ls) (loT ls) ∧ InT ls (hiK ls) (hiT ls)
 | [], _ => ⟨trivial, trivial⟩
 | l :: ls, hl => by
  have i := inLo ls fun x hx => hl x (by simp [hx])
  have o := hl l (by simp)
  exact ⟨⟨⟨Int.le_refl _, o.k2, Int.le_refl _, o.t2⟩, i.1⟩, ⟨⟨o.k2, Int.le_refl _, o.t2, Int.le_refl _⟩, i.2⟩⟩
theorem frK_bnd (ks : List Int) (hl : ks.length = f.Loads.length) (hk : ∀ k ∈ ks, 0 ≤ k ∧ k ≤ 100000) : (-6600000000 ≤ frK f ks ∧ frK f ks ≤ 6600000000) ∧ (-6600000000 ≤ reK f ks ∧ reK f ks ≤ 6600000000) := by
 have := h.l2; have := h.f1; have := h.f2; have := h.f3; have := h.m1; have := h.m2; have := h.n
 have q1 := mulS (A := 100000) (B := 3000) h.k1 h.k2 (show -3000 ≤ f.Rear - f.Middle by omega) (show f.Rear - f.Middle ≤ 3000 by omega)
 have q2 := mulS (A := 100000) (B := 3000) h.k1 h.k2 (show -3000 ≤ f.Middle - f.Front by omega) (show f.Middle - f.Front ≤ 3000 by omega)
 have b1 := wk_bnd _ f.Loads ks hl (gR f h) hk
 have b2 := wk_bnd _ f.Loads ks hl (gF f h) hk
 unfold frK reK
 omega
theorem carriesK (N : Nat) (ks ts : List Int) (hl : ks.length = f.Loads.length) (hk : ∀ k ∈ ks, 0 ≤ k ∧ k ≤ 100000) (hN : 40 < N) : p_br2_Carries N f ⟨ks, ts⟩ = some (frK f ks, reK f ks) := by
 have hn := h.n
 have := h.l2; have := h.f1; have := h.f2; have := h.f3; have := h.m1; have := h.m2; have := h.k1; have := h.k2
 have q1 := mulS (A := 100000) (B := 3000) h.k1 h.k2 (show -3000 ≤ f.Rear - f.Middle by omega) (show f.Rear - f.Middle ≤ 3000 by omega)
 have q2 := mulS (A := 100000) (B := 3000) h.k1 h.k2 (show -3000 ≤ f.Middle - f.Front by omega) (show f.Middle - f.Front ≤ 3000 by omega)
 have t1 := wk_bnd _ f.Loads ks hl (gR f h) hk
 have t2 := wk_bnd _ f.Loads ks hl (gF f h) hk
 have hR := gR f h
 have hF := gF f h
 unfold p_br2_Carries frK reK
 rw [letJ_eq, w64 (x := f.Rear - f.Middle) (by omega) (by omega), w64 (x := f.Middle - f.Front) (by omega) (by omega), w64 (x := f.Kilos * (f.Rear - f.Middle)) (by omega) (by omega), w64 (x := f.Kilos * (f.Middle - f.Front)) (by omega) (by omega)]
 generalize f.Kilos * (f.Rear - f.Middle) = c1 at q1
 generalize f.Kilos * (f.Middle - f.Front) = c2 at q2
 have hb : ∀ (g : T_Load → Int), (∀ l ∈ f.Loads, 0 ≤ g l ∧ g l ≤ 3000) → ∀ j, j ≤ f.Loads.length → 0 ≤ wk g (f.Loads.drop j) (ks.drop j) ∧ wk g (f.Loads.drop j) (ks.drop j) ≤ 6300000000 := by
  intro g hg j hj
  have := wk_bnd g (f.Loads.drop j) (ks.drop j) (by simp [hl]) (fun l hl => hg l (List.mem_of_mem_drop hl)) (fun k hk' => hk k (List.mem_of_mem_drop hk'))
  rw [List.length_drop] at this
  omega
 have e1 : ∀ g, wk g f.Loads ks = wk g f.Loads ks - wk g (f.Loads.drop f.Loads.length) (ks.drop f.Loads.length) := by
  intro g
  rw [List.drop_length]
  show _ = wk g f.Loads ks - wk g [] (ks.drop f.Loads.length)
  simp [wk]
 rw [e1 (fun l => f.Rear - l.At), e1 (fun l => l.At - f.Front)]
 refine loop3_T (fun (x : Option (Int × Int)) => x = some (c1 + (wk (fun l => f.Rear - l.At) f.Loads ks - wk (fun l => f.Rear - l.At) (f.Loads.drop f.Loads.length) (ks.drop f.Loads.length)), c2 + (wk (fun l => l.At - f.Front) f.Loads ks - wk (fun l => l.At - f.Front) (f.Loads.drop f.Loads.length) (ks.drop f.Loads.length)))) (fun a b i => ∃ j : Nat, i = (j : Int) ∧ j ≤ f.Loads.length ∧ a = c1 + (wk (fun l => f.Rear - l.At) f.Loads ks - wk (fun l => f.Rear - l.At) (f.Loads.drop j) (ks.drop j)) ∧ b = c2 + (wk (fun l => l.At - f.Front) f.Loads ks - wk (fun l => l.At - f.Front) (f.Loads.drop j) (ks.drop j))) (fun a b i => f.Loads.length - i.toNat) ?_ N c1 c2 0 ⟨0, rfl, by omega, by simp, by simp⟩ (by simp; omega)
 rintro rec a b i ⟨j, rfl, hj, rfl, rfl⟩ ih
 try dsimp only
 rw [hl]
 by_cases hlt : j < f.Loads.length
 ·have hx : f.Loads[j]? = some f.Loads[j] := List.getElem?_eq_getElem hlt
  obtain ⟨e1, e2, e3, e4⟩ := lt_dec hx
  have hlt2 : j < ks.length := by omega
  have e5 : getI ks (j : Int) = some ks[j] := by rw [getI_nat]; exact List.getElem?_eq_getElem hlt2
  obtain ⟨g0, g1⟩ := hk _ (List.getElem_mem hlt2)
  have r0 := hR _ e3
  have f0 := hF _ e3
  have b1 := hb _ hR j hj
  have b2 := hb _ hR (j + 1) hlt
  have b3 := hb _ hF j hj
  have b4 := hb _ hF (j + 1) hlt
  have m1 := mulB (A := 100000) (B := 3000) g0 g1 r0.1 r0.2
  have m2 := mulB (A := 100000) (B := 3000) g0 g1 f0.1 f0.2
  have d1 := wk_drop (fun l => f.Rear - l.At) f.Loads ks j hlt hlt2
  have d2 := wk_drop (fun l => l.At - f.Front) f.Loads ks j hlt hlt2
  try dsimp only at d1 d2
  simp only [e1, cond_true, e2, e5, Option.bind_some]
  rw [w64 (x := f.Rear - (f.Loads[j]).At) (by omega) (by omega), w64 (x := (f.Loads[j]).At - f.Front) (by omega) (by omega), w64 (x := ks[j] * (f.Rear - (f.Loads[j]).At)) (by omega) (by omega), w64 (x := ks[j] * ((f.Loads[j]).At - f.Front)) (by omega) (by omega), nat_add1 j (by omega), w64 (x := c1 + _ + ks[j] * (f.Rear - (f.Loads[j]).At)) (by omega) (by omega), w64 (x := c2 + _ + ks[j] * ((f.Loads[j]).At - f.Front)) (by omega) (by omega)]
  exact ih _ _ _ ⟨j + 1, rfl, hlt, by omega, by omega⟩ (by omega)
 ·have : j = f.Loads.length := by omega
  subst this
  rw [len_dec, cond_false]
theorem goesK (N : Nat) (hN : 22000 < N) (x : T_Hurdle) (hh : HuOk x) : ∃ G : List Int → List Int → Bool, (∀ ks ts, InT f.Loads ks ts → p_br2_Goes N f x ⟨ks, ts⟩ = some (G ks ts)) ∧ ∀ ks ts, InT f.Loads ks ts → (G (hiK f.Loads) (hiT f.Loads) = true → G ks ts = true) ∧ (G ks ts = true → G (loK f.Loads) (loT f.Loads) = true) := by
 have hn := h.n
 rcases hh with ⟨e, a, b, c⟩ | ⟨e, a, b, c⟩ | ⟨e, a, b, c, d⟩
 ·obtain ⟨z, ez, h0, h1⟩ := endsOf_p N f hn (by omega)
  obtain ⟨y, e1, e2⟩ := bend_g N hN f h z.a0 h0.e x a b c
  refine ⟨fun _ _ => y, fun ks ts hi => ?_, fun ks ts hi => ⟨id, id⟩⟩
  unfold p_br2_Goes
  rw [e, show ((1 : Int) == 1) = true from rfl, cond_true]
  exact e2
 ·refine ⟨fun ks ts => decide (talL ts f.High ≤ x.A), fun ks ts hi => ?_, fun ks ts hi => ?_⟩
  ·obtain ⟨l1, l2⟩ := inT_len _ _ _ hi
   unfold p_br2_Goes
   rw [e, show ((2 : Int) == 1) = false from rfl, cond_false, show ((2 : Int) == 2) = true from rfl, cond_true, tall_p N f _ (by show ts.length ≤ 30; omega) (by omega)]
   rfl
  ·obtain ⟨m1, m2⟩ := tal_mono f.Loads ks ts f.High f.High f.High hi (Int.le_refl _) (Int.le_refl _)
   simp only [decide_eq_true_eq]
   omega
 ·have := h.l2; have := h.f1; have := h.f2; have := h.f3
  have m := mulB (A := 10000000) (B := 3000) c d (show 0 ≤ f.Rear - f.Front by omega) (by omega)
  refine ⟨fun ks ts => decide (f.Kilos + ks.sum ≤ x.A) && (decide (frK f ks ≤ x.B * (f.Rear - f.Front)) && decide (reK f ks ≤ x.B * (f.Rear - f.Front))), fun ks ts hi => ?_, fun ks ts hi => ?_⟩
  ·obtain ⟨l1, l2⟩ := inT_len _ _ _ hi
   have hk := inK f h ks ts hi
   unfold p_br2_Goes
   rw [e, show ((3 : Int) == 1) = false from rfl, cond_false, show ((3 : Int) == 2) = false from rfl, cond_false, carriesK f h N ks ts l1 hk (by omega), weighs_p N f ⟨ks, ts⟩ 100000 (Int.le_refl _) h.k1 h.k2 hk (by show ks.length ≤ 30; omega) (by omega), w64 (x := f.Rear - f.Front) (by omega) (by omega), w64 (x := x.B * (f.Rear - f.Front)) (by omega) (by omega), Option.bind_some, Option.bind_some]
   dsimp only
   generalize f.Kilos + ks.sum = u
   generalize frK f ks = y
   generalize reK f ks = z
   cases decide (u ≤ x.A) <;> cases decide (y ≤ x.B * (f.Rear - f.Front)) <;> rfl
  ·have s := sum_mono f.Loads ks ts hi
   have w1 := wk_mono (fun l => f.Rear - l.At) f.Loads ks ts hi fun l hl => (gR f h l hl).1
   have w2 := wk_mono (fun l => l.At - f.Front) f.Loads ks ts hi fun l hl => (gF f h l hl).1
   have m1 : frK f (loK f.Loads) ≤ frK f ks ∧ frK f ks ≤ frK f (hiK f.Loads) := by unfold frK; omega
   have m2 : reK f (loK f.Loads) ≤ reK f ks ∧ reK f ks ≤ reK f (hiK f.Loads) := by unfold reK; omega
   clear w1 w2
   simp only [Bool.and_eq_true, decide_eq_true_eq]
   exact ⟨fun q => ⟨by omega, by omega, by omega⟩, fun q => ⟨by omega, by omega, by omega⟩⟩
def vdc (a b : Bool) : Int := bif a then 1 else bif b then 3 else 2
omit h in
theorem verdict_c (N : Nat) (a b : Bool) : p_verdict N a b = some (vdc a b) := by
 cases a <;> cases b <;> rfl
def upr (f : T_Float) (ks : List Int) : Bool := decide (0 ≤ frK f ks) && decide (0 ≤ reK f ks)
omit h in
theorem frK_w (g : T_Load → Int) : frK f (f.Loads.map g) = -(momW f.Rear (wsF f g f.Loads)) ∧ reK f (f.Loads.map g) = momW f.Front (wsF f g f.Loads) := by
 constructor
 ·rw [← front_eq, frK, wk_map]
  rfl
 ·rw [momW_eq, reK, wk_map]
  rfl
theorem fallE (N : Nat) (hN : 22000 < N) (h20 : f.Loads.length ≤ 20) : p_Total N f = some (⟨f.Kilos + (loK f.Loads).sum, f.Kilos + (hiK f.Loads).sum⟩, 0) ∧ p_Axles N f = some (⟨frK f (loK f.Loads) / (f.Rear - f.Front), -(-frK f (hiK f.Loads) / (f.Rear - f.Front))⟩, ⟨reK f (loK f.Loads) / (f.Rear - f.Front), -(-reK f (hiK f.Loads) / (f.Rear - f.Front))⟩, 0) ∧ p_Height N f = some (⟨talL (loT f.Loads) f.High, talL (hiT f.Loads) f.High⟩, 0) ∧ p_Stands N f = some (vdc (upr f (loK f.Loads)) (upr f (hiK f.Loads)), 0) := by
 have e1 := pCheck_t N f h h20 (by omega)
 have l2 := h.l2; have f1 := h.f1; have f2 := h.f2; have f3 := h.f3
 obtain ⟨z, ez, h0, h1⟩ := endsOf_p N f h.n (by omega)
 have w0 := (total_p N (by omega) z.a0 f h _ _ (gLo f h) h0).1
 have w1 := (total_p N (by omega) z.a1 f h _ _ (gHi f h) h1).1
 rw [total_eq] at w0 w1
 obtain ⟨o0, p0, p1⟩ := onFront_p N (by omega) z.a0 f h _ _ (gLo f h) h0
 obtain ⟨o1, p2, p3⟩ := onFront_p N (by omega) z.a1 f h _ _ (gHi f h) h1
 obtain ⟨o2, p4, p5⟩ := onRear_p N (by omega) z.a0 f h _ _ (gLo f h) h0
 obtain ⟨o3, p6, p7⟩ := onRear_p N (by omega) z.a1 f h _ _ (gHi f h) h1
 have g0 := height_p N (by omega) z.a0 f h _ _ h0
 have g1 := height_p N (by omega) z.a1 f h _ _ h1
 have s0 := stands_p N (by omega) z.a0 f h _ _ (gLo f h) h0
 have s1 := stands_p N (by omega) z.a1 f h _ _ (gHi f h) h1
 have hw : IntKind.i64.wrap (f.Rear - f.Front) = f.Rear - f.Front := w64 (by omega) (by omega)
 have hd : 0 < f.Rear - f.Front := by omega
 obtain ⟨a0, a1⟩ := frK_w f fun l => l.Kilos.Lo
 obtain ⟨a2, a3⟩ := frK_w f fun l => l.Kilos.Hi
 unfold upr loK hiK
 rw [a0, a1, a2, a3]
 generalize momW f.Rear (wsF f (fun l => l.Kilos.Lo) f.Loads) = m0 at *
 generalize momW f.Rear (wsF f (fun l => l.Kilos.Hi) f.Loads) = m1 at *
 generalize momW f.Front (wsF f (fun l => l.Kilos.Lo) f.Loads) = m2 at *
 generalize momW f.Front (wsF f (fun l => l.Kilos.Hi) f.Loads) = m3 at *
 have d0 := down_p N (-m0) _ hd (by omega) (by omega)
 have d1 := up_p N (-m1) _ hd (by omega) (by omega)
 have d2 := down_p N m2 _ hd (by omega) (by omega)
 have d3 := up_p N m3 _ hd (by omega) (by omega)
 refine ⟨?_, ?_, ?_, ?_⟩
 ·unfold p_Total
  rw [e1, Option.bind_some, bne_self_eq_false, cond_false, ez, Option.bind_some, w0, Option.bind_some, w1, Option.bind_some]
 ·unfold p_Axles
  rw [e1, Option.bind_some, bne_self_eq_false, cond_false, ez, Option.bind_some, o0, Option.bind_some, o1, Option.bind_some, hw, divided_eq, d0, Option.bind_some, d1, Option.bind_some, Option.bind_some, o2, Option.bind_some, o3, Option.bind_some, divided_eq, d2, Option.bind_some, d3, Option.bind_some, Option.bind_some]
 ·unfold p_Height
  rw [e1, Option.bind_some, bne_self_eq_false, cond_false, ez, Option.bind_some, g0, Option.bind_some, g1, Option.bind_some]
  rfl
 ·unfold p_Stands
  rw [e1, Option.bind_some, bne_self_eq_false, cond_false, ez, Option.bind_some, s0, Option.bind_some, s1, Option.bind_some, verdict_c, Option.bind_some]
  have q0 : decide (0 ≤ -m0) = decide (m0 ≤ 0) := by
   by_cases hc : m0 ≤ 0
   ·rw [decide_eq_true hc]; exact decide_eq_true (by omega)
   ·rw [decide_eq_false hc]; exact decide_eq_false (by omega)
  have q1 : decide (0 ≤ -m1) = decide (m1 ≤ 0) := by
   by_cases hc : m1 ≤ 0
   ·rw [decide_eq_true hc]; exact decide_eq_true (by omega)
   ·rw [decide_eq_false hc]; exact decide_eq_false (by omega)
  rw [q0, q1]
theorem passesE (N : Nat) (hN : 22000 < N) (h20 : f.Loads.length ≤ 20) (hs : List T_Hurdle) (hn : hs.length ≤ 40) (hh : ∀ x ∈ hs, HuOk x) (G : T_Hurdle → List Int → List Int → Bool) (hG : ∀ x ∈ hs, p_br2_Goes N f x ⟨hiK f.Loads, hiT f.Loads⟩ = some (G x (hiK f.Loads) (hiT f.Loads)) ∧ p_br2_Goes N f x ⟨loK f.Loads, loT f.Loads⟩ = some (G x (loK f.Loads) (loT f.Loads))) : p_Passes N f hs = some (hs.map fun x => vdc (G x (hiK f.Loads) (hiT f.Loads)) (G x (loK f.Loads) (loT f.Loads)), 0) := by
 obtain ⟨z, ez, h0, h1⟩ := endsOf_p N f h.n (by omega)
 unfold p_Passes
 rw [pcheckBoth_t N f h h20 hs hn hh (by omega), Option.bind_some, bne_self_eq_false, cond_false]
 unfold p_verdicts
 rw [ez, Option.bind_some, letJ_eq]
 generalize hV : (fun x => vdc (G x (hiK f.Loads) (hiT f.Loads)) (G x (loK f.Loads) (loT f.Loads))) = V
 have key : ∀ (K : Option (List Int)), K = some (hs.map V) → (K.bind fun r_5 => some (r_5, (0 : Int))) = some (hs.map V, 0) := fun K hK => by rw [hK]; rfl
 refine key _ ?_
 refine loop2_T (fun (r : Option (List Int)) => r = some (hs.map V)) (fun a i => ∃ j : Nat, i = (j : Int) ∧ j ≤ hs.length ∧ a = (hs.take j).map V) (fun a i => hs.length - i.toNat) ?_ N [] 0 ⟨0, rfl, by omega, rfl⟩ (by simp; omega)
 rintro rec a i ⟨j, rfl, hj, rfl⟩ ih
 by_cases hlt : j < hs.length
 ·have hx : hs[j]? = some hs[j] := List.getElem?_eq_getElem hlt
  obtain ⟨e1, e2, e3, e4⟩ := lt_dec hx
  obtain ⟨a, ea, ea2⟩ := goes_p N hN f h _ _ (gHi f h) z.a1 h1 hs[j] (hh _ e3)
  obtain ⟨b, eb, eb2⟩ := goes_p N hN f h _ _ (gLo f h) z.a0 h0 hs[j] (hh _ e3)
  have g1 := (hG _ e3).1
  have g2 := (hG _ e3).2
  have hab : a = G hs[j] (hiK f.Loads) (hiT f.Loads) := Option.some.inj (ea2.symm.trans g1)
  have hbb : b = G hs[j] (loK f.Loads) (loT f.Loads) := Option.some.inj (eb2.symm.trans g2)
  simp only [e1, cond_true, e2, Option.bind_some, ea, eb, verdict_c]
  rw [pushI_ok (by simp; omega), Option.bind_some, nat_add1 j (by omega)]
  refine ih _ _ ⟨j + 1, rfl, hlt, ?_⟩ (by omega)
  rw [List.take_succ_eq_append_getElem hlt, List.map_append, hab, hbb, ← hV]
  rfl
 ·have : j = hs.length := by omega
  subst this
  rw [len_dec, cond_false, List.take_length]
end
end Go.Proofs.Ytodhdfkefkkdnaa
end
section
namespace Go.Proofs.Ytodhdfkefkkdnaa
open Go.RowKit

theorem sumsB : ∀ (ls : List T_Load), (∀ l ∈ ls, 0 ≤ l.Kilos.Lo ∧ l.Kilos.Lo ≤ l.Kilos.Hi ∧ l.Kilos.Hi ≤ 900) → 0 ≤ (ls.map fun l => l.Kilos.Lo).sum ∧ (ls.map fun l => l.Kilos.Lo).sum ≤ (ls.map fun l => l.Kilos.Hi).sum ∧ (ls.map fun l => l.Kilos.Hi).sum ≤ 900 * (ls.length : Int)
 | [], _ => by simp
 | l :: ls, h => by
  have a := h l (by simp)
  have b := sumsB ls fun x hx => h x (by simp [hx])
  simp only [List.map_cons, List.sum_cons, List.length_cons]
  omega
theorem momLB (g : T_Load → Int) (p d : Int) : ∀ (ls : List T_Load), (∀ l ∈ ls, 0 ≤ g l ∧ g l ≤ 900 ∧ 0 ≤ l.At - p ∧ l.At - p ≤ d) → 0 ≤ momL g p ls ∧ momL g p ls ≤ 900 * d * (ls.length : Int)
 | [], _ => by simp [momL]
 | l :: ls, h => by
  obtain ⟨a, b, c, e⟩ := h l (by simp)
  have i := momLB g p d ls fun x hx => h x (by simp [hx])
  have m := mulB a b c e
  simp only [momL, List.map_cons, List.sum_cons, List.length_cons] at i ⊢
  rw [show ((ls.length + 1 : Nat) : Int) = (ls.length : Int) + 1 from rfl, Int.mul_add, Int.mul_one]
  omega
theorem momRB (g : T_Load → Int) (p d : Int) : ∀ (ls : List T_Load), (∀ l ∈ ls, 0 ≤ g l ∧ g l ≤ 900 ∧ 0 ≤ p - l.At ∧ p - l.At ≤ d) → 0 ≤ momR g p ls ∧ momR g p ls ≤ 900 * d * (ls.length : Int)
 | [], _ => by simp [momR]
 | l :: ls, h => by
  obtain ⟨a, b, c, e⟩ := h l (by simp)
  have i := momRB g p d ls fun x hx => h x (by simp [hx])
  have m := mulB a b c e
  simp only [momR, List.map_cons, List.sum_cons, List.length_cons] at i ⊢
  rw [show ((ls.length + 1 : Nat) : Int) = (ls.length : Int) + 1 from rfl, Int.mul_add, Int.mul_one]
  omega
theorem momL_le (g k : T_Load → Int) (p : Int) : ∀ (ls : List T_Load), (∀ l ∈ ls, g l ≤ k l ∧ 0 ≤ l.At - p) → momL g p ls ≤ momL k p ls
 | [], _ => Int.le_refl _
 | l :: ls, h => by
  obtain ⟨a, b⟩ := h l (by simp)
  have i := momL_le g k p ls fun x hx => h x (by simp [hx])
  have m := Int.mul_le_mul_of_nonneg_right a b
  simp only [momL, List.map_cons, List.sum_cons] at i ⊢
  omega
theorem du {a b d : Int} (hd : 0 < d) (h : a ≤ b) : a / d ≤ -(-b / d) := by
 have h1 := Int.ediv_mul_le a (show d ≠ 0 by omega)
 have h2 := Int.ediv_mul_le (-b) (show d ≠ 0 by omega)
 have q : a / d * d ≤ -(-b / d) * d := by
  rw [Int.neg_mul]
  omega
 exact Int.le_of_mul_le_mul_right q hd
section
variable (N : Nat) (hN : 50 < N) (f : T_Float) (h : FlMade f 5)
include hN h
theorem total_r : ∃ x, p_br2_Total N f = some (x, 0) ∧ 0 ≤ x.Lo ∧ x.Lo ≤ x.Hi ∧ x.Hi ≤ 9500 := by
 have hk := h.k; have hk0 := h.ok.k1; have hk1 := h.ok.k2; have hn := h.n
 have hs := sumsB f.Loads fun l hl => ⟨(h.ok.all l hl).k1, (h.ok.all l hl).k2, h.a l hl⟩
 obtain ⟨e1, e2⟩ := truth_p N f h.ok.n (by omega)
 refine ⟨⟨f.Kilos + (los f).sum, f.Kilos + (his f).sum⟩, ?_, ?_, ?_, ?_⟩
 ·unfold p_br2_Total
  rw [rCheck_t N f h.ok (by have := h.n; omega) (by omega), Option.bind_some, bne_self_eq_false, cond_false, e1, Option.bind_some, weighs_p N f _ 100000 (Int.le_refl _) hk0 hk1 (fun x hx => by
   obtain ⟨l, hl, rfl⟩ := List.mem_map.1 hx
   have a := h.ok.all l hl
   exact ⟨a.k1, Int.le_trans a.k2 a.k3⟩) (by simp [los]; omega) (by omega), Option.bind_some, e2, Option.bind_some, weighs_p N f _ 100000 (Int.le_refl _) hk0 hk1 (fun x hx => by
   obtain ⟨l, hl, rfl⟩ := List.mem_map.1 hx
   have a := h.ok.all l hl
   exact ⟨Int.le_trans a.k1 a.k2, a.k3⟩) (by simp [his]; omega) (by omega), Option.bind_some]
 ·show 0 ≤ f.Kilos + (los f).sum
  unfold los; omega
 ·show f.Kilos + (los f).sum ≤ f.Kilos + (his f).sum
  unfold los his; omega
 ·show f.Kilos + (his f).sum ≤ 9500
  unfold his; omega
theorem height_r : ∃ x, p_br2_Height N f = some (x, 0) ∧ 0 ≤ x.Lo ∧ x.Lo ≤ x.Hi ∧ x.Hi ≤ 2000 := by
 have hn := h.n
 obtain ⟨e1, e2⟩ := truth_p N f h.ok.n (by omega)
 have b1 := talL_le (tlos f) f.High 2000 h.ok.h2 fun x hx => by
  obtain ⟨l, hl, rfl⟩ := List.mem_map.1 hx
  have a := h.ok.all l hl
  exact Int.le_trans a.t2 a.t3
 have b2 := talL_le (this f) f.High 2000 h.ok.h2 fun x hx => by
  obtain ⟨l, hl, rfl⟩ := List.mem_map.1 hx
  exact (h.ok.all l hl).t3
 have h0 := h.ok.h1
 refine ⟨⟨talL (tlos f) f.High, talL (this f) f.High⟩, ?_, ?_, talL_mono f.Loads _ _ (Int.le_refl _) fun l hl => (h.ok.all l hl).t2, b2.2⟩
 ·unfold p_br2_Height
  rw [rCheck_t N f h.ok (by have := h.n; omega) (by omega), Option.bind_some, bne_self_eq_false, cond_false, e1, Option.bind_some, tall_p N f _ (by simp [tlos]; omega) (by omega), Option.bind_some, e2, Option.bind_some, tall_p N f _ (by simp [this]; omega) (by omega), Option.bind_some]
 ·show 0 ≤ talL (tlos f) f.High
  omega
theorem axles_r : ∃ x y, p_br2_Axles N f = some (x, y, 0) ∧ -6000000 ≤ y.Lo ∧ y.Lo ≤ y.Hi ∧ y.Hi ≤ 6004500 := by
 have hn := h.n
 have hk := h.k; have hk0 := h.ok.k1; have hl := h.l; have := h.ok.f1; have := h.ok.f2; have := h.ok.f3; have := h.ok.m1; have := h.ok.m2
 obtain ⟨e1, e2⟩ := truth_p N f h.ok.n (by omega)
 have gl : ∀ l ∈ f.Loads, 0 ≤ l.Kilos.Lo ∧ l.Kilos.Lo ≤ 900 ∧ 0 ≤ l.Kilos.Hi ∧ l.Kilos.Hi ≤ 900 ∧ l.Kilos.Lo ≤ l.Kilos.Hi ∧ 0 ≤ l.At - f.Front ∧ l.At - f.Front ≤ f.Rear - f.Front ∧ 0 ≤ f.Rear - l.At ∧ f.Rear - l.At ≤ f.Rear - f.Front := fun l hl => by
  have a := h.ok.all l hl
  have := a.k1; have := a.k2; have := h.a l hl; have := a.a1; have := a.a2
  omega
 have c1 := carries_p N f h.ok (fun l => l.Kilos.Lo) (fun l hl => by have := gl l hl; show 0 ≤ l.Kilos.Lo ∧ l.Kilos.Lo ≤ 100000; omega) (tlos f) (by omega)
 have c2 := carries_p N f h.ok (fun l => l.Kilos.Hi) (fun l hl => by have := gl l hl; show 0 ≤ l.Kilos.Hi ∧ l.Kilos.Hi ≤ 100000; omega) (Go.Proofs.Ytodhdfkefkkdnaa.this f) (by omega)
 have q1 := mulS (A := 5000) (B := 1200) hk0 hk (show -1200 ≤ f.Rear - f.Middle by omega) (show f.Rear - f.Middle ≤ 1200 by omega)
 have q2 := mulS (A := 5000) (B := 1200) hk0 hk (show -1200 ≤ f.Middle - f.Front by omega) (show f.Middle - f.Front ≤ 1200 by omega)
 have r1 := momRB (fun l => l.Kilos.Lo) f.Rear (f.Rear - f.Front) f.Loads fun l hl => by have := gl l hl; show 0 ≤ l.Kilos.Lo ∧ l.Kilos.Lo ≤ 900 ∧ _; omega
 have r2 := momRB (fun l => l.Kilos.Hi) f.Rear (f.Rear - f.Front) f.Loads fun l hl => by have := gl l hl; show 0 ≤ l.Kilos.Hi ∧ l.Kilos.Hi ≤ 900 ∧ _; omega
 have l1 := momLB (fun l => l.Kilos.Lo) f.Front (f.Rear - f.Front) f.Loads fun l hl => by have := gl l hl; show 0 ≤ l.Kilos.Lo ∧ l.Kilos.Lo ≤ 900 ∧ _; omega
 have l2 := momLB (fun l => l.Kilos.Hi) f.Front (f.Rear - f.Front) f.Loads fun l hl => by have := gl l hl; show 0 ≤ l.Kilos.Hi ∧ l.Kilos.Hi ≤ 900 ∧ _; omega
 have ll := momL_le (fun l => l.Kilos.Lo) (fun l => l.Kilos.Hi) f.Front f.Loads fun l hl => by have := gl l hl; show l.Kilos.Lo ≤ l.Kilos.Hi ∧ _; omega
 have md : 900 * (f.Rear - f.Front) * (f.Loads.length : Int) ≤ 4500 * (f.Rear - f.Front) := by
  have := Int.mul_le_mul_of_nonneg_left hn (show 0 ≤ 900 * (f.Rear - f.Front) by omega)
  omega
 have hw : IntKind.i64.wrap (f.Rear - f.Front) = f.Rear - f.Front := w64 (by omega) (by omega)
 have hd : 0 < f.Rear - f.Front := by omega
 unfold p_br2_Axles
 rw [rCheck_t N f h.ok (by have := h.n; omega) (by omega), Option.bind_some, bne_self_eq_false, cond_false, e1, Option.bind_some, show los f = f.Loads.map (fun l => l.Kilos.Lo) from rfl, c1, Option.bind_some, e2, Option.bind_some, show his f = f.Loads.map (fun l => l.Kilos.Hi) from rfl, c2, Option.bind_some, hw]
 dsimp only
 generalize f.Kilos * (f.Rear - f.Middle) = k1 at q1
 generalize f.Kilos * (f.Middle - f.Front) = k2 at q2
 generalize momR (fun l => l.Kilos.Lo) f.Rear f.Loads = a1 at r1
 generalize momR (fun l => l.Kilos.Hi) f.Rear f.Loads = a2 at r2
 generalize momL (fun l => l.Kilos.Lo) f.Front f.Loads = b1 at l1 ll
 generalize momL (fun l => l.Kilos.Hi) f.Front f.Loads = b2 at l2 ll
 generalize hD : f.Rear - f.Front = d at *
 rw [down_p N _ d hd (by omega) (by omega), Option.bind_some, up_p N _ d hd (by omega) (by omega), Option.bind_some, down_p N _ d hd (by omega) (by omega), Option.bind_some, up_p N _ d hd (by omega) (by omega), Option.bind_some]
 refine ⟨_, _, rfl, ?_, du hd (by omega), ?_⟩
 ·show -6000000 ≤ (k2 + b1) / d
  exact Int.le_ediv_of_mul_le hd (by omega)
 ·show -(-(k2 + b2) / d) ≤ 6004500
  have : -6004500 ≤ -(k2 + b2) / d := Int.le_ediv_of_mul_le hd (by omega)
  omega
end
theorem any4 {r : Int} {a b c d : Int} (h : r ∈ [a, b, c, d]) : r = a ∨ r = b ∨ r = c ∨ r = d := by simpa using h
theorem routeOf_p (N : Nat) (hN : 50 < N) (d : T_bk_Drum) (f : T_Float) (h : FlMade f 5) (n : Int) (n0 : 1 ≤ n) (n1 : n ≤ 30) : ∃ hs d', p_bk_RouteOf N d f n = some (hs, d') ∧ hs.length ≤ 40 ∧ ∀ x ∈ hs, HuOk x := by
 obtain ⟨x4, e4, a4, b4, c4⟩ := total_r N hN f h
 obtain ⟨x5, y5, e5, a5, b5, c5⟩ := axles_r N hN f h
 obtain ⟨x6, e6, a6, b6, c6⟩ := height_r N hN f h
 unfold p_bk_RouteOf
 rw [e4, Option.bind_some, e5, Option.bind_some, e6, Option.bind_some, w64 (x := n + 1) (by omega) (by omega)]
 obtain ⟨r7, d7, e, a7, c7, b7⟩ := roll_p N d (n + 1) (by omega)
 rw [e, Option.bind_some, letJ_eq]; clear e
 have b7 := b7 (by omega)
 refine loop3_T (fun (x : Option ((List T_Hurdle) × T_bk_Drum)) => ∃ hs d', x = some (hs, d') ∧ hs.length ≤ 40 ∧ ∀ x ∈ hs, HuOk x) (fun ls i b => 0 ≤ i ∧ (ls.length : Int) + i ≤ n ∧ ∀ l ∈ ls, HuOk l) (fun ls i b => i.toNat) ?_ N [] r7 _ ⟨a7, by simp; omega, by simp⟩ (by omega)
 rintro rec ls i b ⟨hi0, hi1, hall⟩ ih
 by_cases hc : i > 0
 ·rw [show decide (i > 0) = true from decide_eq_true hc, cond_true]
  obtain ⟨r20, d20, e, a20, b20, _⟩ := mid_p N ⟨b⟩ 1 3 (by omega) (by omega) (by omega) (by omega)
  rw [e, Option.bind_some]; clear e
  have b20 := b20 (by omega)
  have key : ∀ (b' x y : Int), HuOk ⟨r20, x, y⟩ → ∃ hs d', ((pushI ls ([(⟨r20, x, y⟩ : T_Hurdle)] : List T_Hurdle)).bind fun l_42 => (rec l_42 (IntKind.i64.wrap (i - 1)) b')) = some (hs, d') ∧ hs.length ≤ 40 ∧ ∀ x ∈ hs, HuOk x := by
   intro b' x y hu
   rw [pushI_ok (by simp; omega), Option.bind_some, w64 (x := i - 1) (by omega) (by omega)]
   refine ih _ _ _ ⟨by omega, by simp; omega, ?_⟩ (by omega)
   intro l hl
   rcases List.mem_append.1 hl with hl | hl
   ·exact hall l hl
   ·have : l = ⟨r20, x, y⟩ := by simpa using hl
    subst this
    exact hu
  rw [letJ_eq]
  dsimp only
  by_cases h1 : r20 = 1
  ·rw [show (r20 == 1) = true by simp [h1], cond_true]
   obtain ⟨r28, d28, e, a28, _, b28⟩ := roll_p N d20 2000 (by omega)
   rw [e, Option.bind_some]; clear e
   have b28 := b28 (by omega)
   obtain ⟨r29, d29, e, m29⟩ := any_p N d28 [0, r28] (by simp) (by simp)
   rw [e, Option.bind_some]; clear e
   have m29 : r29 = 0 ∨ r29 = r28 := by simpa using m29
   obtain ⟨r30, d30, e, m30⟩ := any_p N d29 [300, 2500] (by simp) (by simp)
   rw [e, Option.bind_some]; clear e
   have m30 : r30 = 300 ∨ r30 = 2500 := by simpa using m30
   obtain ⟨r31, d31, e, a31, b31, _⟩ := mid_p N d30 1 r30 (by omega) (by omega) (by omega) (by omega)
   rw [e, Option.bind_some]; clear e
   have b31 := b31 (by omega)
   dsimp only
   rw [w64 (x := r29 + r31) (by omega) (by omega)]
   exact key _ _ _ (.inl ⟨h1, by show 0 ≤ r29; omega, by show r29 < r29 + r31; omega, by show r29 + r31 ≤ 20000; omega⟩)
  ·rw [show (r20 == 1) = false by simp [h1], cond_false]
   by_cases h2 : r20 = 2
   ·rw [show (r20 == 2) = true by simp [h2], cond_true]
    obtain ⟨r34, d34, e, a34, b34⟩ := of_p N d20 x6 b6 (by omega) (by omega)
    rw [e, Option.bind_some]; clear e
    obtain ⟨r35, d35, e, m35⟩ := any_p N d34 [(-1), 0, 1, 50] (by simp) (by simp)
    rw [e, Option.bind_some]; clear e
    have m35 := any4 m35
    dsimp only
    rw [w64 (x := r34 + r35) (by omega) (by omega)]
    have hx : 0 ≤ (if (if r34 + r35 > 0 then r34 + r35 else 0) < 2000 then (if r34 + r35 > 0 then r34 + r35 else 0) else 2000) ∧ (if (if r34 + r35 > 0 then r34 + r35 else 0) < 2000 then (if r34 + r35 > 0 then r34 + r35 else 0) else 2000) ≤ 2000 := by
     split <;> (try split) <;> omega
    exact key _ _ _ (.inr (.inl ⟨h2, hx.1, hx.2, rfl⟩))
   ·rw [show (r20 == 2) = false by simp [h2], cond_false]
    obtain ⟨r36, d36, e, a36, b36⟩ := of_p N d20 x4 b4 (by omega) (by omega)
    rw [e, Option.bind_some]; clear e
    obtain ⟨r37, d37, e, m37⟩ := any_p N d36 [(-1), 0, 1, 300] (by simp) (by simp)
    rw [e, Option.bind_some]; clear e
    have m37 := any4 m37
    obtain ⟨r38, d38, e, a38, b38⟩ := of_p N d37 y5 b5 (by omega) (by omega)
    rw [e, Option.bind_some]; clear e
    obtain ⟨r39, d39, e, m39⟩ := any_p N d38 [(-1), 0, 1] (by simp) (by simp)
    rw [e, Option.bind_some]; clear e
    have m39 : r39 = -1 ∨ r39 = 0 ∨ r39 = 1 := by simpa using m39
    dsimp only
    rw [w64 (x := r38 + r39) (by omega) (by omega)]
    obtain ⟨r40, d40, e, m40⟩ := any_p N d39 [x4.Hi, r38 + r39] (by simp) (by simp)
    rw [e, Option.bind_some]; clear e
    have m40 : r40 = x4.Hi ∨ r40 = r38 + r39 := by simpa using m40
    dsimp only
    rw [w64 (x := r36 + r37) (by omega) (by omega)]
    have hx : 0 ≤ (if r36 + r37 > 0 then r36 + r37 else 0) ∧ (if r36 + r37 > 0 then r36 + r37 else 0) ≤ 10000000 := by split <;> omega
    have hy : 0 ≤ (if r40 > 0 then r40 else 0) ∧ (if r40 > 0 then r40 else 0) ≤ 10000000 := by split <;> omega
    exact key _ _ _ (.inr (.inr ⟨by show r20 = 3; omega, hx.1, hx.2, hy.1, hy.2⟩))
 ·rw [show decide (i > 0) = false from decide_eq_false hc, cond_false]
  exact ⟨_, _, rfl, by omega, hall⟩
end Go.Proofs.Ytodhdfkefkkdnaa
end
section
namespace Go.Proofs.Ytodhdfkefkkdnaa
open Go.RowKit

theorem letJ_gen {κ ρ : Type} (T : Option ρ → Prop) (K : κ) (f : κ → Option ρ) (h : ∀ k, k = K → T (f k)) : T (letJ K f) := h K rfl
theorem loop11_T {A0 B0 C0 D0 E0 F0 G0 I0 J0 K0 L0 ρ : Type} {body : (A0 → B0 → C0 → D0 → E0 → F0 → G0 → I0 → J0 → K0 → L0 → Option ρ) → A0 → B0 → C0 → D0 → E0 → F0 → G0 → I0 → J0 → K0 → L0 → Option ρ} (T : Option ρ → Prop) (P : A0 → B0 → C0 → D0 → E0 → F0 → G0 → I0 → J0 → K0 → L0 → Prop) (μ : B0 → Nat) (h : ∀ rec a b c d e f g i j k l, P a b c d e f g i j k l → (∀ a' b' c' d' e' f' g' i' j' k' l', P a' b' c' d' e' f' g' i' j' k' l' → μ b' < μ b → T (rec a' b' c' d' e' f' g' i' j' k' l')) → T (body rec a b c d e f g i j k l)) : ∀ (N : Nat) a b c d e f g i j k l, P a b c d e f g i j k l → μ b < N → T (loop11 body N a b c d e f g i j k l)
 | 0, _, _, _, _, _, _, _, _, _, _, _, _, hm => absurd hm (Nat.not_lt_zero _)
 | n + 1, a, b, c, d, e, f, g, i, j, k, l, hp, hm => h (loop11 body n) a b c d e f g i j k l hp fun a' b' c' d' e' f' g' i' j' k' l' hp' hm' => loop11_T T P μ h n a' b' c' d' e' f' g' i' j' k' l' hp' (by omega)
def cn (P : T_br2_Truth → Bool) (L : List T_br2_Truth) : Int := ((L.countP P : Nat) : Int)
theorem cn_one (P : T_br2_Truth → Bool) (L : List T_br2_Truth) (x : T_br2_Truth) : cn P (L ++ [x]) = cn P L + (bif P x then 1 else 0) := by
 unfold cn
 rw [List.countP_append, List.countP_cons, List.countP_nil]
 cases P x <;> simp
theorem cn_bnd (P : T_br2_Truth → Bool) (L : List T_br2_Truth) : 0 ≤ cn P L ∧ cn P L ≤ (L.length : Int) := by
 have := @List.countP_le_length _ P L
 unfold cn
 omega
theorem told_p (N : Nat) (L : List T_br2_Truth) (P : T_br2_Truth → Bool) (a b : T_br2_Truth) (ha : a ∈ L) (hb : b ∈ L) (h1 : P a = true → ∀ t ∈ L, P t = true) (h2 : ∀ t ∈ L, P t = true → P b = true) : p_bl2_told N (cn P L) ((L.length : Nat) : Int) = some (vdc (P a) (P b)) := by
 unfold p_bl2_told cn
 have hpos : 0 < L.length := List.length_pos_of_mem ha
 cases h : P a
 ·have hne : ¬ L.countP P = L.length := fun hc => by
   have := List.countP_eq_length.1 hc a ha
   rw [h] at this
   cases this
  rw [show (((L.countP P : Nat) : Int) == ((L.length : Nat) : Int)) = false from beq_eq_false_iff_ne.2 (by omega), cond_false]
  cases h' : P b
  ·have hz : L.countP P = 0 := List.countP_eq_zero.2 fun t ht hc => by
    have := h2 t ht hc
    rw [h'] at this
    cases this
   rw [hz]
   rfl
  ·have hz : ¬ L.countP P = 0 := fun hc => List.countP_eq_zero.1 hc b hb h'
   rw [show (((L.countP P : Nat) : Int) == 0) = false from beq_eq_false_iff_ne.2 (by omega)]
   rfl
 ·have he : L.countP P = L.length := List.countP_eq_length.2 (h1 h)
  rw [he, beq_self_eq_true]
  rfl
structure Sn (F : T_br2_Truth → Int) (L : List T_br2_Truth) (lo hi : Int) : Prop where
 all : ∀ t ∈ L, lo ≤ F t ∧ F t ≤ hi
 lo : ∃ t ∈ L, F t = lo
 hi : ∃ t ∈ L, F t = hi
theorem seen_p (N : Nat) (F : T_br2_Truth → Int) (L : List T_br2_Truth) (x : T_br2_Truth) (j : Nat) (lo hi : Int) (hj : L.length = j) (h : 0 < j → Sn F L lo hi) : ∃ r, p_bl2_seen N (⟨lo, hi⟩ : T_Span) (decide ((j : Int) > 0)) (F x) = some r ∧ Sn F (L ++ [x]) r.Lo r.Hi := by
 unfold p_bl2_seen
 by_cases h0 : 0 < j
 ·rw [show decide ((j : Int) > 0) = true from decide_eq_true (by omega)]
  refine ⟨⟨if F x < lo then F x else lo, if F x > hi then F x else hi⟩, rfl, ?_⟩
  obtain ⟨a, ⟨t, ht, e1⟩, ⟨u, hu, e2⟩⟩ := h h0
  refine ⟨fun y hy => ?_, ?_, ?_⟩
  ·dsimp only
   rcases List.mem_append.1 hy with hy | hy
   ·have := a y hy
    split <;> split <;> omega
   ·have : y = x := by simpa using hy
    subst this
    have := a t ht
    split <;> split <;> omega
  ·dsimp only
   split
   ·exact ⟨x, by simp, rfl⟩
   ·exact ⟨t, by simp [ht], e1⟩
  ·dsimp only
   split
   ·exact ⟨x, by simp, rfl⟩
   ·exact ⟨u, by simp [hu], e2⟩
 ·rw [show decide ((j : Int) > 0) = false from decide_eq_false (by omega)]
  have hz : L = [] := List.eq_nil_of_length_eq_zero (by omega)
  subst hz
  exact ⟨⟨F x, F x⟩, rfl, fun y hy => by
   have : y = x := by simpa using hy
   subst this
   exact ⟨Int.le_refl _, Int.le_refl _⟩, ⟨x, by simp, rfl⟩, ⟨x, by simp, rfl⟩⟩
theorem Sn.ends {F : T_br2_Truth → Int} {L : List T_br2_Truth} {lo hi : Int} (h : Sn F L lo hi) {a b : T_br2_Truth} (ha : a ∈ L) (hb : b ∈ L) (hab : ∀ t ∈ L, F a ≤ F t ∧ F t ≤ F b) : lo = F a ∧ hi = F b := by
 obtain ⟨t, ht, e1⟩ := h.lo
 obtain ⟨u, hu, e2⟩ := h.hi
 have := h.all a ha
 have := h.all b hb
 have := hab t ht
 have := hab u hu
 omega
section
variable {α : Type} (hs : List α) (n o : α → Int) (m : Nat) (h : m < hs.length)
def mix : List Int := (hs.take m).map n ++ (hs.drop m).map o
include h
theorem mix_hl : ((hs.take m).map n).length = m := by
 rw [List.length_map, List.length_take]
 omega
theorem mix_at : (mix hs n o m)[m]? = some (o hs[m]) := by
 have hl := mix_hl hs n m h
 unfold mix
 rw [List.getElem?_append_right (by omega), hl, Nat.sub_self, List.drop_eq_getElem_cons h, List.map_cons]
 rfl
theorem mix_set : (mix hs n o m).set m (n hs[m]) = mix hs n o (m + 1) := by
 have hl := mix_hl hs n m h
 unfold mix
 rw [List.set_append, if_neg (by omega), hl, Nat.sub_self, List.drop_eq_getElem_cons h, List.map_cons, List.set_cons_zero, List.take_succ_eq_append_getElem h, List.map_append, List.append_assoc]
 rfl
theorem mix_eq (he : n hs[m] = o hs[m]) : mix hs n o m = mix hs n o (m + 1) := by
 unfold mix
 rw [List.drop_eq_getElem_cons h, List.map_cons, List.take_succ_eq_append_getElem h, List.map_append, List.append_assoc, ← he]
 rfl
end
theorem mix_len {α : Type} (hs : List α) (n o : α → Int) (m : Nat) : (mix hs n o m).length = hs.length := by
 unfold mix
 simp
 omega
theorem ends_law (N : Nat) (hN : 30000 < N) (zs : List Int) (hz : zs.length < N) (hz2 : zs.length < 9223372036854775808) (ha : p_bl2_awake N = some true) : p_bl2_FloatEnds N zs = some true := by
 unfold p_bl2_FloatEnds
 obtain ⟨d, e⟩ := drumOf_p N zs hz hz2
 rw [e, Option.bind_some]; clear e
 obtain ⟨f, d2, e, hf⟩ := smallFloat_p N d (by omega)
 rw [e, Option.bind_some]; clear e
 try dsimp only
 have hF : FlOk f := hf.ok.ok
 have n3 : f.Loads.length ≤ 3 := by have := hf.ok.n; omega
 obtain ⟨hs, d3, e, hl, hh⟩ := routeOf_p N (by omega) d2 f ⟨hF, by omega, hf.ok.k, hf.ok.l, hf.ok.a⟩ 4 (by omega) (by omega)
 rw [e, Option.bind_some]; clear e
 try dsimp only
 obtain ⟨L, e, hL⟩ := truths_p f n3 (fun l hl => ⟨hF.all l hl, hf.all l hl⟩) f.Loads [] N [] [] [] rfl rfl rfl (by omega) (by simp)
 rw [e, Option.bind_some, List.nil_append]; clear e
 have hin : ∀ x ∈ L, InT f.Loads x.Kilos x.Tops := fun x hx => by
  obtain ⟨ks, ts, rfl, h⟩ := hL.ok x hx
  exact h
 have hlo : (⟨loK f.Loads, loT f.Loads⟩ : T_br2_Truth) ∈ L := hL.lo
 have hhi : (⟨hiK f.Loads, hiT f.Loads⟩ : T_br2_Truth) ∈ L := hL.hi
 have hLn : L.length ≤ 216 := Nat.le_trans hL.n (six_le _ 3 n3)
 clear hL
 rw [show mkI ((hs.length : Nat) : Int) = some hs.length from by unfold mkI; rw [if_pos ⟨by omega, by omega⟩, Int.toNat_natCast], Option.bind_some]
 have hc : ∀ x : T_Hurdle, ∃ G : List Int → List Int → Bool, HuOk x → (∀ ks ts, InT f.Loads ks ts → p_br2_Goes N f x ⟨ks, ts⟩ = some (G ks ts)) ∧ ∀ ks ts, InT f.Loads ks ts → (G (hiK f.Loads) (hiT f.Loads) = true → G ks ts = true) ∧ (G ks ts = true → G (loK f.Loads) (loT f.Loads) = true) := by
  intro x
  by_cases hx : HuOk x
  ·obtain ⟨G, h1, h2⟩ := goesK f hF N (by omega) x hx
   exact ⟨G, fun _ => ⟨h1, h2⟩⟩
  ·exact ⟨fun _ _ => true, fun h => absurd h hx⟩
 obtain ⟨G, hG⟩ := Classical.axiomOfChoice hc
 clear hc
 obtain ⟨i1, i2⟩ := inLo f f.Loads hF.all
 obtain ⟨eT, eA, eH, eS⟩ := fallE f hF N (by omega) (by omega)
 have eP := passesE f hF N (by omega) (by omega) hs hl hh G fun x hx => ⟨(hG x (hh x hx)).1 _ _ i2, (hG x (hh x hx)).1 _ _ i1⟩
 have wm : ∀ t ∈ L, (frK f (loK f.Loads) ≤ frK f t.Kilos ∧ frK f t.Kilos ≤ frK f (hiK f.Loads)) ∧ (reK f (loK f.Loads) ≤ reK f t.Kilos ∧ reK f t.Kilos ≤ reK f (hiK f.Loads)) := fun t ht => by
  have w1 := wk_mono (fun l => f.Rear - l.At) f.Loads _ _ (hin t ht) fun l hl => (gR f hF l hl).1
  have w2 := wk_mono (fun l => l.At - f.Front) f.Loads _ _ (hin t ht) fun l hl => (gF f hF l hl).1
  unfold frK reK
  omega
 refine letJ_gen (fun r => r = some true) _ _ fun K hK => ?_
 have hend : ∀ (up t0 t1 a0 a1 b0 b1 h0 h1 : Int) (w : List Int), up = cn (fun t => upr f t.Kilos) L → Sn (fun t => f.Kilos + t.Kilos.sum) L t0 t1 → Sn (fun t => frK f t.Kilos) L a0 a1 → Sn (fun t => reK f t.Kilos) L b0 b1 → Sn (fun t => talL t.Tops f.High) L h0 h1 → w = hs.map (fun x => cn (fun t => G x t.Kilos t.Tops) L) → K up t0 t1 a0 a1 b0 b1 h0 h1 w = some true := by
  intro up t0 t1 a0 a1 b0 b1 h0 h1 w hup s1 s2 s3 s4 hw
  obtain ⟨rfl, rfl⟩ := s1.ends hlo hhi fun t ht => by
   have := sum_mono _ _ _ (hin t ht)
   try dsimp only
   omega
  obtain ⟨rfl, rfl⟩ := s2.ends hlo hhi fun t ht => (wm t ht).1
  obtain ⟨rfl, rfl⟩ := s3.ends hlo hhi fun t ht => (wm t ht).2
  obtain ⟨rfl, rfl⟩ := s4.ends hlo hhi fun t ht => tal_mono _ _ _ _ _ _ (hin t ht) (Int.le_refl _) (Int.le_refl _)
  have et := told_p N L (fun t => upr f t.Kilos) _ _ hlo hhi (fun h t ht => by
   have := wm t ht
   simp only [upr, Bool.and_eq_true, decide_eq_true_eq] at h ⊢
   omega) (fun t ht h => by
   have := wm t ht
   simp only [upr, Bool.and_eq_true, decide_eq_true_eq] at h ⊢
   omega)
  try dsimp only at et
  have l2 := hF.l2; have f1 := hF.f1; have f2 := hF.f2; have f3 := hF.f3
  have hd : 0 < f.Rear - f.Front := by omega
  have bl := frK_bnd f hF (loK f.Loads) (inT_len _ _ _ i1).1 (inK f hF _ _ i1)
  have bh := frK_bnd f hF (hiK f.Loads) (inT_len _ _ _ i2).1 (inK f hF _ _ i2)
  subst hup hw hK
  try dsimp only
  rw [eT, Option.bind_some, eA, Option.bind_some, eH, Option.bind_some, eS, Option.bind_some, eP, Option.bind_some, letJ_eq]
  try dsimp only
  rw [et, Option.bind_some, List.length_map]
  simp only [bne_self_eq_false, cond_false, beq_self_eq_true, Bool.and_true, Bool.not_true]
  rw [letJ_eq]
  refine loop1_T (fun r => r = some true) (fun k => ∃ j : Nat, k = (j : Int) ∧ j ≤ hs.length) (fun k => hs.length - k.toNat) ?_ N 0 ⟨0, rfl, Nat.zero_le _⟩ (by simp; omega)
  rintro rec k ⟨j, rfl, hj⟩ ih
  by_cases hlt : j < hs.length
  ·have hx : hs[j]? = some hs[j] := List.getElem?_eq_getElem hlt
   have hm := hs.getElem_mem hlt
   have tl := told_p N L (fun t => G hs[j] t.Kilos t.Tops) _ _ hhi hlo (fun h t ht => ((hG _ (hh _ hm)).2 _ _ (hin t ht)).1 h) (fun t ht h => ((hG _ (hh _ hm)).2 _ _ (hin t ht)).2 h)
   try dsimp only at tl
   rw [show decide ((j : Int) < ((hs.length : Nat) : Int)) = true from decide_eq_true (by omega), cond_true, getI_nat, List.getElem?_map, hx, Option.map_some, Option.bind_some, show idxI (j : Int) hs.length = some () from if_pos ⟨by omega, by omega⟩, Option.bind_some, Int.toNat_natCast, List.getElem?_map, hx, Option.map_some, Option.bind_some, tl, Option.bind_some, bne_self_eq_false, cond_false, nat_add1 j (by omega)]
   exact ih _ ⟨j + 1, rfl, hlt⟩ (by omega)
  ·have : j = hs.length := by omega
   subst this
   rw [show decide (((hs.length : Nat) : Int) < ((hs.length : Nat) : Int)) = false from decide_eq_false (by omega), cond_false, w64 (x := f.Rear - f.Front) (by omega) (by omega), down_p N _ _ hd (by omega) (by omega), Option.bind_some, up_p N _ _ hd (by omega) (by omega), Option.bind_some, show ∀ a b, p_bl2_span N a b = some ⟨a, b⟩ from fun _ _ => rfl, Option.bind_some]
   try dsimp only
   rw [beq_self_eq_true, beq_self_eq_true, down_p N _ _ hd (by omega) (by omega), Option.bind_some, up_p N _ _ hd (by omega) (by omega), Option.bind_some, show ∀ a b, p_bl2_span N a b = some ⟨a, b⟩ from fun _ _ => rfl, Option.bind_some, ha]
   try dsimp only
   rw [beq_self_eq_true, beq_self_eq_true]
   rfl
 clear hK
 try dsimp only
 refine loop11_T (fun r => r = some true) (fun up i t0 t1 a0 a1 b0 b1 h0 h1 w => ∃ j : Nat, i = (j : Int) ∧ j ≤ L.length ∧ up = cn (fun t => upr f t.Kilos) (L.take j) ∧ (0 < j → Sn (fun t => f.Kilos + t.Kilos.sum) (L.take j) t0 t1 ∧ Sn (fun t => frK f t.Kilos) (L.take j) a0 a1 ∧ Sn (fun t => reK f t.Kilos) (L.take j) b0 b1 ∧ Sn (fun t => talL t.Tops f.High) (L.take j) h0 h1) ∧ w = hs.map (fun x => cn (fun t => G x t.Kilos t.Tops) (L.take j))) (fun i => L.length - i.toNat) ?_ N 0 0 0 0 0 0 0 0 0 0 _ ⟨0, rfl, Nat.zero_le _, rfl, fun h => absurd h (Nat.lt_irrefl _), ?_⟩ (by simp; omega)
 ·rintro rec up i t0 t1 a0 a1 b0 b1 h0 h1 w ⟨j, rfl, hj, rfl, hS, rfl⟩ ih
  by_cases hlt : j < L.length
  ·have hx : L[j]? = some L[j] := List.getElem?_eq_getElem hlt
   obtain ⟨e1, e2, e3, e4⟩ := lt_dec hx
   have hi := hin _ e3
   obtain ⟨l1, l2⟩ := inT_len _ _ _ hi
   have hk := inK f hF _ _ hi
   have ec : p_br2_Carries N f L[j] = some (frK f L[j].Kilos, reK f L[j].Kilos) := carriesK f hF N _ L[j].Tops l1 hk (by omega)
   have ew := weighs_p N f L[j] 100000 (Int.le_refl _) hF.k1 hF.k2 hk (by omega) (by omega)
   have et := tall_p N f L[j] (by omega) (by omega)
   have hlen : (L.take j).length = j := by simp; omega
   have htk : L.take (j + 1) = L.take j ++ [L[j]] := List.take_succ_eq_append_getElem hlt
   obtain ⟨r1, s1, q1⟩ := seen_p N (fun t => f.Kilos + t.Kilos.sum) _ L[j] j t0 t1 hlen fun h => (hS h).1
   obtain ⟨r2, s2, q2⟩ := seen_p N (fun t => frK f t.Kilos) _ L[j] j a0 a1 hlen fun h => (hS h).2.1
   obtain ⟨r3, s3, q3⟩ := seen_p N (fun t => reK f t.Kilos) _ L[j] j b0 b1 hlen fun h => (hS h).2.2.1
   obtain ⟨r4, s4, q4⟩ := seen_p N (fun t => talL t.Tops f.High) _ L[j] j h0 h1 hlen fun h => (hS h).2.2.2
   rw [← htk] at q1 q2 q3 q4
   have hcn := cn_one (fun t => upr f t.Kilos) (L.take j) L[j]
   rw [← htk] at hcn
   have hcb := cn_bnd (fun t => upr f t.Kilos) (L.take j)
   rw [hlen] at hcb
   try dsimp only at s1 s2 s3 s4 hcn
   have inner : ∀ (up' : Int), up' = cn (fun t => upr f t.Kilos) (L.take (j + 1)) → ∀ (K2 : List Int → Option Bool), (∀ w, w = hs.map (fun x => cn (fun t => G x t.Kilos t.Tops) (L.take (j + 1))) → K2 w = some true) → loop2 (fun (rec_64 : Int → List Int → Option Bool) (k_62 : Int) (w_63 : List Int) => (bif (decide (k_62 < ((hs.length : Nat) : Int))) then (letJ (fun (w_68 : List Int) => (rec_64 (IntKind.i64.wrap (k_62 + 1)) w_68)) (fun k_69 => ((getI hs k_62).bind fun x_72 => ((some L[j]).bind fun x_73 => ((p_br2_Goes N f x_72 x_73).bind fun r_74 => (bif r_74 then ((idxI k_62 hs.length).bind fun u_76 => ((w_63[Int.toNat k_62]?).bind fun x_77 => ((idxI k_62 hs.length).bind fun u_78 => ((setI w_63 k_62 (fun (y_79 : Int) => (IntKind.i64.wrap (x_77 + 1)))).bind fun z_80 => (k_69 z_80))))) else (k_69 w_63))))))) else (K2 w_63))) N 0 (hs.map (fun x => cn (fun t => G x t.Kilos t.Tops) (L.take j))) = some true := by
    intro up' hu K2 hK2
    refine loop2_T (fun r => r = some true) (fun k w => ∃ m : Nat, k = (m : Int) ∧ m ≤ hs.length ∧ w = mix hs (fun x => cn (fun t => G x t.Kilos t.Tops) (L.take (j + 1))) (fun x => cn (fun t => G x t.Kilos t.Tops) (L.take j)) m) (fun k w => hs.length - k.toNat) ?_ N 0 _ ⟨0, rfl, Nat.zero_le _, by simp [mix]⟩ (by simp; omega)
    rintro rec2 k w ⟨m, rfl, hm, rfl⟩ ih2
    by_cases hmt : m < hs.length
    ·have hx2 : hs[m]? = some hs[m] := List.getElem?_eq_getElem hmt
     obtain ⟨c1, c2, c3, c4⟩ := lt_dec hx2
     have eg : p_br2_Goes N f hs[m] L[j] = some (G hs[m] L[j].Kilos L[j].Tops) := (hG _ (hh _ c3)).1 _ _ hi
     have hc2 := cn_one (fun t => G hs[m] t.Kilos t.Tops) (L.take j) L[j]
     rw [← htk] at hc2
     have hb2 := cn_bnd (fun t => G hs[m] t.Kilos t.Tops) (L.take j)
     rw [hlen] at hb2
     try dsimp only at hc2
     have hix : idxI (m : Int) hs.length = some () := if_pos ⟨by omega, by omega⟩
     rw [c1, cond_true, letJ_eq]
     rw [c2, Option.bind_some, Option.bind_some, eg, Option.bind_some]
     cases hg : G hs[m] L[j].Kilos L[j].Tops
     ·rw [cond_false, nat_add1 m (by omega)]
      refine ih2 _ _ ⟨m + 1, rfl, hmt, mix_eq hs _ _ m hmt ?_⟩ (by omega)
      rw [hg] at hc2
      try dsimp only
      rw [hc2, cond_false]
      omega
     ·rw [cond_true, hix, Option.bind_some, Int.toNat_natCast, mix_at hs _ _ m hmt, Option.bind_some, Option.bind_some, setL_p _ m _ (by rw [mix_len]; exact hmt), Option.bind_some, nat_add1 m (by omega)]
      refine ih2 _ _ ⟨m + 1, rfl, hmt, ?_⟩ (by omega)
      rw [← mix_set hs _ _ m hmt]
      rw [hg, cond_true] at hc2
      try dsimp only
      rw [hc2, w64 (by omega) (by omega)]
    ·have : m = hs.length := by omega
     subst this
     rw [len_dec, cond_false]
     refine hK2 _ ?_
     simp [mix]
   rw [e1, cond_true, e2, Option.bind_some, ec, Option.bind_some, Option.bind_some, ew, Option.bind_some, s1, Option.bind_some, Option.bind_some, et, Option.bind_some, s4, Option.bind_some, s2, Option.bind_some, s3, Option.bind_some]
   rw [letJ_eq, letJ_eq]
   try dsimp only
   have hfin : ∀ up', up' = cn (fun t => upr f t.Kilos) (L.take (j + 1)) → ∀ w, w = hs.map (fun x => cn (fun t => G x t.Kilos t.Tops) (L.take (j + 1))) → rec up' (IntKind.i64.wrap ((j : Int) + 1)) r1.Lo r1.Hi r2.Lo r2.Hi r3.Lo r3.Hi r4.Lo r4.Hi w = some true := by
    intro up' hu w hw
    rw [nat_add1 j (by omega)]
    exact ih _ _ _ _ _ _ _ _ _ _ _ ⟨j + 1, rfl, hlt, hu, fun _ => ⟨q1, q2, q3, q4⟩, hw⟩ (by omega)
   have hU : upr f L[j].Kilos = (decide (frK f L[j].Kilos ≥ 0) && decide (reK f L[j].Kilos ≥ 0)) := rfl
   rw [hU] at hcn
   cases hA : decide (frK f L[j].Kilos ≥ 0)
   ·rw [hA, Bool.false_and, cond_false] at hcn
    rw [cond_false, cond_false, letJ_eq]
    exact inner (cn (fun t => upr f t.Kilos) (L.take j)) (by omega) _ (hfin _ (by omega))
   ·rw [hA, Bool.true_and] at hcn
    rw [cond_true]
    cases hB : decide (reK f L[j].Kilos ≥ 0)
    ·rw [hB, cond_false] at hcn
     rw [cond_false, letJ_eq]
     exact inner (cn (fun t => upr f t.Kilos) (L.take j)) (by omega) _ (hfin _ (by omega))
    ·rw [hB, cond_true] at hcn
     rw [cond_true, letJ_eq, w64 (x := cn (fun t => upr f t.Kilos) (L.take j) + 1) (by omega) (by omega)]
     exact inner _ hcn.symm _ (hfin _ hcn.symm)
  ·have : j = L.length := by omega
   subst this
   rw [len_dec, cond_false]
   rw [List.take_length] at hS ⊢
   obtain ⟨q1, q2, q3, q4⟩ := hS (List.length_pos_of_mem hlo)
   exact hend _ _ _ _ _ _ _ _ _ _ rfl q1 q2 q3 q4 rfl
 ·simp [cn, List.map_const']
theorem awake_e : p_bl2_awake 18446744073709551616 = some true := by kernel_rfl
theorem ends_m (zs : List Int) (h : zs.length < 9223372036854775808) : Does Try.prog 3 [.sl (zs.map (AV.int .i64)) none] [] fun v _ => v = .bool true :=
 (d_bl2_FloatEnds 18446744073709551616 zs true (ends_law _ (by omega) zs (by omega) h awake_e)).mono fun v c h => h.1
end Go.Proofs.Ytodhdfkefkkdnaa
end
section
namespace Go.Proofs.Ytodhdfkefkkdnaa
open Go.RowKit Go.ChangeShapes Go.WideShapes Go.ChangeAt

def nums (zs : List Int) : AV := .sl (zs.map fun z => .int .i64 z) none
theorem prog_own : ownKnob Try.prog.godebug = none := by kernel_rfl
theorem prog_laid : laidOutB Try.prog = true := by kernel_rfl

namespace floatEnds
set_option maxRecDepth 100000 in
theorem lifted (hM : ∀ zs : List Int, (∀ z ∈ zs, (Lit.int .i64 z).wf = true) → zs.length ≤ maxLen → Does Try.prog 3 [nums zs] [] fun v _ => v = .bool true) (os : Os) (started : os.Started) (H : Type) (enc : TypeId × Value → H) :
  ReturnsInHanded {} Try.checked os 3 .any (Rows.floatEndsSpec.pre6 enc Try.prog Try.f3 Rows.floatEndsRow.domain false) (Rows.floatEndsSpec.post enc Try.prog Try.f3 false true false false) := by
 refine returnsInHanded_of_change (C := Try.checked) prog_own started (by kernel_rfl) Try.func3
  (ChangeSpec.witness6 (enc := enc) (C := Try.checked) false ⟨#[], #[.slice none 0 0], []⟩ 8 (by kernel_rfl) (by kernel_rfl) (by kernel_rfl) (by kernel_rfl)) ?_
 intro W base args ds gs before hval0 hW hcnd _
 have hval : ∀ (j : Nat) t v, Try.f3.params[j]? = some t → args[j]? = some v → Value.okWide Try.prog W .any base t v := hval0
 have hW' := hW
 obtain ⟨p, q, hA0, hV, rfl, hfz, hnd⟩ := hW
 have hA : DataW.TrodAll enc Try.prog W 0 (fun _ => true) true Try.f3.params.toList args.toList ds p := hA0
 rw [Try.params3] at hA hval
 obtain ⟨v0, vs0, d0, ds0, p0, q0, hargs, rfl, rfl, h0, r0⟩ := trodAll_cons hA
 obtain ⟨rfl, rfl, rfl⟩ := trodAll_nil r0
 obtain rfl : args = #[v0] := by cases args; simp_all
 obtain ⟨rfl, rfl⟩ := trodVars_none hV
 obtain ⟨a0, len0, cap0, rfl⟩ := okWide_slice Try.underlying22 (hval 0 22 v0 rfl rfl)
 have k0 := h0
 have lt0 : ∀ x ∈ p0, x.block < W.heap.size := by obtain ⟨m, hm⟩ := k0; exact DataW.trod_lt m _ _ _ hm
 obtain ⟨zs, hwf, hlen, hvr⟩ := ints_vr Try.underlying22 Try.underlying3 (by kernel_rfl) h0
 clear hA0 hval0
 refine ((hM zs hwf hlen).law (us := #[.slice a0 len0 cap0]) ⟨rfl, fun i x u hx hu => ?_⟩).mono fun e W' ⟨he, bel⟩ => ?_
 ·cases i with
  | zero => simp at hx hu; subst hx; subst hu; exact hvr
  | succ i => simp at hx
 subst he
 exact ⟨_, rfl, _, _, _, [], _, [], hW', trodAll_mk1 (shut_bool Try.underlying4 _), (trodAll_cons_mk (Below.trod prog_laid (by kernel_rfl) (of_decide_eq_true (by kernel_rfl)) k0 bel lt0) trodAll_mk0), rfl, bel.frame _, fun h => by cases h⟩

theorem frame (hM : ∀ zs : List Int, (∀ z ∈ zs, (Lit.int .i64 z).wf = true) → zs.length ≤ maxLen → Does Try.prog 3 [nums zs] [] fun v _ => v = .bool true) : Rows.FloatEndsSaid :=
 OpenClaim.holds_of_wide 3 Try.f3 rfl rfl rfl rfl rfl rfl rfl ⟨rfl, rfl, rfl, rfl, rfl⟩ rfl rfl rfl rfl rfl (by kernel_rfl) Try.func3 (by kernel_rfl)
  (of_decide_eq_true (by kernel_rfl)) (by unfold Func.isWrapper; first | (rw [if_pos (by decide +kernel)]; kernel_rfl) | (rw [if_neg (by decide +kernel)]; exact ⟨rfl, rfl⟩))
  (fun os started H enc _ => lifted hM os started H enc)
end floatEnds
end Go.Proofs.Ytodhdfkefkkdnaa
end
