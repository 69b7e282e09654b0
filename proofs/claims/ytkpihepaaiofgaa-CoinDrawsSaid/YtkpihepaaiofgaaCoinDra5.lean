/- Part 6 of what the law needs: own work, put together. -/
import Derived.ProofKit
import Derived.Test.YtkpihepaaiofgaaRows
import Derived.Test.YtkpihepaaiofgaaCoinDra4
section
namespace Go.Proofs.Ytkpihepaaiofgaa
open Go.RowKit
set_option linter.unusedVariables false
set_option linter.unusedSimpArgs false
set_option maxRecDepth 10000
set_option maxHeartbeats 4000000

theorem w64 {x : Int} (h0 : -9223372036854775808 ≤ x) (h1 : x < 9223372036854775808) : IntKind.i64.wrap x = x := by
  simp [IntKind.wrap, IntKind.bits, IntKind.signed]
  omega
theorem wu64 (x : Int) : 0 ≤ IntKind.u64.wrap x ∧ IntKind.u64.wrap x < 2 ^ 64 := by
  have e : IntKind.u64.wrap x = x % 2 ^ 64 := rfl
  omega
theorem wu64_id {x : Int} (h0 : 0 ≤ x) (h1 : x < 2 ^ 64) : IntKind.u64.wrap x = x := by
  have e : IntKind.u64.wrap x = x % 2 ^ 64 := rfl
  omega

section
variable {ρ : Type} {A B C : Type}
theorem loop2_T {body : (A → B → Option ρ) → A → B → Option ρ} (T : Option ρ → Prop) (P : A → B → Prop) (μ : A → B → Nat) (h : ∀ rec a b, P a b → (∀ a' b', P a' b' → μ a' b' < μ a b → T (rec a' b')) → T (body rec a b)) : ∀ (N : Nat) (a : A) (b : B), P a b → μ a b < N → T (loop2 body N a b)
  | 0, a, b, _, hm => absurd hm (Nat.not_lt_zero _)
  | n + 1, a, b, hp, hm => h (loop2 body n) a b hp fun a' b' hp' hm' => loop2_T T P μ h n a' b' hp' (by omega)
end
theorem getI_nat {α : Type} (l : List α) (i : Nat) : getI l (i : Int) = l[i]? := by simp [getI]
theorem getI_lt {α : Type} {l : List α} {i : Int} (h0 : 0 ≤ i) (h1 : i < (l.length : Int)) : ∃ x, getI l i = some x ∧ l[i.toNat]? = some x ∧ x ∈ l := by
  have hlt : i.toNat < l.length := by omega
  refine ⟨l[i.toNat], ?_, List.getElem?_eq_getElem hlt, List.getElem_mem hlt⟩
  simp only [getI, h0, if_true]
  exact List.getElem?_eq_getElem hlt
theorem pushI_ok {α : Type} {l m : List α} (h : l.length + m.length ≤ 65536) : pushI l m = some (l ++ m) := if_pos h
theorem letJ_eq {κ ρ : Type} (K : κ) (f : κ → Option ρ) : letJ K f = f K := rfl

theorem hit_p (N : Nat) (d : T_bk_Drum) : ∃ y d', p_bk_Drum_hit N d = some (y, d') ∧ 0 ≤ y ∧ y < 2 ^ 64 := by
  refine ⟨_, _, rfl, ?_⟩
  exact wu64 _
theorem roll_p (N : Nat) (d : T_bk_Drum) (n : Int) (hn : n < 9223372036854775808) : ∃ r d', p_bk_Drum_Roll N d n = some (r, d') ∧ 0 ≤ r ∧ (n < 2 → r = 0) ∧ (2 ≤ n → r < n) := by
  unfold p_bk_Drum_Roll
  by_cases h2 : n < 2
  · simp only [h2, decide_true, cond_true]
    exact ⟨0, d, rfl, by omega, fun _ => rfl, fun h => by omega⟩
  · simp only [h2, decide_false, cond_false]
    obtain ⟨y, d', hy, h0, h1⟩ := hit_p N d
    have hu : IntKind.u64.wrap n = n := wu64_id (by omega) (by omega)
    have hnz : n ≠ 0 := by omega
    rw [hy, hu]
    simp only [Option.bind_some, nzI, hnz, if_false]
    have hsh : Int.fdiv y ((2 : Int) ^ (min (Int.toNat 1) (IntKind.bits .u64))) = y / 2 := by
      have : (2 : Int) ^ (min (Int.toNat 1) (IntKind.bits .u64)) = 2 := rfl
      rw [this, Int.fdiv_eq_ediv_of_nonneg _ (by omega)]
    rw [hsh]
    have hd0 : 0 ≤ y / 2 := by omega
    have hm : Int.tmod (y / 2) n = (y / 2) % n := Int.tmod_eq_emod_of_nonneg hd0
    have hm0 : 0 ≤ (y / 2) % n := Int.emod_nonneg _ hnz
    have hm1 : (y / 2) % n < n := Int.emod_lt_of_pos _ (by omega)
    rw [hm, w64 (x := y / 2 % n) (by omega) (by omega)]
    exact ⟨_, d', rfl, hm0, fun h => False.elim h, fun _ => hm1⟩
theorem any_p (N : Nat) (d : T_bk_Drum) (l : List Int) (hl : l ≠ []) (hlen : l.length < 1000) : ∃ r d', p_bk_Drum_Any N d l = some (r, d') ∧ r ∈ l := by
  unfold p_bk_Drum_Any
  have hpos : 0 < l.length := List.length_pos_iff.2 hl
  have hb : (((l.length : Nat) : Int) == 0) = false := by simp; omega
  rw [hb, cond_false]
  obtain ⟨r, d', h1, h2, h3, h4⟩ := roll_p N d ((l.length : Nat) : Int) (by omega)
  rw [h1]
  simp only [Option.bind_some]
  have hr : r < (l.length : Int) := by
    by_cases h : (l.length : Int) < 2
    · rw [h3 h]; omega
    · exact h4 (by omega)
  obtain ⟨x, e1, _, e3⟩ := getI_lt h2 hr
  rw [e1]
  exact ⟨x, d', rfl, e3⟩
theorem drumOf_step (N : Nat) (l : List Int) (rec : Int → Int → Option T_bk_Drum) (i q : Int) (h : i < 9223372036854775807) (h0 : 0 ≤ i) (ih : ∀ b', ∃ d, rec (i + 1) b' = some d) : ∃ d, ((p_bk_Drum_hit N (⟨q⟩ : T_bk_Drum)).bind fun r_14 => (rec (IntKind.i64.wrap (i + 1)) r_14.2.beat_)) = some d := by
  obtain ⟨y, d', g1, _, _⟩ := hit_p N ⟨q⟩
  rw [g1, w64 (x := i + 1) (by omega) (by omega)]
  exact ih _
theorem drumOf_p (N : Nat) (l : List Int) (hN : l.length < N) (hl : l.length < 9223372036854775808) : ∃ d, p_bk_DrumOf N l = some d := by
  unfold p_bk_DrumOf
  rw [letJ_eq]
  refine loop2_T (fun x => ∃ d, x = some d) (fun i b => 0 ≤ i ∧ i ≤ (l.length : Int)) (fun i b => l.length - i.toNat) ?_ N 0 _ ⟨by omega, by omega⟩ (by simpa using hN)
  rintro rec i b ⟨h0, h1⟩ ih
  by_cases hc : i < (l.length : Int)
  · rw [show decide (i < ((l.length : Nat) : Int)) = true from decide_eq_true hc, cond_true]
    obtain ⟨x, e1, _, _⟩ := getI_lt h0 hc
    rw [e1, Option.bind_some, Option.bind_some]
    exact drumOf_step N l rec i _ (by omega) h0 fun b' => ih _ _ ⟨by omega, by omega⟩ (by omega)
  · rw [show decide (i < ((l.length : Nat) : Int)) = false from decide_eq_false hc, cond_false]
    exact ⟨_, rfl⟩
section
variable {A B ρ : Type}
theorem st1 (n : Nat) (body : (Int → Option ρ) → Int → Option ρ) (r : Option ρ) (hend : ∀ rec, body rec (n : Int) = r) (hstep : ∀ rec (i : Nat), i < n → body rec (i : Int) = rec ((i + 1 : Nat) : Int)) : ∀ (N i : Nat), i ≤ n → n - i < N → loop1 body N (i : Int) = r
  | 0, i, _, h => absurd h (Nat.not_lt_zero _)
  | N + 1, i, hle, hN => by
    show body (loop1 body N) (i : Int) = _
    by_cases hlt : i < n
    · rw [hstep _ i hlt]; exact st1 n body r hend hstep N (i + 1) (by omega) (by omega)
    · have : i = n := by omega
      subst this
      exact hend _
theorem st2 (n : Nat) (st : Nat → A) (body : (Int → A → Option ρ) → Int → A → Option ρ) (r : Option ρ) (hend : ∀ rec, body rec (n : Int) (st n) = r) (hstep : ∀ rec (i : Nat), i < n → body rec (i : Int) (st i) = rec ((i + 1 : Nat) : Int) (st (i + 1))) : ∀ (N i : Nat), i ≤ n → n - i < N → loop2 body N (i : Int) (st i) = r
  | 0, i, _, h => absurd h (Nat.not_lt_zero _)
  | N + 1, i, hle, hN => by
    show body (loop2 body N) (i : Int) (st i) = _
    by_cases hlt : i < n
    · rw [hstep _ i hlt]; exact st2 n st body r hend hstep N (i + 1) (by omega) (by omega)
    · have : i = n := by omega
      subst this
      exact hend _
theorem st2' (n : Nat) (st : Nat → A) (body : (A → Int → Option ρ) → A → Int → Option ρ) (r : Option ρ) (hend : ∀ rec, body rec (st n) (n : Int) = r) (hstep : ∀ rec (i : Nat), i < n → body rec (st i) (i : Int) = rec (st (i + 1)) ((i + 1 : Nat) : Int)) : ∀ (N i : Nat), i ≤ n → n - i < N → loop2 body N (st i) (i : Int) = r
  | 0, i, _, h => absurd h (Nat.not_lt_zero _)
  | N + 1, i, hle, hN => by
    show body (loop2 body N) (st i) (i : Int) = _
    by_cases hlt : i < n
    · rw [hstep _ i hlt]; exact st2' n st body r hend hstep N (i + 1) (by omega) (by omega)
    · have : i = n := by omega
      subst this
      exact hend _
theorem st2z (n : Nat) (st : Nat → A) {body : (Int → A → Option ρ) → Int → A → Option ρ} {r : Option ρ} {a : A} {N : Nat} (ha : a = st 0) (hN : n < N) (hend : ∀ rec, body rec (n : Int) (st n) = r) (hstep : ∀ rec (i : Nat), i < n → body rec (i : Int) (st i) = rec ((i + 1 : Nat) : Int) (st (i + 1))) : loop2 body N 0 a = r := by
  subst ha; exact st2 n st body r hend hstep N 0 (Nat.zero_le _) (by omega)
theorem st2z' (n : Nat) (st : Nat → A) {body : (A → Int → Option ρ) → A → Int → Option ρ} {r : Option ρ} {a : A} {N : Nat} (ha : a = st 0) (hN : n < N) (hend : ∀ rec, body rec (st n) (n : Int) = r) (hstep : ∀ rec (i : Nat), i < n → body rec (st i) (i : Int) = rec (st (i + 1)) ((i + 1 : Nat) : Int)) : loop2 body N a 0 = r := by
  subst ha; exact st2' n st body r hend hstep N 0 (Nat.zero_le _) (by omega)
end
theorem nadd1 (i : Nat) (h : i < 4611686018427387904) : IntKind.i64.wrap ((i : Int) + 1) = ((i + 1 : Nat) : Int) := by
  rw [w64 (x := (i : Int) + 1) (by omega) (by omega)]
  omega
theorem ltD {i n : Nat} (h : i < n) : decide ((i : Int) < ((n : Nat) : Int)) = true := decide_eq_true (by omega)
theorem ltE (n : Nat) : decide (((n : Nat) : Int) < ((n : Nat) : Int)) = false := decide_eq_false (by omega)
theorem getD_ok {α : Type} [Inhabited α] {l : List α} {i : Nat} (h : i < l.length) : getI l (i : Int) = some (l[i]?.getD default) := by
  rw [getI_nat, List.getElem?_eq_getElem h]
  rfl

theorem roll_le (N : Nat) (d : T_bk_Drum) (n : Int) (h1 : 1 ≤ n) (hn : n < 9223372036854775808) : ∃ r d', p_bk_Drum_Roll N d n = some (r, d') ∧ 0 ≤ r ∧ r < n := by
  obtain ⟨r, d', e, h0, h2, h3⟩ := roll_p N d n hn
  refine ⟨r, d', e, h0, ?_⟩
  by_cases h : n < 2
  · rw [h2 h]; omega
  · exact h3 (by omega)
theorem eqInts_t (N : Nat) (l : List Int) (h : l.length < N) (h2 : l.length < 4611686018427387904) : p_bk_EqInts N l l = some true := by
  unfold p_bk_EqInts
  simp only [letJ_eq, bne_self_eq_false, cond_false]
  refine st1 l.length _ (some true) ?_ ?_ N 0 (by omega) (by omega)
  · intro rec
    simp only [ltE, cond_false]
  · intro rec i hi
    simp only [ltD hi, cond_true, getD_ok hi, Option.bind_some, bne_self_eq_false, cond_false, nadd1 i (by omega)]
theorem ints_t (N : Nat) (l : List Int) (h : l.length ≤ 65536) : p_bk_Ints N l = some l := by
  unfold p_bk_Ints
  rw [pushI_ok (by simpa using h)]
  rfl

theorem allL {ρ : Type} (l : List Int) (p : Int → Bool) (K E : Option ρ) {body : (Int → Option ρ) → Int → Option ρ} (hend : ∀ rec, body rec (l.length : Int) = K) (hstep : ∀ rec (i : Nat) (x : Int), l[i]? = some x → body rec (i : Int) = if p x then rec ((i + 1 : Nat) : Int) else E) : ∀ (N i : Nat), i ≤ l.length → l.length - i < N → loop1 body N (i : Int) = if (l.drop i).all p then K else E
  | 0, i, _, h => absurd h (Nat.not_lt_zero _)
  | N + 1, i, hle, hN => by
    show body (loop1 body N) (i : Int) = _
    by_cases hlt : i < l.length
    · have hx : l[i]? = some l[i] := List.getElem?_eq_getElem hlt
      rw [hstep _ i _ hx, List.drop_eq_getElem_cons hlt, List.all_cons]
      cases hp : p l[i] with
      | false => simp
      | true =>
        rw [if_pos rfl, allL l p K E hend hstep N (i + 1) (by omega) (by omega)]
        simp
    · have : i = l.length := by omega
      subst this
      rw [hend, List.drop_length]
      simp
theorem allL0 {ρ : Type} (l : List Int) (p : Int → Bool) (K E : Option ρ) {body : (Int → Option ρ) → Int → Option ρ} {N : Nat} (hN : l.length < N) (hend : ∀ rec, body rec (l.length : Int) = K) (hstep : ∀ rec (i : Nat) (x : Int), l[i]? = some x → body rec (i : Int) = if p x then rec ((i + 1 : Nat) : Int) else E) : loop1 body N 0 = if l.all p then K else E := by
  have := allL l p K E hend hstep N 0 (by omega) (by omega)
  simpa using this
def pre (l : List Int) (i : Nat) : Int := (l.take i).sum
def wsum (l : List Int) (i : Nat) : Int := (l.take i).foldl (fun a x => IntKind.i64.wrap (a + x)) 0
theorem wsum_succ (l : List Int) (i : Nat) (x : Int) (h : l[i]? = some x) : wsum l (i + 1) = IntKind.i64.wrap (wsum l i + x) := by
  have hlt := (List.getElem?_eq_some_iff.1 h).1
  unfold wsum
  rw [List.take_add_one, h]
  simp [List.foldl_append]
theorem pre_succ (l : List Int) (i : Nat) (x : Int) (h : l[i]? = some x) : pre l (i + 1) = pre l i + x := by
  unfold pre
  rw [List.take_add_one, h]
  simp
theorem pre_zero (l : List Int) : pre l 0 = 0 := rfl
theorem pre_bd (l : List Int) (m : Int) (h0 : 0 ≤ m) (h : ∀ x ∈ l, 0 ≤ x ∧ x ≤ m) : ∀ i, i ≤ l.length → 0 ≤ pre l i ∧ pre l i ≤ m * (i : Int)
  | 0, _ => by rw [pre_zero]; simp
  | i + 1, hi => by
    have ih := pre_bd l m h0 h i (by omega)
    have hx : l[i]? = some l[i] := List.getElem?_eq_getElem (by omega)
    have := h _ (List.getElem_mem (show i < l.length by omega))
    rw [pre_succ l i _ hx]
    have e : m * ((i + 1 : Nat) : Int) = m * (i : Int) + m := by rw [Int.natCast_add, Int.mul_add]; simp
    rw [e]; omega
theorem pre_mono (l : List Int) (h : ∀ x ∈ l, 0 ≤ x) : ∀ i j, i ≤ j → j ≤ l.length → pre l i ≤ pre l j := by
  intro i j hij hj
  induction j with
  | zero =>
    have : i = 0 := by omega
    subst this; exact Int.le_refl _
  | succ j ih =>
    by_cases he : i = j + 1
    · subst he; exact Int.le_refl _
    · have hx : l[j]? = some l[j] := List.getElem?_eq_getElem (by omega)
      have := h _ (List.getElem_mem (show j < l.length by omega))
      have := ih (by omega) (by omega)
      rw [pre_succ l j _ hx]; omega
theorem wsum_pre (l : List Int) (m : Int) (h0 : 0 ≤ m) (h : ∀ x ∈ l, 0 ≤ x ∧ x ≤ m) (hb : m * (l.length : Int) < 9223372036854775808) : ∀ i, i ≤ l.length → wsum l i = pre l i
  | 0, _ => rfl
  | i + 1, hi => by
    have hx : l[i]? = some l[i] := List.getElem?_eq_getElem (by omega)
    have ih := wsum_pre l m h0 h hb i (by omega)
    have hb2 := pre_bd l m h0 h (i + 1) hi
    have e : m * ((i + 1 : Nat) : Int) ≤ m * (l.length : Int) := Int.mul_le_mul_of_nonneg_left (by omega) h0
    rw [pre_succ l i _ hx] at hb2
    rw [wsum_succ l i _ hx, pre_succ l i _ hx, ih, w64 (by omega) (by omega)]
theorem getD_at {α : Type} [Inhabited α] {l : List α} {i : Nat} {x : α} (h : l[i]? = some x) : getI l (i : Int) = some x := by
  rw [getI_nat, h]
theorem sumL {ρ : Type} (l : List Int) (K : Int → Option ρ) {body : (Int → Int → Option ρ) → Int → Int → Option ρ} {N : Nat} (hN : l.length < N) (hend : ∀ rec b, body rec (l.length : Int) b = K b) (hstep : ∀ rec (i : Nat) (x b : Int), l[i]? = some x → body rec (i : Int) b = rec ((i + 1 : Nat) : Int) (IntKind.i64.wrap (b + x))) : loop2 body N 0 0 = K (wsum l l.length) := by
  refine st2z l.length (wsum l) rfl hN (fun rec => hend _ _) fun rec i hi => ?_
  have hx : l[i]? = some l[i] := List.getElem?_eq_getElem hi
  rw [hstep rec i _ _ hx, wsum_succ l i _ hx]
theorem sumL' {ρ : Type} (l : List Int) (K : Int → Option ρ) {body : (Int → Int → Option ρ) → Int → Int → Option ρ} {N : Nat} (hN : l.length < N) (hend : ∀ rec b, body rec b (l.length : Int) = K b) (hstep : ∀ rec (i : Nat) (x b : Int), l[i]? = some x → body rec b (i : Int) = rec (IntKind.i64.wrap (b + x)) ((i + 1 : Nat) : Int)) : loop2 body N 0 0 = K (wsum l l.length) := by
  refine st2z' l.length (wsum l) rfl hN (fun rec => hend _ _) fun rec i hi => ?_
  have hx : l[i]? = some l[i] := List.getElem?_eq_getElem hi
  rw [hstep rec i _ _ hx, wsum_succ l i _ hx]
end Go.Proofs.Ytkpihepaaiofgaa
end
section
namespace Go.Proofs.Ytkpihepaaiofgaa
open Go.RowKit
set_option linter.unusedVariables false
set_option linter.unusedSimpArgs false
set_option maxRecDepth 10000
set_option maxHeartbeats 4000000

def wi (a b x : Int) : Bool := decide (x ≥ a) && decide (x ≤ b)
theorem wi_iff {a b x : Int} : wi a b x = true ↔ a ≤ x ∧ x ≤ b := by simp [wi]
theorem within_p (N : Nat) (n a b : Int) : p_coin_within N n a b = some (wi a b n) := by
  unfold p_coin_within wi
  show (bif decide (n ≥ a) then some (decide (n ≤ b)) else some false) = _
  cases decide (n ≥ a) <;> rfl
theorem total_p (N : Nat) (l : List Int) (hN : l.length < N) (h2 : l.length < 4611686018427387904) : p_coin_total N l = some (wsum l l.length) := by
  unfold p_coin_total
  have e1 : p_slices_Values_int_int N l = some l := rfl
  rw [e1, Option.bind_some]
  unfold p_coin_sum_int_slices_Values_int_int_1r_coin_total_1
  simp only [letJ_eq]
  rw [sumL l (fun b => some b) hN (fun rec b => by simp only [ltE, cond_false]) (fun rec i x b hx => by
    have hi := (List.getElem?_eq_some_iff.1 hx).1
    simp only [ltD hi, cond_true, getD_at hx, Option.bind_some, p_coin_total_1, nadd1 i (by omega)])]
  rfl
def chk (ts ss : List Int) : Int := if ts.length > 12 then 5 else if ts.all (wi 0 1000) then (if ss.length ≠ ts.length then 1 else if ss.all (wi 0 1000000000) then (if wsum ts ts.length = 0 then 4 else 0) else 2) else 2
theorem chk_p (N : Nat) (ts ss : List Int) (hN : 100 < N) (h1 : ts.length ≤ 20) (h2 : ss.length ≤ 20) : p_coin_checkRaffle N ts ss = some (chk ts ss) := by
  unfold p_coin_checkRaffle chk
  simp only [letJ_eq]
  by_cases hl : ts.length > 12
  · rw [if_pos hl, show decide (((ts.length : Nat) : Int) > 12) = true from decide_eq_true (by omega)]
    rfl
  rw [if_neg hl, show decide (((ts.length : Nat) : Int) > 12) = false from decide_eq_false (by omega), cond_false]
  rw [allL0 ts (wi 0 1000) _ _ (by omega) (fun rec => by simp only [ltE, cond_false]; rfl) (fun rec i x hx => by
    have hi := (List.getElem?_eq_some_iff.1 hx).1
    simp only [ltD hi, cond_true, getD_at hx, Option.bind_some, within_p, nadd1 i (by omega)]
    cases wi 0 1000 x <;> rfl)]
  split
  · by_cases hs : ss.length = ts.length
    · rw [if_neg (by simpa using hs), show (((ss.length : Nat) : Int) != ((ts.length : Nat) : Int)) = false by simp [hs], cond_false]
      rw [allL0 ss (wi 0 1000000000) _ _ (by omega) (fun rec => by simp only [ltE, cond_false]; rfl) (fun rec i x hx => by
        have hi := (List.getElem?_eq_some_iff.1 hx).1
        simp only [ltD hi, cond_true, getD_at hx, Option.bind_some, within_p, nadd1 i (by omega)]
        cases wi 0 1000000000 x <;> rfl)]
      split
      · rw [total_p N ts (by omega) (by omega), Option.bind_some]
        by_cases hz : wsum ts ts.length = 0
        · rw [if_pos hz, hz]; rfl
        · rw [if_neg hz, show (wsum ts ts.length == 0) = false by simpa using hz]; rfl
      · rfl
    · rw [if_pos hs, show (((ss.length : Nat) : Int) != ((ts.length : Nat) : Int)) = true by simp; omega]
      rfl
  · rfl
theorem chk_ok {ts ss : List Int} (h : chk ts ss = 0) : ts.length ≤ 12 ∧ (∀ x ∈ ts, 0 ≤ x ∧ x ≤ 1000) ∧ ss.length = ts.length ∧ (∀ x ∈ ss, 0 ≤ x ∧ x ≤ 1000000000) ∧ wsum ts ts.length ≠ 0 := by
  unfold chk at h
  split at h
  · omega
  rename_i h1
  split at h
  case isFalse => omega
  rename_i h2
  split at h
  · omega
  rename_i h3
  split at h
  case isFalse => omega
  rename_i h4
  split at h
  · omega
  rename_i h5
  rw [List.all_eq_true] at h2 h4
  exact ⟨by omega, fun x hx => wi_iff.1 (h2 x hx), by simpa using h3, fun x hx => wi_iff.1 (h4 x hx), h5⟩
theorem holder_ex (ts : List Int) (t : Int) (h0 : 0 ≤ t) : ∀ n, n ≤ ts.length → t < pre ts n → ∃ h, h < n ∧ pre ts h ≤ t ∧ t < pre ts (h + 1)
  | 0, _, h => by rw [pre_zero] at h; omega
  | n + 1, hn, h => by
    by_cases hc : t < pre ts n
    · obtain ⟨k, h1, h2, h3⟩ := holder_ex ts t h0 n (by omega) hc
      exact ⟨k, by omega, h2, h3⟩
    · exact ⟨n, by omega, by omega, h⟩
theorem holder_p (N : Nat) (ts : List Int) (t : Int) (h : Nat) (hN : 100 < N) (hl : ts.length ≤ 12) (hb : ∀ x ∈ ts, 0 ≤ x ∧ x ≤ 1000) (h0 : 0 ≤ t) (ht : t < 1000000) (hh : h < ts.length) (h1 : pre ts h ≤ t) (h2 : t < pre ts (h + 1)) : p_coin_holderOf N ts t = some (h : Int) := by
  unfold p_coin_holderOf
  simp only [letJ_eq]
  have hbd := fun i hi => pre_bd ts 1000 (by omega) hb i hi
  refine st2z' h (fun i => t - pre ts i) (by simp [pre_zero]) (by omega) ?_ ?_
  · intro rec
    have hx : ts[h]? = some ts[h] := List.getElem?_eq_getElem hh
    have e := pre_succ ts h _ hx
    simp only [getD_at hx, Option.bind_some]
    rw [show decide (t - pre ts h ≥ ts[h]) = false from decide_eq_false (by omega)]
    rfl
  · intro rec i hi
    have hx : ts[i]? = some ts[i] := List.getElem?_eq_getElem (by omega)
    have e := pre_succ ts i _ hx
    have hm := pre_mono ts (fun x hx => (hb x hx).1) (i + 1) h (by omega) (by omega)
    have b1 := (hbd (i + 1) (by omega)).1
    simp only [getD_at hx, Option.bind_some]
    rw [show decide (t - pre ts i ≥ ts[i]) = true from decide_eq_true (by omega), cond_true, nadd1 i (by omega), w64 (by omega) (by omega), e]
    congr 1
    omega
theorem draw_ok (N : Nat) (ts ss : List Int) (hN : 100 < N) (h0 : chk ts ss = 0) : ∃ (t : Int) (h : Nat), p_coin_Draw N ts ss = some (t, (h : Int), 0) ∧ t = pre ss ss.length % pre ts ts.length ∧ 0 < pre ts ts.length ∧ 0 ≤ t ∧ t < pre ts ts.length ∧ h < ts.length ∧ pre ts h ≤ t ∧ t < pre ts (h + 1) ∧ wsum ts ts.length = pre ts ts.length ∧ wsum ss ss.length = pre ss ss.length := by
  obtain ⟨k1, k2, k3, k4, k5⟩ := chk_ok h0
  have w1 := wsum_pre ts 1000 (by omega) k2 (by omega) ts.length (Nat.le_refl _)
  have w2 := wsum_pre ss 1000000000 (by omega) k4 (by omega) ss.length (Nat.le_refl _)
  have b1 := pre_bd ts 1000 (by omega) k2 ts.length (Nat.le_refl _)
  have b2 := pre_bd ss 1000000000 (by omega) k4 ss.length (Nat.le_refl _)
  rw [w1] at k5
  have hpos : 0 < pre ts ts.length := by omega
  have hm := Int.tmod_eq_emod_of_nonneg (b := pre ts ts.length) b2.1
  have m0 := Int.emod_nonneg (pre ss ss.length) (show pre ts ts.length ≠ 0 by omega)
  have m1 := Int.emod_lt_of_pos (pre ss ss.length) hpos
  obtain ⟨h, g1, g2, g3⟩ := holder_ex ts _ m0 ts.length (Nat.le_refl _) m1
  refine ⟨pre ss ss.length % pre ts ts.length, h, ?_, rfl, hpos, m0, m1, g1, g2, g3, w1, w2⟩
  unfold p_coin_Draw
  rw [chk_p N ts ss hN (by omega) (by omega), h0, Option.bind_some]
  simp only [bne_self_eq_false, cond_false]
  rw [total_p N ss (by omega) (by omega), Option.bind_some, total_p N ts (by omega) (by omega), Option.bind_some, w1, w2]
  rw [show nzI (pre ts ts.length) = some () by unfold nzI; rw [if_neg (by omega)], Option.bind_some, hm, holder_p N ts _ h hN k1 k2 m0 (by omega) g1 g2 g3]
  rfl
theorem draw_err (N : Nat) (ts ss : List Int) (hN : 100 < N) (h1 : ts.length ≤ 20) (h2 : ss.length ≤ 20) (h0 : chk ts ss ≠ 0) : p_coin_Draw N ts ss = some (0, 0, chk ts ss) := by
  unfold p_coin_Draw
  rw [chk_p N ts ss hN h1 h2, Option.bind_some, show (chk ts ss != 0) = true by simpa using h0]
  rfl
end Go.Proofs.Ytkpihepaaiofgaa
end
section
namespace Go.Proofs.Ytkpihepaaiofgaa
open Go.RowKit
set_option linter.unusedVariables false
set_option linter.unusedSimpArgs false
set_option maxRecDepth 10000
set_option maxHeartbeats 4000000
attribute [local simp] ren ren1 AV.plain AV.plain1 AV.clean cleanL cleanI cleanBo cleanSt cleanII KL_bk_Drum KL_api_Fund KL_api_Bill KL_api_Ledger KL_coin_claim KL_V8_i64 KL_api_Span A_bk_Drum C_bk_Drum A_api_Fund C_api_Fund A_api_Bill C_api_Bill A_api_Ledger C_api_Ledger A_coin_claim C_coin_claim A_V8_i64 C_V8_i64 A_api_Span C_api_Span back back1 fadeS fadeV List.idxOf? List.findIdx? List.findIdx?.go re re1 KB_bk_Drum KB_api_Fund KB_api_Bill KB_api_Ledger KB_coin_claim KB_V8_i64 KB_api_Span
def p_br9_within (N : Nat) (n_1 : Int) (low_2 : Int) (high_3 : Int) : Option (Bool) := (bif (decide (n_1 ≥ low_2)) then some (decide (n_1 ≤ high_3)) else some false)
def v_br9_within (r : Bool) : AV := .bool r
attribute [local simp] v_br9_within
theorem a_br9_within (n_1 : Int) (low_2 : Int) (high_3 : Int) : [.int .i64 n_1, .int .i64 low_2, .int .i64 high_3].mapM (ren []) = some [.int .i64 n_1, .int .i64 low_2, .int .i64 high_3] := by simp
theorem b_br9_within (r : Bool) (n n2 m : Nat) : back n n2 m (v_br9_within r) = some (v_br9_within r) := by simp
theorem d_br9_within (N : Nat) (n_1 : Int) (low_2 : Int) (high_3 : Int) (r : Bool) (h : p_br9_within N n_1 low_2 high_3 = some r) : Does Try.prog 63 [.int .i64 n_1, .int .i64 low_2, .int .i64 high_3] [] fun v c => v = v_br9_within r ∧ c = [] := by
  unfold p_br9_within at h
  refine Does.ofL comp63 _ _ rfl rfl ?_
  refine Ex.seq ?_
  refine regH 1 [] [0, 1, 2] [] (mkS 15 [(0, .int .i64 n_1), (1, .int .i64 low_2), (2, .int .i64 high_3)]) (⟨[], []⟩) (by kernel_rfl) trivial rfl ?_
  refine Ex.seq ?_
  rcases condI h with ⟨hc_4, h⟩ | ⟨hc_4, h⟩
  · refine regH 9 [(3, .eq (.bool true))] [6] [AV.bool (decide (n_1 ≥ low_2)) = AV.bool true] (mkS 15 [(6, .bool (decide (n_1 ≤ high_3)))]) (⟨[], []⟩) (by kernel_rfl) ⟨congrArg AV.bool hc_4, trivial⟩ rfl ?_
    refine Ex.ret ?_
    obtain rfl := Option.some.inj h
    exact ⟨.inr rfl, .bool (decide (n_1 ≤ high_3)), by kernel_rfl, by kernel_rfl, by kernel_rfl, by kernel_rfl⟩
  · refine regH 9 [(3, .eq (.bool false))] [6] [AV.bool (decide (n_1 ≥ low_2)) = AV.bool false] (mkS 15 [(6, .bool false)]) (⟨[], []⟩) (by kernel_rfl) ⟨congrArg AV.bool hc_4, trivial⟩ rfl ?_
    refine Ex.ret ?_
    obtain rfl := Option.some.inj h
    exact ⟨.inr rfl, .bool false, by kernel_rfl, by kernel_rfl, by kernel_rfl, by kernel_rfl⟩
def p_br9_sum (N : Nat) (l_1 : (List Int)) : Option (Int) := (letJ (fun (n_2 : Int) => some n_2) (fun k_3 => (loop2 (fun rec_8 (n_6 : Int) (i_7 : Int) => (bif (decide (i_7 < ((l_1.length : Nat) : Int))) then ((getI l_1 i_7).bind fun x_12 => (rec_8 (IntKind.i64.wrap (n_6 + x_12)) (IntKind.i64.wrap (i_7 + 1)))) else (k_3 n_6))) N 0 0)))
def v_br9_sum (r : Int) : AV := .int .i64 r
attribute [local simp] v_br9_sum
theorem a_br9_sum (l_1 : (List Int)) : [.sl (l_1.map (AV.int .i64)) none].mapM (ren []) = some [.sl (l_1.map (AV.int .i64)) none] := by simp
theorem b_br9_sum (r : Int) (n n2 m : Nat) : back n n2 m (v_br9_sum r) = some (v_br9_sum r) := by simp
theorem d_br9_sum (N : Nat) (l_1 : (List Int)) (r : Int) (h : p_br9_sum N l_1 = some r) : Does Try.prog 72 [.sl (l_1.map (AV.int .i64)) none] [] fun v c => v = v_br9_sum r ∧ c = [] := by
  unfold p_br9_sum at h
  refine Does.ofL comp72 _ _ rfl rfl ?_
  refine Ex.seq ?_
  refine regH 1 [] [0] [] (mkS 18 [(0, .sl (l_1.map (AV.int .i64)) none)]) (⟨[], []⟩) (by kernel_rfl) trivial rfl ?_
  refine Ex.seq ?_
  refine regH 1 [] [0, 3] [] (mkS 18 [(0, .sl (l_1.map (AV.int .i64)) none), (3, .int .i64 0)]) (⟨[], []⟩) (by kernel_rfl) trivial rfl ?_
  refine Ex.seq ?_
  refine Ex.seq ?_
  refine regH 1 [] [0, 3, 4] [] (mkS 18 [(0, .sl (l_1.map (AV.int .i64)) none), (3, .int .i64 0), (4, .int .i64 0)]) (⟨[], []⟩) (by kernel_rfl) trivial rfl ?_
  obtain ⟨K_4, hK_5, h⟩ := letE h
  refine Ex.blockJ (fun a S => ∃ (n_2 : Int), K_4 n_2 = some r ∧ a = mkS 18 [(3, .int .i64 n_2)] ∧ S = ⟨[], []⟩) ?_ ?_
  · obtain ⟨B_9, hB_10, h⟩ := loop2I h
    refine Ex.loopF (fun k a S => ∃ (n_6 : Int), ∃ (i_7 : Int), loop2 B_9 k n_6 i_7 = some r ∧ a = mkS 18 [(0, .sl (l_1.map (AV.int .i64)) none), (3, .int .i64 n_6), (4, .int .i64 i_7)] ∧ S = ⟨[], []⟩) N ⟨_, _, Forgets.refl _ _ _, 0, 0, h, rfl, rfl⟩ ?_
    rintro k a S ⟨n_6, i_7, h, rfl, rfl⟩
    cases k with
    | zero => exact (loop2Z h).elim
    | succ k =>
      replace h := loop2S h hB_10
      refine Ex.seq ?_
      refine Ex.seq ?_
      refine regH 4 [(2, .eq (.int .i64 ((l_1.length : Nat) : Int)))] [0, 3, 4, 8] [AV.int .i64 (((l_1.map (AV.int .i64)).length : Nat) : Int) = AV.int .i64 ((l_1.length : Nat) : Int)] (mkS 18 [(0, .sl (l_1.map (AV.int .i64)) none), (3, .int .i64 n_6), (4, .int .i64 i_7), (8, .bool (decide (i_7 < ((l_1.length : Nat) : Int))))]) (⟨[], []⟩) (by kernel_rfl) ⟨lenM _ _, trivial⟩ rfl ?_
      rcases condI h with ⟨hc_11, h⟩ | ⟨hc_11, h⟩
      · refine Ex.condT _ rfl hc_11 ?_
        refine Ex.skip ?_
        refine Ex.seq ?_
        refine Ex.blockK ?_
        obtain ⟨x_12, hx_12, h⟩ := Option.bind_eq_some_iff.1 h
        refine regH 7 [(3, .rop [.int .i64 x_12])] [0, 3, 4] [LGet (l_1.map (AV.int .i64)) i_7 1 [.int .i64 x_12]] (mkS 18 [(0, .sl (l_1.map (AV.int .i64)) none), (3, .int .i64 (IntKind.i64.wrap (n_6 + x_12))), (4, .int .i64 i_7)]) (⟨[], []⟩) (by kernel_rfl) ⟨LGet.of hx_12 rfl, trivial⟩ rfl ?_
        refine regH 3 [] [0, 3, 4] [] (mkS 18 [(0, .sl (l_1.map (AV.int .i64)) none), (3, .int .i64 (IntKind.i64.wrap (n_6 + x_12))), (4, .int .i64 (IntKind.i64.wrap (i_7 + 1)))]) (⟨[], []⟩) (by kernel_rfl) trivial rfl ?_
        dsimp only
        exact ⟨_, _, Forgets.refl _ _ _, k, Nat.lt_succ_self k, (IntKind.i64.wrap (n_6 + x_12)), (IntKind.i64.wrap (i_7 + 1)), h, rfl, rfl⟩
      · refine Ex.condF _ rfl hc_11 ?_
        refine Ex.exit ?_
        (try simp only [reduceCtorEq, AEx.ex.injEq, Nat.reduceEqDiff, if_true, if_false])
        exact ⟨_, _, forgetK [3], n_6, h, rfl, rfl⟩
  · rintro a S ⟨n_2, h, rfl, rfl⟩
    subst hK_5
    refine Ex.seq ?_
    refine regH 2 [] [2] [] (mkS 18 [(2, .int .i64 n_2)]) (⟨[], []⟩) (by kernel_rfl) trivial rfl ?_
    refine Ex.ret ?_
    obtain rfl := Option.some.inj h
    exact ⟨.inr rfl, .int .i64 n_2, by kernel_rfl, by kernel_rfl, by kernel_rfl, by kernel_rfl⟩
def p_br9_Draw (N : Nat) (tickets_1 : (List Int)) (secrets_2 : (List Int)) : Option (Int × Int × Int) := (bif (decide (((tickets_1.length : Nat) : Int) > 12)) then some (0, 0, 5) else (letJ (fun (_ : Unit) => (bif (((secrets_2.length : Nat) : Int) != ((tickets_1.length : Nat) : Int)) then some (0, 0, 1) else (letJ (fun (_ : Unit) => ((p_br9_sum N tickets_1).bind fun r_27 => (bif (r_27 == 0) then some (0, 0, 4) else ((p_br9_sum N secrets_2).bind fun r_29 => ((p_br9_sum N tickets_1).bind fun r_30 => ((nzI r_30).bind fun u_31 => (letJ (fun (holder_32 : Int) => some ((Int.tmod r_29 r_30), holder_32, 0)) (fun k_33 => (loop2 (fun rec_38 (holder_36 : Int) (before_37 : Int) => ((getI tickets_1 holder_36).bind fun x_41 => (bif (decide ((IntKind.i64.wrap (before_37 + x_41)) ≤ (Int.tmod r_29 r_30))) then ((getI tickets_1 holder_36).bind fun x_43 => (rec_38 (IntKind.i64.wrap (holder_36 + 1)) (IntKind.i64.wrap (before_37 + x_43)))) else (k_33 holder_36)))) N 0 0))))))))) (fun k_16 => (loop1 (fun rec_20 (i_19 : Int) => (bif (decide (i_19 < ((secrets_2.length : Nat) : Int))) then ((getI secrets_2 i_19).bind fun x_24 => ((p_br9_within N x_24 0 1000000000).bind fun r_25 => (bif (!r_25) then some (0, 0, 2) else (rec_20 (IntKind.i64.wrap (i_19 + 1)))))) else (k_16 ()))) N 0))))) (fun k_4 => (loop1 (fun rec_8 (i_7 : Int) => (bif (decide (i_7 < ((tickets_1.length : Nat) : Int))) then ((getI tickets_1 i_7).bind fun x_12 => ((p_br9_within N x_12 0 1000).bind fun r_13 => (bif (!r_13) then some (0, 0, 2) else (rec_8 (IntKind.i64.wrap (i_7 + 1)))))) else (k_4 ()))) N 0))))
def v_br9_Draw (r : Int × Int × Int) : AV := .tup [.int .i64 r.1, .int .i64 r.2.1, .int .i64 r.2.2]
attribute [local simp] v_br9_Draw
theorem b_br9_Draw (r : Int × Int × Int) (n n2 m : Nat) : back n n2 m (v_br9_Draw r) = some (v_br9_Draw r) := by simp
theorem d_br9_Draw (N : Nat) (tickets_1 : (List Int)) (secrets_2 : (List Int)) (r : Int × Int × Int) (h : p_br9_Draw N tickets_1 secrets_2 = some r) : Does Try.prog 33 [.sl (tickets_1.map (AV.int .i64)) none, .sl (secrets_2.map (AV.int .i64)) none] [] fun v c => v = v_br9_Draw r ∧ c = [] := by
  unfold p_br9_Draw at h
  refine Does.ofL comp33 _ _ rfl rfl ?_
  refine Ex.seq ?_
  refine regH 3 [] [0, 1] [] (mkS 70 [(0, .sl (tickets_1.map (AV.int .i64)) none), (1, .sl (secrets_2.map (AV.int .i64)) none)]) (⟨[], []⟩) (by kernel_rfl) trivial rfl ?_
  refine Ex.seq ?_
  refine Ex.seq ?_
  refine regH 3 [(1, .eq (.int .i64 ((tickets_1.length : Nat) : Int)))] [0, 1, 14] [AV.int .i64 (((tickets_1.map (AV.int .i64)).length : Nat) : Int) = AV.int .i64 ((tickets_1.length : Nat) : Int)] (mkS 70 [(0, .sl (tickets_1.map (AV.int .i64)) none), (1, .sl (secrets_2.map (AV.int .i64)) none), (14, .bool (decide (((tickets_1.length : Nat) : Int) > 12)))]) (⟨[], []⟩) (by kernel_rfl) ⟨lenM _ _, trivial⟩ rfl ?_
  rcases condI h with ⟨hc_3, h⟩ | ⟨hc_3, h⟩
  · refine Ex.condT _ rfl hc_3 ?_
    refine Ex.seq ?_
    refine regH 3 [] [4, 5, 6] [] (mkS 70 [(4, .int .i64 0), (5, .int .i64 0), (6, .int .i64 5)]) (⟨[], []⟩) (by kernel_rfl) trivial rfl ?_
    refine Ex.ret ?_
    obtain rfl := Option.some.inj h
    exact ⟨.inr rfl, .tup [.int .i64 0, .int .i64 0, .int .i64 5], by kernel_rfl, by kernel_rfl, by kernel_rfl, by kernel_rfl⟩
  · refine Ex.condF _ rfl hc_3 ?_
    refine Ex.skip ?_
    refine Ex.seq ?_
    refine Ex.seq ?_
    refine regH 1 [] [0, 1, 7] [] (mkS 70 [(0, .sl (tickets_1.map (AV.int .i64)) none), (1, .sl (secrets_2.map (AV.int .i64)) none), (7, .int .i64 0)]) (⟨[], []⟩) (by kernel_rfl) trivial rfl ?_
    obtain ⟨K_5, hK_6, h⟩ := letE h
    refine Ex.blockJ (fun a S => K_5 () = some r ∧ a = mkS 70 [(0, .sl (tickets_1.map (AV.int .i64)) none), (1, .sl (secrets_2.map (AV.int .i64)) none)] ∧ S = ⟨[], []⟩) ?_ ?_
    · obtain ⟨B_9, hB_10, h⟩ := loop1I h
      refine Ex.loopF (fun k a S => ∃ (i_7 : Int), loop1 B_9 k i_7 = some r ∧ a = mkS 70 [(0, .sl (tickets_1.map (AV.int .i64)) none), (1, .sl (secrets_2.map (AV.int .i64)) none), (7, .int .i64 i_7)] ∧ S = ⟨[], []⟩) N ⟨_, _, Forgets.refl _ _ _, 0, h, rfl, rfl⟩ ?_
      rintro k a S ⟨i_7, h, rfl, rfl⟩
      cases k with
      | zero => exact (loop1Z h).elim
      | succ k =>
        replace h := loop1S h hB_10
        refine Ex.seq ?_
        refine Ex.seq ?_
        refine regH 4 [(2, .eq (.int .i64 ((tickets_1.length : Nat) : Int)))] [0, 1, 7, 18] [AV.int .i64 (((tickets_1.map (AV.int .i64)).length : Nat) : Int) = AV.int .i64 ((tickets_1.length : Nat) : Int)] (mkS 70 [(0, .sl (tickets_1.map (AV.int .i64)) none), (1, .sl (secrets_2.map (AV.int .i64)) none), (7, .int .i64 i_7), (18, .bool (decide (i_7 < ((tickets_1.length : Nat) : Int))))]) (⟨[], []⟩) (by kernel_rfl) ⟨lenM _ _, trivial⟩ rfl ?_
        rcases condI h with ⟨hc_11, h⟩ | ⟨hc_11, h⟩
        · refine Ex.condT _ rfl hc_11 ?_
          refine Ex.skip ?_
          refine Ex.seq ?_
          refine Ex.blockK ?_
          refine Ex.seq ?_
          obtain ⟨x_12, hx_12, h⟩ := Option.bind_eq_some_iff.1 h
          obtain ⟨r_13, hr_13, h⟩ := Option.bind_eq_some_iff.1 h
          refine Ex.reg ?_
          refine runH 4 [(2, .rop [.int .i64 x_12])] [0, 1, 7, 24] [LGet (tickets_1.map (AV.int .i64)) i_7 1 [.int .i64 x_12]] (mkS 70 [(0, .sl (tickets_1.map (AV.int .i64)) none), (1, .sl (secrets_2.map (AV.int .i64)) none), (7, .int .i64 i_7), (24, .int .i64 x_12)]) (⟨[], []⟩) (by kernel_rfl) ⟨LGet.of hx_12 rfl, trivial⟩ ?_
          refine ExO.callL [] [.int .i64 x_12, .int .i64 0, .int .i64 1000] rfl rfl (a_br9_within x_12 0 1000) rfl rfl (d_br9_within N x_12 0 1000 r_13 hr_13) (b_br9_within _ _ _ _) rfl ?_
          refine runH 1 [] [0, 1, 7, 26] [] (mkS 70 [(0, .sl (tickets_1.map (AV.int .i64)) none), (1, .sl (secrets_2.map (AV.int .i64)) none), (7, .int .i64 i_7), (26, .bool (!r_13))]) (⟨[], []⟩) (by kernel_rfl) trivial ?_
          refine ExO.nil ?_
          rcases condI h with ⟨hc_14, h⟩ | ⟨hc_14, h⟩
          · refine Ex.condT _ rfl hc_14 ?_
            refine Ex.seq ?_
            refine regH 3 [] [4, 5, 6] [] (mkS 70 [(4, .int .i64 0), (5, .int .i64 0), (6, .int .i64 2)]) (⟨[], []⟩) (by kernel_rfl) trivial rfl ?_
            refine Ex.ret ?_
            obtain rfl := Option.some.inj h
            exact ⟨.inr rfl, .tup [.int .i64 0, .int .i64 0, .int .i64 2], by kernel_rfl, by kernel_rfl, by kernel_rfl, by kernel_rfl⟩
          · refine Ex.condF _ rfl hc_14 ?_
            refine Ex.skip ?_
            refine regH 3 [] [0, 1, 7] [] (mkS 70 [(0, .sl (tickets_1.map (AV.int .i64)) none), (1, .sl (secrets_2.map (AV.int .i64)) none), (7, .int .i64 (IntKind.i64.wrap (i_7 + 1)))]) (⟨[], []⟩) (by kernel_rfl) trivial rfl ?_
            dsimp only
            exact ⟨_, _, Forgets.refl _ _ _, k, Nat.lt_succ_self k, (IntKind.i64.wrap (i_7 + 1)), h, rfl, rfl⟩
        · refine Ex.condF _ rfl hc_11 ?_
          refine Ex.exit ?_
          (try simp only [reduceCtorEq, AEx.ex.injEq, Nat.reduceEqDiff, if_true, if_false])
          exact ⟨_, _, forgetK [0, 1], h, rfl, rfl⟩
    · rintro a S ⟨h, rfl, rfl⟩
      subst hK_6
      refine Ex.seq ?_
      refine Ex.seq ?_
      refine regH 5 [(1, .eq (.int .i64 ((secrets_2.length : Nat) : Int))), (3, .eq (.int .i64 ((tickets_1.length : Nat) : Int)))] [0, 1, 31] [AV.int .i64 (((secrets_2.map (AV.int .i64)).length : Nat) : Int) = AV.int .i64 ((secrets_2.length : Nat) : Int), AV.int .i64 (((tickets_1.map (AV.int .i64)).length : Nat) : Int) = AV.int .i64 ((tickets_1.length : Nat) : Int)] (mkS 70 [(0, .sl (tickets_1.map (AV.int .i64)) none), (1, .sl (secrets_2.map (AV.int .i64)) none), (31, .bool (((secrets_2.length : Nat) : Int) != ((tickets_1.length : Nat) : Int)))]) (⟨[], []⟩) (by kernel_rfl) ⟨lenM _ _, lenM _ _, trivial⟩ rfl ?_
      rcases condI h with ⟨hc_15, h⟩ | ⟨hc_15, h⟩
      · refine Ex.condT _ rfl hc_15 ?_
        refine Ex.seq ?_
        refine regH 3 [] [4, 5, 6] [] (mkS 70 [(4, .int .i64 0), (5, .int .i64 0), (6, .int .i64 1)]) (⟨[], []⟩) (by kernel_rfl) trivial rfl ?_
        refine Ex.ret ?_
        obtain rfl := Option.some.inj h
        exact ⟨.inr rfl, .tup [.int .i64 0, .int .i64 0, .int .i64 1], by kernel_rfl, by kernel_rfl, by kernel_rfl, by kernel_rfl⟩
      · refine Ex.condF _ rfl hc_15 ?_
        refine Ex.skip ?_
        refine Ex.seq ?_
        refine Ex.seq ?_
        refine regH 1 [] [0, 1, 8] [] (mkS 70 [(0, .sl (tickets_1.map (AV.int .i64)) none), (1, .sl (secrets_2.map (AV.int .i64)) none), (8, .int .i64 0)]) (⟨[], []⟩) (by kernel_rfl) trivial rfl ?_
        obtain ⟨K_17, hK_18, h⟩ := letE h
        refine Ex.blockJ (fun a S => K_17 () = some r ∧ a = mkS 70 [(0, .sl (tickets_1.map (AV.int .i64)) none), (1, .sl (secrets_2.map (AV.int .i64)) none)] ∧ S = ⟨[], []⟩) ?_ ?_
        · obtain ⟨B_21, hB_22, h⟩ := loop1I h
          refine Ex.loopF (fun k a S => ∃ (i_19 : Int), loop1 B_21 k i_19 = some r ∧ a = mkS 70 [(0, .sl (tickets_1.map (AV.int .i64)) none), (1, .sl (secrets_2.map (AV.int .i64)) none), (8, .int .i64 i_19)] ∧ S = ⟨[], []⟩) N ⟨_, _, Forgets.refl _ _ _, 0, h, rfl, rfl⟩ ?_
          rintro k a S ⟨i_19, h, rfl, rfl⟩
          cases k with
          | zero => exact (loop1Z h).elim
          | succ k =>
            replace h := loop1S h hB_22
            refine Ex.seq ?_
            refine Ex.seq ?_
            refine regH 4 [(2, .eq (.int .i64 ((secrets_2.length : Nat) : Int)))] [0, 1, 8, 35] [AV.int .i64 (((secrets_2.map (AV.int .i64)).length : Nat) : Int) = AV.int .i64 ((secrets_2.length : Nat) : Int)] (mkS 70 [(0, .sl (tickets_1.map (AV.int .i64)) none), (1, .sl (secrets_2.map (AV.int .i64)) none), (8, .int .i64 i_19), (35, .bool (decide (i_19 < ((secrets_2.length : Nat) : Int))))]) (⟨[], []⟩) (by kernel_rfl) ⟨lenM _ _, trivial⟩ rfl ?_
            rcases condI h with ⟨hc_23, h⟩ | ⟨hc_23, h⟩
            · refine Ex.condT _ rfl hc_23 ?_
              refine Ex.skip ?_
              refine Ex.seq ?_
              refine Ex.blockK ?_
              refine Ex.seq ?_
              obtain ⟨x_24, hx_24, h⟩ := Option.bind_eq_some_iff.1 h
              obtain ⟨r_25, hr_25, h⟩ := Option.bind_eq_some_iff.1 h
              refine Ex.reg ?_
              refine runH 4 [(2, .rop [.int .i64 x_24])] [0, 1, 8, 41] [LGet (secrets_2.map (AV.int .i64)) i_19 1 [.int .i64 x_24]] (mkS 70 [(0, .sl (tickets_1.map (AV.int .i64)) none), (1, .sl (secrets_2.map (AV.int .i64)) none), (8, .int .i64 i_19), (41, .int .i64 x_24)]) (⟨[], []⟩) (by kernel_rfl) ⟨LGet.of hx_24 rfl, trivial⟩ ?_
              refine ExO.callL [] [.int .i64 x_24, .int .i64 0, .int .i64 1000000000] rfl rfl (a_br9_within x_24 0 1000000000) rfl rfl (d_br9_within N x_24 0 1000000000 r_25 hr_25) (b_br9_within _ _ _ _) rfl ?_
              refine runH 1 [] [0, 1, 8, 43] [] (mkS 70 [(0, .sl (tickets_1.map (AV.int .i64)) none), (1, .sl (secrets_2.map (AV.int .i64)) none), (8, .int .i64 i_19), (43, .bool (!r_25))]) (⟨[], []⟩) (by kernel_rfl) trivial ?_
              refine ExO.nil ?_
              rcases condI h with ⟨hc_26, h⟩ | ⟨hc_26, h⟩
              · refine Ex.condT _ rfl hc_26 ?_
                refine Ex.seq ?_
                refine regH 3 [] [4, 5, 6] [] (mkS 70 [(4, .int .i64 0), (5, .int .i64 0), (6, .int .i64 2)]) (⟨[], []⟩) (by kernel_rfl) trivial rfl ?_
                refine Ex.ret ?_
                obtain rfl := Option.some.inj h
                exact ⟨.inr rfl, .tup [.int .i64 0, .int .i64 0, .int .i64 2], by kernel_rfl, by kernel_rfl, by kernel_rfl, by kernel_rfl⟩
              · refine Ex.condF _ rfl hc_26 ?_
                refine Ex.skip ?_
                refine regH 3 [] [0, 1, 8] [] (mkS 70 [(0, .sl (tickets_1.map (AV.int .i64)) none), (1, .sl (secrets_2.map (AV.int .i64)) none), (8, .int .i64 (IntKind.i64.wrap (i_19 + 1)))]) (⟨[], []⟩) (by kernel_rfl) trivial rfl ?_
                dsimp only
                exact ⟨_, _, Forgets.refl _ _ _, k, Nat.lt_succ_self k, (IntKind.i64.wrap (i_19 + 1)), h, rfl, rfl⟩
            · refine Ex.condF _ rfl hc_23 ?_
              refine Ex.exit ?_
              (try simp only [reduceCtorEq, AEx.ex.injEq, Nat.reduceEqDiff, if_true, if_false])
              exact ⟨_, _, forgetK [0, 1], h, rfl, rfl⟩
        · rintro a S ⟨h, rfl, rfl⟩
          subst hK_18
          refine Ex.seq ?_
          refine Ex.seq ?_
          obtain ⟨r_27, hr_27, h⟩ := Option.bind_eq_some_iff.1 h
          refine Ex.reg ?_
          refine runH 1 [] [0, 1, 44] [] (mkS 70 [(0, .sl (tickets_1.map (AV.int .i64)) none), (1, .sl (secrets_2.map (AV.int .i64)) none), (44, .sl (tickets_1.map (AV.int .i64)) none)]) (⟨[], []⟩) (by kernel_rfl) trivial ?_
          refine ExO.callL [] [.sl (tickets_1.map (AV.int .i64)) none] rfl rfl (a_br9_sum tickets_1) rfl rfl (d_br9_sum N tickets_1 r_27 hr_27) (b_br9_sum _ _ _ _) rfl ?_
          refine runH 1 [] [0, 1, 46] [] (mkS 70 [(0, .sl (tickets_1.map (AV.int .i64)) none), (1, .sl (secrets_2.map (AV.int .i64)) none), (46, .bool (r_27 == 0))]) (⟨[], []⟩) (by kernel_rfl) trivial ?_
          refine ExO.nil ?_
          rcases condI h with ⟨hc_28, h⟩ | ⟨hc_28, h⟩
          · refine Ex.condT _ rfl hc_28 ?_
            refine Ex.seq ?_
            refine regH 3 [] [4, 5, 6] [] (mkS 70 [(4, .int .i64 0), (5, .int .i64 0), (6, .int .i64 4)]) (⟨[], []⟩) (by kernel_rfl) trivial rfl ?_
            refine Ex.ret ?_
            obtain rfl := Option.some.inj h
            exact ⟨.inr rfl, .tup [.int .i64 0, .int .i64 0, .int .i64 4], by kernel_rfl, by kernel_rfl, by kernel_rfl, by kernel_rfl⟩
          · refine Ex.condF _ rfl hc_28 ?_
            refine Ex.skip ?_
            refine Ex.seq ?_
            obtain ⟨r_29, hr_29, h⟩ := Option.bind_eq_some_iff.1 h
            refine Ex.reg ?_
            refine runH 1 [] [0, 47] [] (mkS 70 [(0, .sl (tickets_1.map (AV.int .i64)) none), (47, .sl (secrets_2.map (AV.int .i64)) none)]) (⟨[], []⟩) (by kernel_rfl) trivial ?_
            refine ExO.callL [] [.sl (secrets_2.map (AV.int .i64)) none] rfl rfl (a_br9_sum secrets_2) rfl rfl (d_br9_sum N secrets_2 r_29 hr_29) (b_br9_sum _ _ _ _) rfl ?_
            obtain ⟨r_30, hr_30, h⟩ := Option.bind_eq_some_iff.1 h
            refine runH 1 [] [0, 48, 49] [] (mkS 70 [(0, .sl (tickets_1.map (AV.int .i64)) none), (48, .int .i64 r_29), (49, .sl (tickets_1.map (AV.int .i64)) none)]) (⟨[], []⟩) (by kernel_rfl) trivial ?_
            refine ExO.callL [] [.sl (tickets_1.map (AV.int .i64)) none] rfl rfl (a_br9_sum tickets_1) rfl rfl (d_br9_sum N tickets_1 r_30 hr_30) (b_br9_sum _ _ _ _) rfl ?_
            obtain ⟨u_31, hu_31, h⟩ := Option.bind_eq_some_iff.1 h
            refine runH 2 [(0, .bin (.int .i64 (Int.tmod r_29 r_30)))] [0, 9] [binA .rem (.int .i64 r_29) (.int .i64 r_30) = some (.int .i64 (Int.tmod r_29 r_30))] (mkS 70 [(0, .sl (tickets_1.map (AV.int .i64)) none), (9, .int .i64 (Int.tmod r_29 r_30))]) (⟨[], []⟩) (by kernel_rfl) ⟨binR hu_31, trivial⟩ ?_
            refine ExO.nil ?_
            refine Ex.seq ?_
            refine regH 2 [] [0, 9, 10, 11] [] (mkS 70 [(0, .sl (tickets_1.map (AV.int .i64)) none), (9, .int .i64 (Int.tmod r_29 r_30)), (10, .int .i64 0), (11, .int .i64 0)]) (⟨[], []⟩) (by kernel_rfl) trivial rfl ?_
            refine Ex.seq ?_
            obtain ⟨K_34, hK_35, h⟩ := letE h
            refine Ex.blockJ (fun a S => ∃ (holder_32 : Int), K_34 holder_32 = some r ∧ a = mkS 70 [(9, .int .i64 (Int.tmod r_29 r_30)), (10, .int .i64 holder_32)] ∧ S = ⟨[], []⟩) ?_ ?_
            · obtain ⟨B_39, hB_40, h⟩ := loop2I h
              refine Ex.loopF (fun k a S => ∃ (holder_36 : Int), ∃ (before_37 : Int), loop2 B_39 k holder_36 before_37 = some r ∧ a = mkS 70 [(0, .sl (tickets_1.map (AV.int .i64)) none), (9, .int .i64 (Int.tmod r_29 r_30)), (10, .int .i64 holder_36), (11, .int .i64 before_37)] ∧ S = ⟨[], []⟩) N ⟨_, _, Forgets.refl _ _ _, 0, 0, h, rfl, rfl⟩ ?_
              rintro k a S ⟨holder_36, before_37, h, rfl, rfl⟩
              cases k with
              | zero => exact (loop2Z h).elim
              | succ k =>
                replace h := loop2S h hB_40
                refine Ex.seq ?_
                refine Ex.seq ?_
                obtain ⟨x_41, hx_41, h⟩ := Option.bind_eq_some_iff.1 h
                refine regH 8 [(3, .rop [.int .i64 x_41])] [0, 9, 10, 11, 59] [LGet (tickets_1.map (AV.int .i64)) holder_36 1 [.int .i64 x_41]] (mkS 70 [(0, .sl (tickets_1.map (AV.int .i64)) none), (9, .int .i64 (Int.tmod r_29 r_30)), (10, .int .i64 holder_36), (11, .int .i64 before_37), (59, .bool (decide ((IntKind.i64.wrap (before_37 + x_41)) ≤ (Int.tmod r_29 r_30))))]) (⟨[], []⟩) (by kernel_rfl) ⟨LGet.of hx_41 rfl, trivial⟩ rfl ?_
                rcases condI h with ⟨hc_42, h⟩ | ⟨hc_42, h⟩
                · refine Ex.condT _ rfl hc_42 ?_
                  refine Ex.skip ?_
                  refine Ex.blockK ?_
                  refine Ex.seq ?_
                  obtain ⟨x_43, hx_43, h⟩ := Option.bind_eq_some_iff.1 h
                  refine regH 7 [(3, .rop [.int .i64 x_43])] [0, 9, 10, 11] [LGet (tickets_1.map (AV.int .i64)) holder_36 1 [.int .i64 x_43]] (mkS 70 [(0, .sl (tickets_1.map (AV.int .i64)) none), (9, .int .i64 (Int.tmod r_29 r_30)), (10, .int .i64 holder_36), (11, .int .i64 (IntKind.i64.wrap (before_37 + x_43)))]) (⟨[], []⟩) (by kernel_rfl) ⟨LGet.of hx_43 rfl, trivial⟩ rfl ?_
                  refine regH 3 [] [0, 9, 10, 11] [] (mkS 70 [(0, .sl (tickets_1.map (AV.int .i64)) none), (9, .int .i64 (Int.tmod r_29 r_30)), (10, .int .i64 (IntKind.i64.wrap (holder_36 + 1))), (11, .int .i64 (IntKind.i64.wrap (before_37 + x_43)))]) (⟨[], []⟩) (by kernel_rfl) trivial rfl ?_
                  dsimp only
                  exact ⟨_, _, Forgets.refl _ _ _, k, Nat.lt_succ_self k, (IntKind.i64.wrap (holder_36 + 1)), (IntKind.i64.wrap (before_37 + x_43)), h, rfl, rfl⟩
                · refine Ex.condF _ rfl hc_42 ?_
                  refine Ex.exit ?_
                  (try simp only [reduceCtorEq, AEx.ex.injEq, Nat.reduceEqDiff, if_true, if_false])
                  exact ⟨_, _, forgetK [9, 10], holder_36, h, rfl, rfl⟩
            · rintro a S ⟨holder_32, h, rfl, rfl⟩
              subst hK_35
              refine Ex.seq ?_
              refine regH 5 [] [4, 5, 6] [] (mkS 70 [(4, .int .i64 (Int.tmod r_29 r_30)), (5, .int .i64 holder_32), (6, .int .i64 0)]) (⟨[], []⟩) (by kernel_rfl) trivial rfl ?_
              refine Ex.ret ?_
              obtain rfl := Option.some.inj h
              exact ⟨.inr rfl, .tup [.int .i64 (Int.tmod r_29 r_30), .int .i64 holder_32, .int .i64 0], by kernel_rfl, by kernel_rfl, by kernel_rfl, by kernel_rfl⟩
def p_bl9_CoinDraws (N : Nat) (tickets_1 : (List Int)) (secrets_2 : (List Int)) (nums_3 : (List Int)) : Option (Bool) := (letJ (fun (y_4 : Bool) => (bif y_4 then ((p_bl9_awake N).bind fun r_10 => some r_10) else ((p_bk_DrumOf N nums_3).bind fun r_11 => ((p_bk_Drum_Roll N r_11 6).bind fun r_12 => (letJ (fun (some_13 : List Int) (hidden_14 : List Int) => (letJ (fun (_ : Unit) => ((p_bl9_awake N).bind fun r_63 => some r_63)) (fun k_32 => (loop1 (fun rec_36 (i_35 : Int) => (bif (decide (i_35 < 3)) then ((getI ([tickets_1, some_13, some_13] : List (List Int)) i_35).bind fun x_40 => ((p_bk_Ints N x_40).bind fun r_41 => ((getI ([secrets_2, hidden_14, secrets_2] : List (List Int)) i_35).bind fun x_42 => ((p_bk_Ints N x_42).bind fun r_44 => ((p_coin_Draw N r_41 r_44).bind fun r_45 => ((getI ([tickets_1, some_13, some_13] : List (List Int)) i_35).bind fun x_46 => ((getI ([secrets_2, hidden_14, secrets_2] : List (List Int)) i_35).bind fun x_47 => ((p_br9_Draw N x_46 x_47).bind fun r_48 => (letJ (fun (y_50 : Bool) => (bif y_50 then some false else (rec_36 (IntKind.i64.wrap (i_35 + 1))))) (fun k_51 => (bif (r_45.1 != r_48.1) then (k_51 true) else (bif (r_45.2.1 != r_48.2.1) then (k_51 true) else (bif (r_45.2.2 != r_48.2.2) then (k_51 true) else ((getI ([tickets_1, some_13, some_13] : List (List Int)) i_35).bind fun x_57 => ((p_bk_EqInts N r_41 x_57).bind fun r_58 => (bif (!r_58) then (k_51 true) else ((getI ([secrets_2, hidden_14, secrets_2] : List (List Int)) i_35).bind fun x_60 => ((p_bk_EqInts N r_44 x_60).bind fun r_61 => (k_51 (!r_61)))))))))))))))))))) else (k_32 ()))) N 0)))) (fun k_15 => (loop4 (fun rec_22 (some_18 : List Int) (hidden_19 : List Int) (i_20 : Int) (b_21 : Int) => (bif (decide (i_20 > 0)) then ((p_bk_Drum_Roll N (⟨b_21⟩ : T_bk_Drum) 5).bind fun r_26 => ((p_bk_Drum_Roll N r_26.2 1001).bind fun r_27 => ((p_bk_Drum_Any N r_27.2 [0, r_26.1, r_27.1]).bind fun r_28 => ((pushI some_18 ([r_28.1] : List Int)).bind fun l_29 => ((p_bk_Drum_Roll N r_28.2 1000000001).bind fun r_30 => ((pushI hidden_19 ([r_30.1] : List Int)).bind fun l_31 => (rec_22 l_29 l_31 (IntKind.i64.wrap (i_20 - 1)) r_30.2.beat_))))))) else (k_15 some_18 hidden_19))) N [] [] r_12.1 r_12.2.beat_))))))) (fun k_5 => (bif (decide (((tickets_1.length : Nat) : Int) > 20)) then (k_5 true) else (k_5 (decide (((secrets_2.length : Nat) : Int) > 20))))))
def v_bl9_CoinDraws (r : Bool) : AV := .bool r
attribute [local simp] v_bl9_CoinDraws
theorem d_bl9_CoinDraws (N : Nat) (tickets_1 : (List Int)) (secrets_2 : (List Int)) (nums_3 : (List Int)) (r : Bool) (h : p_bl9_CoinDraws N tickets_1 secrets_2 nums_3 = some r) : Does Try.prog 4 [.sl (tickets_1.map (AV.int .i64)) none, .sl (secrets_2.map (AV.int .i64)) none, .sl (nums_3.map (AV.int .i64)) none] [] fun v c => v = v_bl9_CoinDraws r ∧ c = [] := by
  unfold p_bl9_CoinDraws at h
  refine Does.ofL comp4 _ _ rfl rfl ?_
  refine Ex.seq ?_
  refine regH 1 [] [0, 1, 2] [] (mkS 130 [(0, .sl (tickets_1.map (AV.int .i64)) none), (1, .sl (secrets_2.map (AV.int .i64)) none), (2, .sl (nums_3.map (AV.int .i64)) none)]) (⟨[], []⟩) (by kernel_rfl) trivial rfl ?_
  refine Ex.seq ?_
  obtain ⟨K_6, hK_7, h⟩ := letE h
  refine Ex.seqJ (fun a S => ∃ (y_4 : Bool), K_6 y_4 = some r ∧ a = mkS 130 [(0, .sl (tickets_1.map (AV.int .i64)) none), (1, .sl (secrets_2.map (AV.int .i64)) none), (2, .sl (nums_3.map (AV.int .i64)) none), (29, .bool y_4)] ∧ S = ⟨[], []⟩) ?_ ?_
  · rcases condI h with ⟨hc_8, h⟩ | ⟨hc_8, h⟩
    · refine regH 8 [(1, .eq (.int .i64 ((tickets_1.length : Nat) : Int))), (3, .eq (.bool true))] [0, 1, 2, 29] [AV.int .i64 (((tickets_1.map (AV.int .i64)).length : Nat) : Int) = AV.int .i64 ((tickets_1.length : Nat) : Int), AV.bool (decide (((tickets_1.length : Nat) : Int) > 20)) = AV.bool true] (mkS 130 [(0, .sl (tickets_1.map (AV.int .i64)) none), (1, .sl (secrets_2.map (AV.int .i64)) none), (2, .sl (nums_3.map (AV.int .i64)) none), (29, .bool true)]) (⟨[], []⟩) (by kernel_rfl) ⟨lenM _ _, congrArg AV.bool hc_8, trivial⟩ rfl ?_
      (try simp only [reduceCtorEq, AEx.ex.injEq, Nat.reduceEqDiff, if_true, if_false])
      exact ⟨_, _, Forgets.refl _ _ _, true, h, rfl, rfl⟩
    · refine regH 8 [(1, .eq (.int .i64 ((tickets_1.length : Nat) : Int))), (3, .eq (.bool false)), (5, .eq (.int .i64 ((secrets_2.length : Nat) : Int)))] [0, 1, 2, 29] [AV.int .i64 (((tickets_1.map (AV.int .i64)).length : Nat) : Int) = AV.int .i64 ((tickets_1.length : Nat) : Int), AV.bool (decide (((tickets_1.length : Nat) : Int) > 20)) = AV.bool false, AV.int .i64 (((secrets_2.map (AV.int .i64)).length : Nat) : Int) = AV.int .i64 ((secrets_2.length : Nat) : Int)] (mkS 130 [(0, .sl (tickets_1.map (AV.int .i64)) none), (1, .sl (secrets_2.map (AV.int .i64)) none), (2, .sl (nums_3.map (AV.int .i64)) none), (29, .bool (decide (((secrets_2.length : Nat) : Int) > 20)))]) (⟨[], []⟩) (by kernel_rfl) ⟨lenM _ _, congrArg AV.bool hc_8, lenM _ _, trivial⟩ rfl ?_
      (try simp only [reduceCtorEq, AEx.ex.injEq, Nat.reduceEqDiff, if_true, if_false])
      exact ⟨_, _, Forgets.refl _ _ _, (decide (((secrets_2.length : Nat) : Int) > 20)), h, rfl, rfl⟩
  · rintro a S ⟨y_4, h, rfl, rfl⟩
    subst hK_7
    rcases condI h with ⟨hc_9, h⟩ | ⟨hc_9, h⟩
    · refine Ex.condT _ rfl hc_9 ?_
      refine Ex.seq ?_
      obtain ⟨r_10, hr_10, h⟩ := Option.bind_eq_some_iff.1 h
      refine Ex.reg ?_
      refine ExO.callL [] [] rfl rfl (a_bl9_awake) rfl rfl (d_bl9_awake N r_10 hr_10) (b_bl9_awake _ _ _ _) rfl ?_
      refine runH 1 [] [6] [] (mkS 130 [(6, .bool r_10)]) (⟨[], []⟩) (by kernel_rfl) trivial ?_
      refine ExO.nil ?_
      refine Ex.ret ?_
      obtain rfl := Option.some.inj h
      exact ⟨.inr rfl, .bool r_10, by kernel_rfl, by kernel_rfl, by kernel_rfl, by kernel_rfl⟩
    · refine Ex.condF _ rfl hc_9 ?_
      refine Ex.skip ?_
      refine Ex.seq ?_
      obtain ⟨r_11, hr_11, h⟩ := Option.bind_eq_some_iff.1 h
      refine Ex.reg ?_
      refine runH 1 [] [0, 1, 31] [] (mkS 130 [(0, .sl (tickets_1.map (AV.int .i64)) none), (1, .sl (secrets_2.map (AV.int .i64)) none), (31, .sl (nums_3.map (AV.int .i64)) none)]) (⟨[], []⟩) (by kernel_rfl) trivial ?_
      refine ExO.callL (v' := .ptr 0 0) [] [.sl (nums_3.map (AV.int .i64)) none] rfl rfl (a_bk_DrumOf nums_3) rfl rfl (d_bk_DrumOf N nums_3 r_11 hr_11) rfl (by simp) ?_
      refine runH 1 [] [0, 1, 7] [] (mkS 130 [(0, .sl (tickets_1.map (AV.int .i64)) none), (1, .sl (secrets_2.map (AV.int .i64)) none), (7, .ptr 0 0)]) (⟨[(C_bk_Drum r_11)], []⟩) (by kernel_rfl) trivial ?_
      refine ExO.nil ?_
      refine Ex.seq ?_
      refine regH 2 [] [0, 1, 7, 8, 9] [] (mkS 130 [(0, .sl (tickets_1.map (AV.int .i64)) none), (1, .sl (secrets_2.map (AV.int .i64)) none), (7, .ptr 0 0), (8, .nils), (9, .nils)]) (⟨[(C_bk_Drum r_11)], []⟩) (by kernel_rfl) trivial rfl ?_
      refine Ex.seq ?_
      refine Ex.seq ?_
      obtain ⟨r_12, hr_12, h⟩ := Option.bind_eq_some_iff.1 h
      refine Ex.reg ?_
      refine runH 1 [] [0, 1, 7, 8, 9, 33] [] (mkS 130 [(0, .sl (tickets_1.map (AV.int .i64)) none), (1, .sl (secrets_2.map (AV.int .i64)) none), (7, .ptr 0 0), (8, .nils), (9, .nils), (33, .ptr 0 0)]) (⟨[(C_bk_Drum r_11)], []⟩) (by kernel_rfl) trivial ?_
      refine ExO.callL [0] [.ptr 0 0, .int .i64 6] rfl rfl (by simp; try rfl) rfl (by simp) (d_bk_Drum_Roll N r_11 6 r_12 hr_12) (b_bk_Drum_Roll _ _ _ _) (by simp) ?_
      refine runH 1 [] [0, 1, 7, 8, 9, 10] [] (mkS 130 [(0, .sl (tickets_1.map (AV.int .i64)) none), (1, .sl (secrets_2.map (AV.int .i64)) none), (7, .ptr 0 0), (8, .nils), (9, .nils), (10, .int .i64 r_12.1)]) (⟨[(C_bk_Drum r_12.2)], []⟩) (by kernel_rfl) trivial ?_
      refine ExO.nil ?_
      obtain ⟨K_16, hK_17, h⟩ := letE h
      refine Ex.blockJ (fun a S => ∃ (some_13 : List Int), ∃ (hidden_14 : List Int), K_16 some_13 hidden_14 = some r ∧ a = mkS 130 [(0, .sl (tickets_1.map (AV.int .i64)) none), (1, .sl (secrets_2.map (AV.int .i64)) none), (8, .sl (some_13.map (AV.int .i64)) (some 0)), (9, .sl (hidden_14.map (AV.int .i64)) (some 1))] ∧ S = ⟨[], [(some_13.length, 1), (hidden_14.length, 1)]⟩) ?_ ?_
      · refine Ex.forget (nilK 8 1 rfl) ?_
        refine Ex.forget (nilK 9 1 rfl) ?_
        refine Ex.castA (a2 := mkS 130 [(0, .sl (tickets_1.map (AV.int .i64)) none), (1, .sl (secrets_2.map (AV.int .i64)) none), (7, .ptr 0 0), (8, .sl (([] : List Int).map (AV.int .i64)) (some 0)), (9, .sl (([] : List Int).map (AV.int .i64)) (some 1)), (10, .int .i64 r_12.1)]) (S2 := ⟨[(C_bk_Drum r_12.2)], [(0, 1), (0, 1)]⟩) (by kernel_rfl) (by kernel_rfl) ?_
        obtain ⟨B_23, hB_24, h⟩ := loop4I h
        refine Ex.loopF (fun k a S => ∃ (some_18 : List Int), ∃ (hidden_19 : List Int), ∃ (i_20 : Int), ∃ (b_21 : Int), loop4 B_23 k some_18 hidden_19 i_20 b_21 = some r ∧ a = mkS 130 [(0, .sl (tickets_1.map (AV.int .i64)) none), (1, .sl (secrets_2.map (AV.int .i64)) none), (7, .ptr 0 0), (8, .sl (some_18.map (AV.int .i64)) (some 0)), (9, .sl (hidden_19.map (AV.int .i64)) (some 1)), (10, .int .i64 i_20)] ∧ S = ⟨[[.int .u64 b_21]], [(some_18.length, 1), (hidden_19.length, 1)]⟩) N ⟨_, _, Forgets.refl _ _ _, [], [], r_12.1, r_12.2.beat_, h, rfl, rfl⟩ ?_
        rintro k a S ⟨some_18, hidden_19, i_20, b_21, h, rfl, rfl⟩
        cases k with
        | zero => exact (loop4Z h).elim
        | succ k =>
          replace h := loop4S h hB_24
          refine Ex.seq ?_
          refine Ex.seq ?_
          refine regH 2 [] [0, 1, 7, 8, 9, 10, 36] [] (mkS 130 [(0, .sl (tickets_1.map (AV.int .i64)) none), (1, .sl (secrets_2.map (AV.int .i64)) none), (7, .ptr 0 0), (8, .sl (some_18.map (AV.int .i64)) (some 0)), (9, .sl (hidden_19.map (AV.int .i64)) (some 1)), (10, .int .i64 i_20), (36, .bool (decide (i_20 > 0)))]) (⟨[[.int .u64 b_21]], [(some_18.length, 1), (hidden_19.length, 1)]⟩) (by kernel_rfl) trivial rfl ?_
          rcases condI h with ⟨hc_25, h⟩ | ⟨hc_25, h⟩
          · refine Ex.condT _ rfl hc_25 ?_
            refine Ex.skip ?_
            refine Ex.seq ?_
            refine Ex.blockK ?_
            obtain ⟨r_26, hr_26, h⟩ := Option.bind_eq_some_iff.1 h
            refine Ex.reg ?_
            refine runH 3 [] [0, 1, 7, 9, 10, 39, 40, 41] [] (mkS 130 [(0, .sl (tickets_1.map (AV.int .i64)) none), (1, .sl (secrets_2.map (AV.int .i64)) none), (7, .ptr 0 0), (9, .sl (hidden_19.map (AV.int .i64)) (some 1)), (10, .int .i64 i_20), (39, .sl (some_18.map (AV.int .i64)) (some 0)), (40, .ptr 0 0), (41, .ptr 0 0)]) (⟨[[.int .u64 b_21]], [(some_18.length, 1), (hidden_19.length, 1)]⟩) (by kernel_rfl) trivial ?_
            refine ExO.callL [0] [.ptr 0 0, .int .i64 5] rfl rfl (by simp; try rfl) rfl (by simp) (d_bk_Drum_Roll N (⟨b_21⟩ : T_bk_Drum) 5 r_26 hr_26) (b_bk_Drum_Roll _ _ _ _) (by simp) ?_
            obtain ⟨r_27, hr_27, h⟩ := Option.bind_eq_some_iff.1 h
            refine runH 1 [] [0, 1, 7, 9, 10, 39, 40, 42, 43] [] (mkS 130 [(0, .sl (tickets_1.map (AV.int .i64)) none), (1, .sl (secrets_2.map (AV.int .i64)) none), (7, .ptr 0 0), (9, .sl (hidden_19.map (AV.int .i64)) (some 1)), (10, .int .i64 i_20), (39, .sl (some_18.map (AV.int .i64)) (some 0)), (40, .ptr 0 0), (42, .int .i64 r_26.1), (43, .ptr 0 0)]) (⟨[(C_bk_Drum r_26.2)], [(some_18.length, 1), (hidden_19.length, 1)]⟩) (by kernel_rfl) trivial ?_
            refine ExO.callL [0] [.ptr 0 0, .int .i64 1001] rfl rfl (by simp; try rfl) rfl (by simp) (d_bk_Drum_Roll N r_26.2 1001 r_27 hr_27) (b_bk_Drum_Roll _ _ _ _) (by simp) ?_
            obtain ⟨r_28, hr_28, h⟩ := Option.bind_eq_some_iff.1 h
            refine runH 1 [] [0, 1, 7, 9, 10, 39, 40, 45] [] (mkS 130 [(0, .sl (tickets_1.map (AV.int .i64)) none), (1, .sl (secrets_2.map (AV.int .i64)) none), (7, .ptr 0 0), (9, .sl (hidden_19.map (AV.int .i64)) (some 1)), (10, .int .i64 i_20), (39, .sl (some_18.map (AV.int .i64)) (some 0)), (40, .ptr 0 0), (45, .sl (([0, r_26.1, r_27.1] : List Int).map (AV.int .i64)) (some 2))]) (⟨[(C_bk_Drum r_27.2)], [(some_18.length, 1), (hidden_19.length, 1), (3, 1)]⟩) (by kernel_rfl) trivial ?_
            refine ExO.callL [0] [.ptr 0 0, .sl (([0, r_26.1, r_27.1] : List Int).map (AV.int .i64)) (some 2)] rfl rfl (by simp; try rfl) rfl (by simp) (d_bk_Drum_Any N r_27.2 [0, r_26.1, r_27.1] r_28 hr_28) (b_bk_Drum_Any _ _ _ _) (by simp) ?_
            obtain ⟨l_29, hl_29, h⟩ := Option.bind_eq_some_iff.1 h
            obtain ⟨r_30, hr_30, h⟩ := Option.bind_eq_some_iff.1 h
            refine runH 4 [(1, .app (l_29.map (AV.int .i64)) l_29.length)] [0, 1, 7, 10, 48, 49, 50] [LApp some_18.length (some_18.map (AV.int .i64)) (([r_28.1] : List Int).map (AV.int .i64)) 1 (l_29.map (AV.int .i64)) l_29.length] (mkS 130 [(0, .sl (tickets_1.map (AV.int .i64)) none), (1, .sl (secrets_2.map (AV.int .i64)) none), (7, .ptr 0 0), (10, .int .i64 i_20), (48, .sl (l_29.map (AV.int .i64)) (some 0)), (49, .sl (hidden_19.map (AV.int .i64)) (some 1)), (50, .ptr 0 0)]) (⟨[(C_bk_Drum r_28.2)], [(l_29.length, 1), (hidden_19.length, 1), (3, 1), (1, 1)]⟩) (by kernel_rfl) ⟨LApp.of hl_29 (fun _ => rfl), trivial⟩ ?_
            refine ExO.callL [0] [.ptr 0 0, .int .i64 1000000001] rfl rfl (by simp; try rfl) rfl (by simp) (d_bk_Drum_Roll N r_28.2 1000000001 r_30 hr_30) (b_bk_Drum_Roll _ _ _ _) (by simp) ?_
            obtain ⟨l_31, hl_31, h⟩ := Option.bind_eq_some_iff.1 h
            refine runH 4 [(1, .app (l_31.map (AV.int .i64)) l_31.length)] [0, 1, 7, 8, 9, 10] [LApp hidden_19.length (hidden_19.map (AV.int .i64)) (([r_30.1] : List Int).map (AV.int .i64)) 1 (l_31.map (AV.int .i64)) l_31.length] (mkS 130 [(0, .sl (tickets_1.map (AV.int .i64)) none), (1, .sl (secrets_2.map (AV.int .i64)) none), (7, .ptr 0 0), (8, .sl (l_29.map (AV.int .i64)) (some 0)), (9, .sl (l_31.map (AV.int .i64)) (some 1)), (10, .int .i64 i_20)]) (⟨[(C_bk_Drum r_30.2)], [(l_29.length, 1), (l_31.length, 1), (3, 1), (1, 1), (1, 1)]⟩) (by kernel_rfl) ⟨LApp.of hl_31 (fun _ => rfl), trivial⟩ ?_
            refine ExO.nil ?_
            refine regH 3 [] [0, 1, 7, 8, 9, 10] [] (mkS 130 [(0, .sl (tickets_1.map (AV.int .i64)) none), (1, .sl (secrets_2.map (AV.int .i64)) none), (7, .ptr 0 0), (8, .sl (l_29.map (AV.int .i64)) (some 0)), (9, .sl (l_31.map (AV.int .i64)) (some 1)), (10, .int .i64 (IntKind.i64.wrap (i_20 - 1)))]) (⟨[(C_bk_Drum r_30.2)], [(l_29.length, 1), (l_31.length, 1), (3, 1), (1, 1), (1, 1)]⟩) (by kernel_rfl) trivial rfl ?_
            dsimp only
            exact ⟨_, _, forgetA (m := 130) 1 [0, 1] [(0, .sl (tickets_1.map (AV.int .i64)) none), (1, .sl (secrets_2.map (AV.int .i64)) none), (7, .ptr 0 0), (8, .sl (l_29.map (AV.int .i64)) (some 0)), (9, .sl (l_31.map (AV.int .i64)) (some 1)), (10, .int .i64 (IntKind.i64.wrap (i_20 - 1)))] [(C_bk_Drum r_30.2)] [(l_29.length, 1), (l_31.length, 1)] (by simp [setAll]) (by simp) ⟨(reN (cleanI _ _)), (reN (cleanI _ _)), rfl, (reT (cleanI _ _) rfl), (reT (cleanI _ _) rfl), rfl, trivial⟩ (by simp) rfl (by decide), k, Nat.lt_succ_self k, l_29, l_31, (IntKind.i64.wrap (i_20 - 1)), r_30.2.beat_, h, rfl, rfl⟩
          · refine Ex.condF _ rfl hc_25 ?_
            refine Ex.exit ?_
            (try simp only [reduceCtorEq, AEx.ex.injEq, Nat.reduceEqDiff, if_true, if_false])
            exact ⟨_, _, forgetA (m := 130) 0 [0, 1] [(0, .sl (tickets_1.map (AV.int .i64)) none), (1, .sl (secrets_2.map (AV.int .i64)) none), (8, .sl (some_18.map (AV.int .i64)) (some 0)), (9, .sl (hidden_19.map (AV.int .i64)) (some 1))] [] [(some_18.length, 1), (hidden_19.length, 1)] (by simp [setAll]) (by simp) ⟨(reN (cleanI _ _)), (reN (cleanI _ _)), (reT (cleanI _ _) rfl), (reT (cleanI _ _) rfl), trivial⟩ (by simp) rfl (by decide), some_18, hidden_19, h, rfl, rfl⟩
      · rintro a S ⟨some_13, hidden_14, h, rfl, rfl⟩
        subst hK_17
        refine Ex.seq ?_
        refine Ex.postF ?_
        refine regH 10 [] [11, 12] [] (mkS 130 [(11, .sl [.sl (tickets_1.map (AV.int .i64)) none, .sl (some_13.map (AV.int .i64)) (some 0), .sl (some_13.map (AV.int .i64)) (some 0)] (some 2)), (12, .sl [.sl (secrets_2.map (AV.int .i64)) none, .sl (hidden_14.map (AV.int .i64)) (some 1), .sl (secrets_2.map (AV.int .i64)) none] (some 3))]) (⟨[], [(some_13.length, 1), (hidden_14.length, 1), (3, 1), (3, 1)]⟩) (by kernel_rfl) trivial rfl ?_
        refine ⟨mkS 130 [(11, .sl (([tickets_1, some_13, some_13] : List (List Int)).map (SV (AV.int .i64))) (some 2)), (12, .sl (([secrets_2, hidden_14, secrets_2] : List (List Int)).map (SV (AV.int .i64))) (some 3))], ⟨[], [(some_13.length, 1), (hidden_14.length, 1), (3, 1), (3, 1)]⟩, Forgets.castR (by kernel_rfl) rfl (Forgets.trans (fadeE 11 [.sl (tickets_1.map (AV.int .i64)) none, .sl (some_13.map (AV.int .i64)) (some 0), .sl (some_13.map (AV.int .i64)) (some 0)] (some 2) rfl) (fadeE 12 [.sl (secrets_2.map (AV.int .i64)) none, .sl (hidden_14.map (AV.int .i64)) (some 1), .sl (secrets_2.map (AV.int .i64)) none] (some 3) rfl)), ?_⟩
        refine Ex.seq ?_
        refine Ex.seq ?_
        refine regH 1 [] [11, 12, 13] [] (mkS 130 [(11, .sl (([tickets_1, some_13, some_13] : List (List Int)).map (SV (AV.int .i64))) (some 2)), (12, .sl (([secrets_2, hidden_14, secrets_2] : List (List Int)).map (SV (AV.int .i64))) (some 3)), (13, .int .i64 0)]) (⟨[], [(some_13.length, 1), (hidden_14.length, 1), (3, 1), (3, 1)]⟩) (by kernel_rfl) trivial rfl ?_
        obtain ⟨K_33, hK_34, h⟩ := letE h
        refine Ex.blockJ (fun a S => K_33 () = some r ∧ a = mkS 130 [] ∧ S = ⟨[], []⟩) ?_ ?_
        · obtain ⟨B_37, hB_38, h⟩ := loop1I h
          refine Ex.loopF (fun k a S => ∃ (i_35 : Int), loop1 B_37 k i_35 = some r ∧ a = mkS 130 [(11, .sl (([tickets_1, some_13, some_13] : List (List Int)).map (SV (AV.int .i64))) (some 0)), (12, .sl (([secrets_2, hidden_14, secrets_2] : List (List Int)).map (SV (AV.int .i64))) (some 1)), (13, .int .i64 i_35)] ∧ S = ⟨[], [(3, 1), (3, 1)]⟩) N ⟨_, _, forgetA (m := 130) 0 [2, 3] [(11, .sl (([tickets_1, some_13, some_13] : List (List Int)).map (SV (AV.int .i64))) (some 0)), (12, .sl (([secrets_2, hidden_14, secrets_2] : List (List Int)).map (SV (AV.int .i64))) (some 1)), (13, .int .i64 0)] [] [(3, 1), (3, 1)] (by simp [setAll]) (by simp) ⟨(reT (cleanII _ _) rfl), (reT (cleanII _ _) rfl), rfl, trivial⟩ (by simp) rfl (by decide), 0, h, rfl, rfl⟩ ?_
          rintro k a S ⟨i_35, h, rfl, rfl⟩
          cases k with
          | zero => exact (loop1Z h).elim
          | succ k =>
            replace h := loop1S h hB_38
            refine Ex.seq ?_
            refine Ex.seq ?_
            refine regH 4 [] [11, 12, 13, 65] [] (mkS 130 [(11, .sl (([tickets_1, some_13, some_13] : List (List Int)).map (SV (AV.int .i64))) (some 0)), (12, .sl (([secrets_2, hidden_14, secrets_2] : List (List Int)).map (SV (AV.int .i64))) (some 1)), (13, .int .i64 i_35), (65, .bool (decide (i_35 < 3)))]) (⟨[], [(3, 1), (3, 1)]⟩) (by kernel_rfl) trivial rfl ?_
            rcases condI h with ⟨hc_39, h⟩ | ⟨hc_39, h⟩
            · refine Ex.condT _ rfl hc_39 ?_
              refine Ex.skip ?_
              refine Ex.seq ?_
              refine Ex.blockK ?_
              refine Ex.seq ?_
              obtain ⟨x_40, hx_40, h⟩ := Option.bind_eq_some_iff.1 h
              obtain ⟨r_41, hr_41, h⟩ := Option.bind_eq_some_iff.1 h
              obtain ⟨x_42, hx_42, h⟩ := Option.bind_eq_some_iff.1 h
              have hT_43 : DoesA Try.prog [⟨31, [.sl (x_40.map (AV.int .i64)) none], [], (v_bk_Ints r_41), []⟩] ∧ ConsA [⟨31, [.sl (x_40.map (AV.int .i64)) none], [], (v_bk_Ints r_41), []⟩] := ⟨⟨(d_bk_Ints N x_40 r_41 hr_41), rfl, trivial⟩, ⟨trivial, trivial⟩⟩
              refine Ex.drawE (a1 := mkS 130 [(11, .sl (([tickets_1, some_13, some_13] : List (List Int)).map (SV (AV.int .i64))) (some 0)), (12, .sl (([secrets_2, hidden_14, secrets_2] : List (List Int)).map (SV (AV.int .i64))) (some 1)), (13, .int .i64 i_35), (65, .bool (decide (i_35 < 3))), (68, .sl (([tickets_1, some_13, some_13] : List (List Int)).map (SV (AV.int .i64))) (some 0)), (69, .int .i64 i_35), (70, .rop [.sl (x_40.map (AV.int .i64)) none]), (71, .sl (x_40.map (AV.int .i64)) none), (72, .sl (r_41.map (AV.int .i64)) none), (73, .sl (([secrets_2, hidden_14, secrets_2] : List (List Int)).map (SV (AV.int .i64))) (some 1)), (74, .int .i64 i_35), (75, .rop [.sl (x_42.map (AV.int .i64)) none]), (76, .sl (x_42.map (AV.int .i64)) none)]) (tabO_ok hT_43.1) [] [] [] ?_ ?_
              · refine drS [] 4 [(2, .rop [.sl (x_40.map (AV.int .i64)) none])] [LGet (([tickets_1, some_13, some_13] : List (List Int)).map (SV (AV.int .i64))) i_35 1 [.sl (x_40.map (AV.int .i64)) none]] (mkS 130 [(11, .sl (([tickets_1, some_13, some_13] : List (List Int)).map (SV (AV.int .i64))) (some 0)), (12, .sl (([secrets_2, hidden_14, secrets_2] : List (List Int)).map (SV (AV.int .i64))) (some 1)), (13, .int .i64 i_35), (65, .bool (decide (i_35 < 3))), (68, .sl (([tickets_1, some_13, some_13] : List (List Int)).map (SV (AV.int .i64))) (some 0)), (69, .int .i64 i_35), (70, .rop [.sl (x_40.map (AV.int .i64)) none]), (71, .sl (x_40.map (AV.int .i64)) none)]) (by simp) (by kernel_rfl) ⟨LGet.of hx_40 rfl, trivial⟩ (by kernel_rfl) ?_
                refine drC hT_43.2 0 _ [.sl (x_40.map (AV.int .i64)) none] (v_bk_Ints r_41) rfl rfl rfl rfl rfl (fun _ => rfl) rfl (by simp; try rfl) (fun _ => b_bk_Ints _ _ _ _) ?_
                refine drS [] 4 [(2, .rop [.sl (x_42.map (AV.int .i64)) none])] [LGet (([secrets_2, hidden_14, secrets_2] : List (List Int)).map (SV (AV.int .i64))) i_35 1 [.sl (x_42.map (AV.int .i64)) none]] (mkS 130 [(11, .sl (([tickets_1, some_13, some_13] : List (List Int)).map (SV (AV.int .i64))) (some 0)), (12, .sl (([secrets_2, hidden_14, secrets_2] : List (List Int)).map (SV (AV.int .i64))) (some 1)), (13, .int .i64 i_35), (65, .bool (decide (i_35 < 3))), (68, .sl (([tickets_1, some_13, some_13] : List (List Int)).map (SV (AV.int .i64))) (some 0)), (69, .int .i64 i_35), (70, .rop [.sl (x_40.map (AV.int .i64)) none]), (71, .sl (x_40.map (AV.int .i64)) none), (72, .sl (r_41.map (AV.int .i64)) none), (73, .sl (([secrets_2, hidden_14, secrets_2] : List (List Int)).map (SV (AV.int .i64))) (some 1)), (74, .int .i64 i_35), (75, .rop [.sl (x_42.map (AV.int .i64)) none]), (76, .sl (x_42.map (AV.int .i64)) none)]) (by simp) (by kernel_rfl) ⟨LGet.of hx_42 rfl, trivial⟩ (by kernel_rfl) ?_
                exact DrO.nil rfl
              · dsimp only [List.getLastD_cons, List.getLastD_nil]
                obtain ⟨r_44, hr_44, h⟩ := Option.bind_eq_some_iff.1 h
                refine ExO.callL [] [.sl (x_42.map (AV.int .i64)) none] rfl rfl (a_bk_Ints x_42) rfl rfl (d_bk_Ints N x_42 r_44 hr_44) (b_bk_Ints _ _ _ _) rfl ?_
                refine runH 2 [] [11, 12, 13, 14, 15] [] (mkS 130 [(11, .sl (([tickets_1, some_13, some_13] : List (List Int)).map (SV (AV.int .i64))) (some 0)), (12, .sl (([secrets_2, hidden_14, secrets_2] : List (List Int)).map (SV (AV.int .i64))) (some 1)), (13, .int .i64 i_35), (14, .sl (r_41.map (AV.int .i64)) none), (15, .sl (r_44.map (AV.int .i64)) none)]) (⟨[], [(3, 1), (3, 1)]⟩) (by kernel_rfl) trivial ?_
                refine ExO.nil ?_
                refine Ex.seq ?_
                obtain ⟨r_45, hr_45, h⟩ := Option.bind_eq_some_iff.1 h
                refine Ex.reg ?_
                refine runH 2 [] [11, 12, 13, 14, 15, 79, 80] [] (mkS 130 [(11, .sl (([tickets_1, some_13, some_13] : List (List Int)).map (SV (AV.int .i64))) (some 0)), (12, .sl (([secrets_2, hidden_14, secrets_2] : List (List Int)).map (SV (AV.int .i64))) (some 1)), (13, .int .i64 i_35), (14, .sl (r_41.map (AV.int .i64)) none), (15, .sl (r_44.map (AV.int .i64)) none), (79, .sl (r_41.map (AV.int .i64)) none), (80, .sl (r_44.map (AV.int .i64)) none)]) (⟨[], [(3, 1), (3, 1)]⟩) (by kernel_rfl) trivial ?_
                refine ExO.callL [] [.sl (r_41.map (AV.int .i64)) none, .sl (r_44.map (AV.int .i64)) none] rfl rfl (a_coin_Draw r_41 r_44) rfl rfl (d_coin_Draw N r_41 r_44 r_45 hr_45) (b_coin_Draw _ _ _ _) rfl ?_
                refine runH 7 [] [11, 12, 13, 14, 15, 16, 17, 18] [] (mkS 130 [(11, .sl (([tickets_1, some_13, some_13] : List (List Int)).map (SV (AV.int .i64))) (some 0)), (12, .sl (([secrets_2, hidden_14, secrets_2] : List (List Int)).map (SV (AV.int .i64))) (some 1)), (13, .int .i64 i_35), (14, .sl (r_41.map (AV.int .i64)) none), (15, .sl (r_44.map (AV.int .i64)) none), (16, .int .i64 r_45.1), (17, .int .i64 r_45.2.1), (18, .int .i64 r_45.2.2)]) (⟨[], [(3, 1), (3, 1)]⟩) (by kernel_rfl) trivial ?_
                refine ExO.nil ?_
                refine Ex.seq ?_
                obtain ⟨x_46, hx_46, h⟩ := Option.bind_eq_some_iff.1 h
                obtain ⟨x_47, hx_47, h⟩ := Option.bind_eq_some_iff.1 h
                obtain ⟨r_48, hr_48, h⟩ := Option.bind_eq_some_iff.1 h
                have hT_49 : DoesA Try.prog [⟨33, [.sl (x_46.map (AV.int .i64)) none, .sl (x_47.map (AV.int .i64)) none], [], (v_br9_Draw r_48), []⟩] ∧ ConsA [⟨33, [.sl (x_46.map (AV.int .i64)) none, .sl (x_47.map (AV.int .i64)) none], [], (v_br9_Draw r_48), []⟩] := ⟨⟨(d_br9_Draw N x_46 x_47 r_48 hr_48), rfl, trivial⟩, ⟨trivial, trivial⟩⟩
                refine Ex.drawE (a1 := mkS 130 [(11, .sl (([tickets_1, some_13, some_13] : List (List Int)).map (SV (AV.int .i64))) (some 0)), (12, .sl (([secrets_2, hidden_14, secrets_2] : List (List Int)).map (SV (AV.int .i64))) (some 1)), (13, .int .i64 i_35), (14, .sl (r_41.map (AV.int .i64)) none), (15, .sl (r_44.map (AV.int .i64)) none), (16, .int .i64 r_45.1), (17, .int .i64 r_45.2.1), (18, .int .i64 r_45.2.2), (19, .int .i64 r_48.1), (20, .int .i64 r_48.2.1), (85, .tup [.int .i64 r_48.1, .int .i64 r_48.2.1, .int .i64 r_48.2.2]), (86, .sl (([tickets_1, some_13, some_13] : List (List Int)).map (SV (AV.int .i64))) (some 0)), (87, .int .i64 i_35), (88, .rop [.sl (x_46.map (AV.int .i64)) none]), (89, .sl (x_46.map (AV.int .i64)) none), (90, .sl (([secrets_2, hidden_14, secrets_2] : List (List Int)).map (SV (AV.int .i64))) (some 1)), (91, .int .i64 i_35), (92, .rop [.sl (x_47.map (AV.int .i64)) none]), (93, .sl (x_47.map (AV.int .i64)) none), (94, .tup [.int .i64 r_48.1, .int .i64 r_48.2.1, .int .i64 r_48.2.2]), (95, .int .i64 r_48.1), (96, .int .i64 r_48.2.1), (97, .int .i64 r_48.2.2)]) (tabO_ok hT_49.1) [] [] [] ?_ ?_
                · refine drS [] 8 [(2, .rop [.sl (x_46.map (AV.int .i64)) none]), (6, .rop [.sl (x_47.map (AV.int .i64)) none])] [LGet (([tickets_1, some_13, some_13] : List (List Int)).map (SV (AV.int .i64))) i_35 1 [.sl (x_46.map (AV.int .i64)) none], LGet (([secrets_2, hidden_14, secrets_2] : List (List Int)).map (SV (AV.int .i64))) i_35 1 [.sl (x_47.map (AV.int .i64)) none]] (mkS 130 [(11, .sl (([tickets_1, some_13, some_13] : List (List Int)).map (SV (AV.int .i64))) (some 0)), (12, .sl (([secrets_2, hidden_14, secrets_2] : List (List Int)).map (SV (AV.int .i64))) (some 1)), (13, .int .i64 i_35), (14, .sl (r_41.map (AV.int .i64)) none), (15, .sl (r_44.map (AV.int .i64)) none), (16, .int .i64 r_45.1), (17, .int .i64 r_45.2.1), (18, .int .i64 r_45.2.2), (86, .sl (([tickets_1, some_13, some_13] : List (List Int)).map (SV (AV.int .i64))) (some 0)), (87, .int .i64 i_35), (88, .rop [.sl (x_46.map (AV.int .i64)) none]), (89, .sl (x_46.map (AV.int .i64)) none), (90, .sl (([secrets_2, hidden_14, secrets_2] : List (List Int)).map (SV (AV.int .i64))) (some 1)), (91, .int .i64 i_35), (92, .rop [.sl (x_47.map (AV.int .i64)) none]), (93, .sl (x_47.map (AV.int .i64)) none)]) (by simp) (by kernel_rfl) ⟨LGet.of hx_46 rfl, LGet.of hx_47 rfl, trivial⟩ (by kernel_rfl) ?_
                  refine drC hT_49.2 0 _ [.sl (x_46.map (AV.int .i64)) none, .sl (x_47.map (AV.int .i64)) none] (v_br9_Draw r_48) rfl rfl rfl rfl rfl (fun _ => rfl) rfl (by simp; try rfl) (fun _ => b_br9_Draw _ _ _ _) ?_
                  refine drS [] 6 [] [] (mkS 130 [(11, .sl (([tickets_1, some_13, some_13] : List (List Int)).map (SV (AV.int .i64))) (some 0)), (12, .sl (([secrets_2, hidden_14, secrets_2] : List (List Int)).map (SV (AV.int .i64))) (some 1)), (13, .int .i64 i_35), (14, .sl (r_41.map (AV.int .i64)) none), (15, .sl (r_44.map (AV.int .i64)) none), (16, .int .i64 r_45.1), (17, .int .i64 r_45.2.1), (18, .int .i64 r_45.2.2), (19, .int .i64 r_48.1), (20, .int .i64 r_48.2.1), (85, .tup [.int .i64 r_48.1, .int .i64 r_48.2.1, .int .i64 r_48.2.2]), (86, .sl (([tickets_1, some_13, some_13] : List (List Int)).map (SV (AV.int .i64))) (some 0)), (87, .int .i64 i_35), (88, .rop [.sl (x_46.map (AV.int .i64)) none]), (89, .sl (x_46.map (AV.int .i64)) none), (90, .sl (([secrets_2, hidden_14, secrets_2] : List (List Int)).map (SV (AV.int .i64))) (some 1)), (91, .int .i64 i_35), (92, .rop [.sl (x_47.map (AV.int .i64)) none]), (93, .sl (x_47.map (AV.int .i64)) none), (94, .tup [.int .i64 r_48.1, .int .i64 r_48.2.1, .int .i64 r_48.2.2]), (95, .int .i64 r_48.1), (96, .int .i64 r_48.2.1), (97, .int .i64 r_48.2.2)]) (by simp) (by kernel_rfl) trivial (by kernel_rfl) ?_
                  exact DrO.nil rfl
                · dsimp only [List.getLastD_cons, List.getLastD_nil]
                  refine runH 1 [] [11, 12, 13, 14, 15, 16, 17, 18, 19, 20, 21] [] (mkS 130 [(11, .sl (([tickets_1, some_13, some_13] : List (List Int)).map (SV (AV.int .i64))) (some 0)), (12, .sl (([secrets_2, hidden_14, secrets_2] : List (List Int)).map (SV (AV.int .i64))) (some 1)), (13, .int .i64 i_35), (14, .sl (r_41.map (AV.int .i64)) none), (15, .sl (r_44.map (AV.int .i64)) none), (16, .int .i64 r_45.1), (17, .int .i64 r_45.2.1), (18, .int .i64 r_45.2.2), (19, .int .i64 r_48.1), (20, .int .i64 r_48.2.1), (21, .int .i64 r_48.2.2)]) (⟨[], [(3, 1), (3, 1)]⟩) (by kernel_rfl) trivial ?_
                  refine ExO.nil ?_
                  obtain ⟨K_52, hK_53, h⟩ := letE h
                  refine Ex.seqJ (fun a S => ∃ (y_50 : Bool), K_52 y_50 = some r ∧ a = mkS 130 [(11, .sl (([tickets_1, some_13, some_13] : List (List Int)).map (SV (AV.int .i64))) (some 0)), (12, .sl (([secrets_2, hidden_14, secrets_2] : List (List Int)).map (SV (AV.int .i64))) (some 1)), (13, .int .i64 i_35), (128, .bool y_50)] ∧ S = ⟨[], [(3, 1), (3, 1)]⟩) ?_ ?_
                  · rcases condI h with ⟨hc_54, h⟩ | ⟨hc_54, h⟩
                    · refine regH 31 [(3, .eq (.bool true))] [11, 12, 13, 128] [AV.bool (r_45.1 != r_48.1) = AV.bool true] (mkS 130 [(11, .sl (([tickets_1, some_13, some_13] : List (List Int)).map (SV (AV.int .i64))) (some 0)), (12, .sl (([secrets_2, hidden_14, secrets_2] : List (List Int)).map (SV (AV.int .i64))) (some 1)), (13, .int .i64 i_35), (128, .bool true)]) (⟨[], [(3, 1), (3, 1)]⟩) (by kernel_rfl) ⟨congrArg AV.bool hc_54, trivial⟩ rfl ?_
                      (try simp only [reduceCtorEq, AEx.ex.injEq, Nat.reduceEqDiff, if_true, if_false])
                      exact ⟨_, _, Forgets.refl _ _ _, true, h, rfl, rfl⟩
                    · rcases condI h with ⟨hc_55, h⟩ | ⟨hc_55, h⟩
                      · refine regH 31 [(3, .eq (.bool false)), (8, .eq (.bool true))] [11, 12, 13, 128] [AV.bool (r_45.1 != r_48.1) = AV.bool false, AV.bool (r_45.2.1 != r_48.2.1) = AV.bool true] (mkS 130 [(11, .sl (([tickets_1, some_13, some_13] : List (List Int)).map (SV (AV.int .i64))) (some 0)), (12, .sl (([secrets_2, hidden_14, secrets_2] : List (List Int)).map (SV (AV.int .i64))) (some 1)), (13, .int .i64 i_35), (128, .bool true)]) (⟨[], [(3, 1), (3, 1)]⟩) (by kernel_rfl) ⟨congrArg AV.bool hc_54, congrArg AV.bool hc_55, trivial⟩ rfl ?_
                        (try simp only [reduceCtorEq, AEx.ex.injEq, Nat.reduceEqDiff, if_true, if_false])
                        exact ⟨_, _, Forgets.refl _ _ _, true, h, rfl, rfl⟩
                      · rcases condI h with ⟨hc_56, h⟩ | ⟨hc_56, h⟩
                        · refine regH 31 [(3, .eq (.bool false)), (8, .eq (.bool false)), (13, .eq (.bool true))] [11, 12, 13, 128] [AV.bool (r_45.1 != r_48.1) = AV.bool false, AV.bool (r_45.2.1 != r_48.2.1) = AV.bool false, AV.bool (r_45.2.2 != r_48.2.2) = AV.bool true] (mkS 130 [(11, .sl (([tickets_1, some_13, some_13] : List (List Int)).map (SV (AV.int .i64))) (some 0)), (12, .sl (([secrets_2, hidden_14, secrets_2] : List (List Int)).map (SV (AV.int .i64))) (some 1)), (13, .int .i64 i_35), (128, .bool true)]) (⟨[], [(3, 1), (3, 1)]⟩) (by kernel_rfl) ⟨congrArg AV.bool hc_54, congrArg AV.bool hc_55, congrArg AV.bool hc_56, trivial⟩ rfl ?_
                          (try simp only [reduceCtorEq, AEx.ex.injEq, Nat.reduceEqDiff, if_true, if_false])
                          exact ⟨_, _, Forgets.refl _ _ _, true, h, rfl, rfl⟩
                        · obtain ⟨x_57, hx_57, h⟩ := Option.bind_eq_some_iff.1 h
                          obtain ⟨r_58, hr_58, h⟩ := Option.bind_eq_some_iff.1 h
                          refine Ex.reg ?_
                          refine runH 19 [(3, .eq (.bool false)), (8, .eq (.bool false)), (13, .eq (.bool false)), (17, .rop [.sl (x_57.map (AV.int .i64)) none])] [11, 12, 13, 15, 111, 112, 116] [AV.bool (r_45.1 != r_48.1) = AV.bool false, AV.bool (r_45.2.1 != r_48.2.1) = AV.bool false, AV.bool (r_45.2.2 != r_48.2.2) = AV.bool false, LGet (([tickets_1, some_13, some_13] : List (List Int)).map (SV (AV.int .i64))) i_35 1 [.sl (x_57.map (AV.int .i64)) none]] (mkS 130 [(11, .sl (([tickets_1, some_13, some_13] : List (List Int)).map (SV (AV.int .i64))) (some 0)), (12, .sl (([secrets_2, hidden_14, secrets_2] : List (List Int)).map (SV (AV.int .i64))) (some 1)), (13, .int .i64 i_35), (15, .sl (r_44.map (AV.int .i64)) none), (111, .bool false), (112, .sl (r_41.map (AV.int .i64)) none), (116, .sl (x_57.map (AV.int .i64)) none)]) (⟨[], [(3, 1), (3, 1)]⟩) (by kernel_rfl) ⟨congrArg AV.bool hc_54, congrArg AV.bool hc_55, congrArg AV.bool hc_56, LGet.of hx_57 rfl, trivial⟩ ?_
                          refine ExO.callL [] [.sl (r_41.map (AV.int .i64)) none, .sl (x_57.map (AV.int .i64)) none] rfl rfl (a_bk_EqInts r_41 x_57) rfl rfl (d_bk_EqInts N r_41 x_57 r_58 hr_58) (b_bk_EqInts _ _ _ _) rfl ?_
                          rcases condI h with ⟨hc_59, h⟩ | ⟨hc_59, h⟩
                          · refine runH 11 [(2, .eq (.bool true))] [11, 12, 13, 128] [AV.bool (!r_58) = AV.bool true] (mkS 130 [(11, .sl (([tickets_1, some_13, some_13] : List (List Int)).map (SV (AV.int .i64))) (some 0)), (12, .sl (([secrets_2, hidden_14, secrets_2] : List (List Int)).map (SV (AV.int .i64))) (some 1)), (13, .int .i64 i_35), (128, .bool true)]) (⟨[], [(3, 1), (3, 1)]⟩) (by kernel_rfl) ⟨congrArg AV.bool hc_59, trivial⟩ ?_
                            refine ExO.nil ?_
                            (try simp only [reduceCtorEq, AEx.ex.injEq, Nat.reduceEqDiff, if_true, if_false])
                            exact ⟨_, _, Forgets.refl _ _ _, true, h, rfl, rfl⟩
                          · obtain ⟨x_60, hx_60, h⟩ := Option.bind_eq_some_iff.1 h
                            obtain ⟨r_61, hr_61, h⟩ := Option.bind_eq_some_iff.1 h
                            refine runH 8 [(2, .eq (.bool false)), (6, .rop [.sl (x_60.map (AV.int .i64)) none])] [11, 12, 13, 120, 121, 125] [AV.bool (!r_58) = AV.bool false, LGet (([secrets_2, hidden_14, secrets_2] : List (List Int)).map (SV (AV.int .i64))) i_35 1 [.sl (x_60.map (AV.int .i64)) none]] (mkS 130 [(11, .sl (([tickets_1, some_13, some_13] : List (List Int)).map (SV (AV.int .i64))) (some 0)), (12, .sl (([secrets_2, hidden_14, secrets_2] : List (List Int)).map (SV (AV.int .i64))) (some 1)), (13, .int .i64 i_35), (120, .bool false), (121, .sl (r_44.map (AV.int .i64)) none), (125, .sl (x_60.map (AV.int .i64)) none)]) (⟨[], [(3, 1), (3, 1)]⟩) (by kernel_rfl) ⟨congrArg AV.bool hc_59, LGet.of hx_60 rfl, trivial⟩ ?_
                            refine ExO.callL [] [.sl (r_44.map (AV.int .i64)) none, .sl (x_60.map (AV.int .i64)) none] rfl rfl (a_bk_EqInts r_44 x_60) rfl rfl (d_bk_EqInts N r_44 x_60 r_61 hr_61) (b_bk_EqInts _ _ _ _) rfl ?_
                            refine runH 2 [] [11, 12, 13, 128] [] (mkS 130 [(11, .sl (([tickets_1, some_13, some_13] : List (List Int)).map (SV (AV.int .i64))) (some 0)), (12, .sl (([secrets_2, hidden_14, secrets_2] : List (List Int)).map (SV (AV.int .i64))) (some 1)), (13, .int .i64 i_35), (128, .bool (!r_61))]) (⟨[], [(3, 1), (3, 1)]⟩) (by kernel_rfl) trivial ?_
                            refine ExO.nil ?_
                            (try simp only [reduceCtorEq, AEx.ex.injEq, Nat.reduceEqDiff, if_true, if_false])
                            exact ⟨_, _, Forgets.refl _ _ _, (!r_61), h, rfl, rfl⟩
                  · rintro a S ⟨y_50, h, rfl, rfl⟩
                    subst hK_53
                    rcases condI h with ⟨hc_62, h⟩ | ⟨hc_62, h⟩
                    · refine Ex.condT _ rfl hc_62 ?_
                      refine Ex.seq ?_
                      refine regH 1 [] [6] [] (mkS 130 [(6, .bool false)]) (⟨[], [(3, 1), (3, 1)]⟩) (by kernel_rfl) trivial rfl ?_
                      refine Ex.ret ?_
                      obtain rfl := Option.some.inj h
                      exact ⟨.inr rfl, .bool false, by kernel_rfl, by kernel_rfl, by kernel_rfl, by kernel_rfl⟩
                    · refine Ex.condF _ rfl hc_62 ?_
                      refine Ex.skip ?_
                      refine regH 3 [] [11, 12, 13] [] (mkS 130 [(11, .sl (([tickets_1, some_13, some_13] : List (List Int)).map (SV (AV.int .i64))) (some 0)), (12, .sl (([secrets_2, hidden_14, secrets_2] : List (List Int)).map (SV (AV.int .i64))) (some 1)), (13, .int .i64 (IntKind.i64.wrap (i_35 + 1)))]) (⟨[], [(3, 1), (3, 1)]⟩) (by kernel_rfl) trivial rfl ?_
                      dsimp only
                      exact ⟨_, _, Forgets.refl _ _ _, k, Nat.lt_succ_self k, (IntKind.i64.wrap (i_35 + 1)), h, rfl, rfl⟩
            · refine Ex.condF _ rfl hc_39 ?_
              refine Ex.exit ?_
              (try simp only [reduceCtorEq, AEx.ex.injEq, Nat.reduceEqDiff, if_true, if_false])
              exact ⟨_, _, forgetA (m := 130) 0 [] [] [] [] (by simp [setAll]) (by simp) trivial (by simp) rfl (by decide), h, rfl, rfl⟩
        · rintro a S ⟨h, rfl, rfl⟩
          subst hK_34
          refine Ex.seq ?_
          obtain ⟨r_63, hr_63, h⟩ := Option.bind_eq_some_iff.1 h
          refine Ex.reg ?_
          refine ExO.callL [] [] rfl rfl (a_bl9_awake) rfl rfl (d_bl9_awake N r_63 hr_63) (b_bl9_awake _ _ _ _) rfl ?_
          refine runH 1 [] [6] [] (mkS 130 [(6, .bool r_63)]) (⟨[], []⟩) (by kernel_rfl) trivial ?_
          refine ExO.nil ?_
          refine Ex.ret ?_
          obtain rfl := Option.some.inj h
          exact ⟨.inr rfl, .bool r_63, by kernel_rfl, by kernel_rfl, by kernel_rfl, by kernel_rfl⟩
end Go.Proofs.Ytkpihepaaiofgaa
end
section
namespace Go.Proofs.Ytkpihepaaiofgaa
open Go.RowKit
set_option linter.unusedVariables false
set_option linter.unusedSimpArgs false
set_option maxRecDepth 10000
set_option maxHeartbeats 4000000

theorem within_r9 (N : Nat) (n a b : Int) : p_br9_within N n a b = some (wi a b n) := by
  unfold p_br9_within wi
  show (bif decide (n ≥ a) then some (decide (n ≤ b)) else some false) = _
  cases decide (n ≥ a) <;> rfl
theorem sum_r (N : Nat) (l : List Int) (hN : l.length < N) (h2 : l.length < 4611686018427387904) : p_br9_sum N l = some (wsum l l.length) := by
  unfold p_br9_sum
  simp only [letJ_eq]
  rw [sumL' l (fun b => some b) hN (fun rec b => by simp only [ltE, cond_false]) (fun rec i x b hx => by
    have hi := (List.getElem?_eq_some_iff.1 hx).1
    simp only [ltD hi, cond_true, getD_at hx, Option.bind_some, nadd1 i (by omega)])]
theorem draw_r (N : Nat) (ts ss : List Int) (hN : 100 < N) (h1 : ts.length ≤ 20) (h2 : ss.length ≤ 20) : ∃ x, p_coin_Draw N ts ss = some x ∧ p_br9_Draw N ts ss = some x := by
  by_cases h0 : chk ts ss = 0
  · obtain ⟨t, h, e, e1, e2, e3, e4, e5, e6, e7, w1, w2⟩ := draw_ok N ts ss hN h0
    refine ⟨_, e, ?_⟩
    obtain ⟨k1, k2, k3, k4, k5⟩ := chk_ok h0
    have b2 := pre_bd ss 1000000000 (by omega) k4 ss.length (Nat.le_refl _)
    have hm := Int.tmod_eq_emod_of_nonneg (b := pre ts ts.length) b2.1
    have hbd := fun i hi => pre_bd ts 1000 (by omega) k2 i hi
    unfold p_br9_Draw
    simp only [letJ_eq]
    rw [show decide (((ts.length : Nat) : Int) > 12) = false from decide_eq_false (by omega), cond_false]
    rw [allL0 ts (wi 0 1000) _ _ (by omega) (fun rec => by simp only [ltE, cond_false]; rfl) (fun rec i x hx => by
      have hi := (List.getElem?_eq_some_iff.1 hx).1
      simp only [ltD hi, cond_true, getD_at hx, Option.bind_some, within_r9, nadd1 i (by omega)]
      cases wi 0 1000 x <;> rfl)]
    rw [if_pos (List.all_eq_true.2 fun x hx => wi_iff.2 (k2 x hx)), show (((ss.length : Nat) : Int) != ((ts.length : Nat) : Int)) = false by simp [k3], cond_false]
    rw [allL0 ss (wi 0 1000000000) _ _ (by omega) (fun rec => by simp only [ltE, cond_false]; rfl) (fun rec i x hx => by
      have hi := (List.getElem?_eq_some_iff.1 hx).1
      simp only [ltD hi, cond_true, getD_at hx, Option.bind_some, within_r9, nadd1 i (by omega)]
      cases wi 0 1000000000 x <;> rfl)]
    rw [if_pos (List.all_eq_true.2 fun x hx => wi_iff.2 (k4 x hx)), sum_r N ts (by omega) (by omega), Option.bind_some, w1, show (pre ts ts.length == 0) = false by simp; omega, cond_false, sum_r N ss (by omega) (by omega), Option.bind_some, Option.bind_some, w2, show nzI (pre ts ts.length) = some () by unfold nzI; rw [if_neg (by omega)], Option.bind_some, hm, ← e1]
    refine st2z h (pre ts) rfl (by omega) ?_ ?_
    · intro rec
      have hx : ts[h]? = some ts[h] := List.getElem?_eq_getElem e5
      have e := pre_succ ts h _ hx
      have b1 := hbd (h + 1) (by omega)
      simp only [getD_at hx, Option.bind_some]
      rw [w64 (by omega) (by omega), show decide (pre ts h + ts[h] ≤ t) = false from decide_eq_false (by omega)]
      rfl
    · intro rec i hi
      have hx : ts[i]? = some ts[i] := List.getElem?_eq_getElem (by omega)
      have e := pre_succ ts i _ hx
      have hm := pre_mono ts (fun x hx => (k2 x hx).1) (i + 1) h (by omega) (by omega)
      have b1 := hbd (i + 1) (by omega)
      simp only [getD_at hx, Option.bind_some]
      rw [w64 (x := pre ts i + ts[i]) (by omega) (by omega), show decide (pre ts i + ts[i] ≤ t) = true from decide_eq_true (by omega), cond_true, nadd1 i (by omega), e]
  · refine ⟨_, draw_err N ts ss hN h1 h2 h0, ?_⟩
    unfold p_br9_Draw
    unfold chk at h0 ⊢
    simp only [letJ_eq]
    by_cases hl : ts.length > 12
    · rw [if_pos hl, show decide (((ts.length : Nat) : Int) > 12) = true from decide_eq_true (by omega)]
      rfl
    rw [if_neg hl] at h0 ⊢
    rw [show decide (((ts.length : Nat) : Int) > 12) = false from decide_eq_false (by omega), cond_false]
    rw [allL0 ts (wi 0 1000) _ _ (by omega) (fun rec => by simp only [ltE, cond_false]; rfl) (fun rec i x hx => by
      have hi := (List.getElem?_eq_some_iff.1 hx).1
      simp only [ltD hi, cond_true, getD_at hx, Option.bind_some, within_r9, nadd1 i (by omega)]
      cases wi 0 1000 x <;> rfl)]
    by_cases ha : ts.all (wi 0 1000) = true
    · rw [if_pos ha, if_pos ha] at *
      by_cases hs : ss.length = ts.length
      · rw [if_neg (by simpa using hs)] at h0 ⊢
        rw [show (((ss.length : Nat) : Int) != ((ts.length : Nat) : Int)) = false by simp [hs], cond_false]
        rw [allL0 ss (wi 0 1000000000) _ _ (by omega) (fun rec => by simp only [ltE, cond_false]; rfl) (fun rec i x hx => by
          have hi := (List.getElem?_eq_some_iff.1 hx).1
          simp only [ltD hi, cond_true, getD_at hx, Option.bind_some, within_r9, nadd1 i (by omega)]
          cases wi 0 1000000000 x <;> rfl)]
        by_cases hb : ss.all (wi 0 1000000000) = true
        · rw [if_pos hb] at h0 ⊢
          rw [if_pos hb]
          by_cases hz : wsum ts ts.length = 0
          · rw [if_pos hz, sum_r N ts (by omega) (by omega), Option.bind_some, hz]; rfl
          · rw [if_neg hz] at h0; exact absurd rfl h0
        · rw [if_neg hb, if_neg hb]
      · rw [if_pos hs, show (((ss.length : Nat) : Int) != ((ts.length : Nat) : Int)) = true by simp; omega]
        rfl
    · rw [if_neg ha, if_neg ha]
theorem made_l (N : Nat) {ρ : Type} (K : List Int → List Int → Option ρ) (r : ρ) (hK : ∀ a b, a.length ≤ 10 → b.length ≤ 10 → K a b = some r) : ∀ (M : Nat) (i : Nat) (a b : List Int) (q : Int), i + a.length ≤ 10 → i + b.length ≤ 10 → i < M →
    loop4 (fun rec_22 (some_18 : List Int) (hidden_19 : List Int) (i_20 : Int) (b_21 : Int) => (bif (decide (i_20 > 0)) then ((p_bk_Drum_Roll N (⟨b_21⟩ : T_bk_Drum) 5).bind fun r_26 => ((p_bk_Drum_Roll N r_26.2 1001).bind fun r_27 => ((p_bk_Drum_Any N r_27.2 [0, r_26.1, r_27.1]).bind fun r_28 => ((pushI some_18 ([r_28.1] : List Int)).bind fun l_29 => ((p_bk_Drum_Roll N r_28.2 1000000001).bind fun r_30 => ((pushI hidden_19 ([r_30.1] : List Int)).bind fun l_31 => (rec_22 l_29 l_31 (IntKind.i64.wrap (i_20 - 1)) r_30.2.beat_))))))) else (K some_18 hidden_19))) M a b (i : Int) q = some r
  | 0, i, a, b, q, _, _, h => absurd h (Nat.not_lt_zero _)
  | M + 1, 0, a, b, q, ha, hb, _ => hK a b (by omega) (by omega)
  | M + 1, i + 1, a, b, q, ha, hb, h => by
    rw [loop4]
    rw [show decide (((i + 1 : Nat) : Int) > 0) = true from decide_eq_true (by omega), cond_true]
    obtain ⟨x1, d1, e, _⟩ := roll_p N ⟨q⟩ 5 (by omega)
    rw [e, Option.bind_some]; clear e
    obtain ⟨x2, d2, e, _⟩ := roll_p N d1 1001 (by omega)
    dsimp only
    rw [e, Option.bind_some]; clear e
    dsimp only
    obtain ⟨x3, d3, e, _⟩ := any_p N d2 [0, x1, x2] (by simp) (by simp)
    rw [e, Option.bind_some]; clear e
    dsimp only
    rw [pushI_ok (by simp; omega), Option.bind_some]
    obtain ⟨x4, d4, e, _⟩ := roll_p N d3 1000000001 (by omega)
    rw [e, Option.bind_some]; clear e
    dsimp only
    rw [pushI_ok (by simp; omega), Option.bind_some, w64 (x := ((i + 1 : Nat) : Int) - 1) (by omega) (by omega), show ((i + 1 : Nat) : Int) - 1 = (i : Int) by omega]
    exact made_l N K r hK M i _ _ _ (by simp; omega) (by simp; omega) (by omega)
theorem draws_law (N : Nat) (ts ss zs : List Int) (hN : 9223372036854775808 + 1000 < N) (hz : zs.length < 9223372036854775808) (ha : p_bl9_awake N = some true) : p_bl9_CoinDraws N ts ss zs = some true := by
  unfold p_bl9_CoinDraws
  rw [letJ_eq]
  dsimp only
  by_cases hx : ts.length > 20
  · rw [show decide (((ts.length : Nat) : Int) > 20) = true from decide_eq_true (by omega), cond_true, cond_true, ha]
    rfl
  rw [show decide (((ts.length : Nat) : Int) > 20) = false from decide_eq_false (by omega), cond_false]
  by_cases hy : ss.length > 20
  · rw [show decide (((ss.length : Nat) : Int) > 20) = true from decide_eq_true (by omega), cond_true, ha]
    rfl
  rw [show decide (((ss.length : Nat) : Int) > 20) = false from decide_eq_false (by omega), cond_false]
  obtain ⟨d2, e⟩ := drumOf_p N zs (by omega) (by omega)
  rw [e, Option.bind_some]; clear e
  obtain ⟨i, d3, e, i0, i1⟩ := roll_le N d2 6 (by omega) (by omega)
  rw [e, Option.bind_some]; clear e
  dsimp only
  obtain ⟨i, rfl⟩ : ∃ k : Nat, i = (k : Int) := ⟨i.toNat, by omega⟩
  refine made_l N _ true (fun a b hla hlb => ?_) N i [] [] _ (by simp; omega) (by simp; omega) (by omega)
  rw [letJ_eq]
  refine st1 3 _ (some true) ?_ ?_ N 0 (by omega) (by omega)
  · intro rec
    rw [show decide (((3 : Nat) : Int) < 3) = false from rfl, cond_false, ha]
    rfl
  · intro rec i hi
    obtain ⟨x, y, hlx, hly, g1, g2⟩ : ∃ x y : List Int, x.length ≤ 20 ∧ y.length ≤ 20 ∧ getI ([ts, a, a] : List (List Int)) (i : Int) = some x ∧ getI ([ss, b, ss] : List (List Int)) (i : Int) = some y := by
      match i, hi with
      | 0, _ => exact ⟨ts, ss, by omega, by omega, rfl, rfl⟩
      | 1, _ => exact ⟨a, b, by omega, by omega, rfl, rfl⟩
      | 2, _ => exact ⟨a, ss, by omega, by omega, rfl, rfl⟩
    obtain ⟨z, h1, h2⟩ := draw_r N x y (by omega) hlx hly
    rw [show decide ((i : Int) < 3) = true from decide_eq_true (by omega), cond_true]
    simp only [g1, g2, Option.bind_some, ints_t N x (by omega), ints_t N y (by omega), h1, h2, letJ_eq, bne_self_eq_false, cond_false, eqInts_t N x (by omega) (by omega), eqInts_t N y (by omega) (by omega), Bool.not_true, nadd1 i (by omega)]
theorem awake_p : p_bl9_awake 18446744073709551616 = some true := by kernel_rfl
theorem draws_m (ts ss zs : List Int) (h : zs.length < 9223372036854775808) : Does Try.prog 4 [.sl (ts.map (AV.int .i64)) none, .sl (ss.map (AV.int .i64)) none, .sl (zs.map (AV.int .i64)) none] [] fun v _ => v = .bool true :=
  (d_bl9_CoinDraws 18446744073709551616 ts ss zs true (draws_law _ ts ss zs (by omega) h awake_p)).mono fun v c h => h.1
end Go.Proofs.Ytkpihepaaiofgaa
end
section
namespace Go.Proofs.Ytkpihepaaiofgaa
open Go.RowKit Go.ChangeShapes Go.WideShapes Go.ChangeAt
set_option linter.unusedVariables false
set_option linter.unusedSimpArgs false

def nums (zs : List Int) : AV := .sl (zs.map fun z => .int .i64 z) none
theorem prog_own : ownKnob Try.prog.godebug = none := by kernel_rfl
theorem prog_laid : laidOutB Try.prog = true := by kernel_rfl

namespace coinDraws
set_option maxRecDepth 100000 in
theorem lifted (hM : ∀ (x0 : List Int), (∀ z ∈ x0, (Lit.int .i64 z).wf = true) → x0.length ≤ maxLen → ∀ (x1 : List Int), (∀ z ∈ x1, (Lit.int .i64 z).wf = true) → x1.length ≤ maxLen → ∀ (x2 : List Int), (∀ z ∈ x2, (Lit.int .i64 z).wf = true) → x2.length ≤ maxLen → Does Try.prog 4 [nums x0, nums x1, nums x2] [] fun v _ => v = .bool true) (os : Os) (started : os.Started) (H : Type) (enc : TypeId × Value → H) :
    ReturnsInHanded {} Try.checked os 4 .any (Rows.coinDrawsSpec.pre6 enc Try.prog Try.f4 Rows.coinDrawsRow.domain false) (Rows.coinDrawsSpec.post enc Try.prog Try.f4 false true false false) := by
  refine returnsInHanded_of_change (C := Try.checked) prog_own started (by kernel_rfl) Try.func4
    (ChangeSpec.witness6 (enc := enc) (C := Try.checked) false ⟨#[], #[.slice none 0 0, .slice none 0 0, .slice none 0 0], []⟩ 8 (by kernel_rfl) (by kernel_rfl) (by kernel_rfl) (by kernel_rfl)) ?_
  intro W base args ds gs before hval0 hW hcnd _
  have hval : ∀ (j : Nat) t v, Try.f4.params[j]? = some t → args[j]? = some v → Value.okWide Try.prog W .any base t v := hval0
  have hW' := hW
  obtain ⟨p, q, hA0, hV, rfl, hfz, hnd⟩ := hW
  have hA : DataW.TrodAll enc Try.prog W 0 (fun _ => true) true Try.f4.params.toList args.toList ds p := hA0
  rw [Try.params4] at hA hval
  obtain ⟨v0, vs0, d0, ds0, p0, q0, hargs, rfl, rfl, h0, r0⟩ := trodAll_cons hA
  obtain ⟨v1, vs1, d1, ds1, p1, q1, rfl, rfl, rfl, h1, r1⟩ := trodAll_cons r0
  obtain ⟨v2, vs2, d2, ds2, p2, q2, rfl, rfl, rfl, h2, r2⟩ := trodAll_cons r1
  obtain ⟨rfl, rfl, rfl⟩ := trodAll_nil r2
  obtain rfl : args = #[v0, v1, v2] := by cases args; simp_all
  obtain ⟨rfl, rfl⟩ := trodVars_none hV
  have k0 := h0
  have lt0 : ∀ x ∈ p0, x.block < W.heap.size := by obtain ⟨m, hm⟩ := k0; exact DataW.trod_lt m _ _ _ hm
  obtain ⟨a0, len0, cap0, rfl⟩ := okWide_slice Try.underlying28 (hval 0 28 v0 rfl rfl)
  obtain ⟨zs0, hwf0, hlen0, hvr0⟩ := ints_vr Try.underlying28 Try.underlying3 (by kernel_rfl) h0
  have k1 := h1
  have lt1 : ∀ x ∈ p1, x.block < W.heap.size := by obtain ⟨m, hm⟩ := k1; exact DataW.trod_lt m _ _ _ hm
  obtain ⟨a1, len1, cap1, rfl⟩ := okWide_slice Try.underlying28 (hval 1 28 v1 rfl rfl)
  obtain ⟨zs1, hwf1, hlen1, hvr1⟩ := ints_vr Try.underlying28 Try.underlying3 (by kernel_rfl) h1
  have k2 := h2
  have lt2 : ∀ x ∈ p2, x.block < W.heap.size := by obtain ⟨m, hm⟩ := k2; exact DataW.trod_lt m _ _ _ hm
  obtain ⟨a2, len2, cap2, rfl⟩ := okWide_slice Try.underlying28 (hval 2 28 v2 rfl rfl)
  obtain ⟨zs2, hwf2, hlen2, hvr2⟩ := ints_vr Try.underlying28 Try.underlying3 (by kernel_rfl) h2
  clear hA0 hval0
  refine ((hM zs0 hwf0 hlen0 zs1 hwf1 hlen1 zs2 hwf2 hlen2).law (us := #[.slice a0 len0 cap0, .slice a1 len1 cap1, .slice a2 len2 cap2]) ⟨rfl, fun i x u hx hu => ?_⟩).mono fun e W' ⟨he, bel⟩ => ?_
  · match i with
    | 0 => simp at hx hu; subst hx; subst hu; exact hvr0
    | 1 => simp at hx hu; subst hx; subst hu; exact hvr1
    | 2 => simp at hx hu; subst hx; subst hu; exact hvr2
    | i + 3 => simp at hx
  subst he
  exact ⟨_, rfl, _, _, _, [], _, [], hW', trodAll_mk1 (shut_bool Try.underlying4 _), (trodAll_cons_mk (Below.trod prog_laid (by kernel_rfl) (of_decide_eq_true (by kernel_rfl)) k0 bel lt0) (trodAll_cons_mk (Below.trod prog_laid (by kernel_rfl) (of_decide_eq_true (by kernel_rfl)) k1 bel lt1) (trodAll_cons_mk (Below.trod prog_laid (by kernel_rfl) (of_decide_eq_true (by kernel_rfl)) k2 bel lt2) trodAll_mk0))), rfl, bel.frame _, fun h => by cases h⟩

theorem frame (hM : ∀ (x0 : List Int), (∀ z ∈ x0, (Lit.int .i64 z).wf = true) → x0.length ≤ maxLen → ∀ (x1 : List Int), (∀ z ∈ x1, (Lit.int .i64 z).wf = true) → x1.length ≤ maxLen → ∀ (x2 : List Int), (∀ z ∈ x2, (Lit.int .i64 z).wf = true) → x2.length ≤ maxLen → Does Try.prog 4 [nums x0, nums x1, nums x2] [] fun v _ => v = .bool true) : Rows.CoinDrawsSaid :=
  OpenClaim.holds_of_wide 4 Try.f4 rfl rfl rfl rfl rfl rfl rfl ⟨rfl, rfl, rfl, rfl, rfl⟩ rfl rfl rfl rfl rfl (by kernel_rfl) Try.func4 (by kernel_rfl)
    (of_decide_eq_true (by kernel_rfl)) (by unfold Func.isWrapper; first | (rw [if_pos (by decide +kernel)]; kernel_rfl) | (rw [if_neg (by decide +kernel)]; exact ⟨rfl, rfl⟩))
    (fun os started H enc _ => lifted hM os started H enc)
end coinDraws
end Go.Proofs.Ytkpihepaaiofgaa
end
