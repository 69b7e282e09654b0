/- Part 6 of what the law needs: own work, put together. -/
import Derived.ProofKit
import Derived.Test.YtkpihepaaiofgaaRows
import Derived.Test.YtkpihepaaiofgaaCoinFai4
section
namespace Go.Proofs.Ytkpihepaaiofgaa
open Go.RowKit
set_option linter.unusedVariables false
set_option linter.unusedSimpArgs false
set_option maxRecDepth 10000
set_option maxHeartbeats 4000000

theorem w64 {x : Int} (h0 : -9223372036854775808 ≤ x) (h1 : x < 9223372036854775808) : IntKind.i64.wrap x = x := by
  simp [IntKind.wrap, IntKind.bits, IntKind.signed]
  omega
theorem wu64 (x : Int) : 0 ≤ IntKind.u64.wrap x ∧ IntKind.u64.wrap x < 2 ^ 64 := by
  have e : IntKind.u64.wrap x = x % 2 ^ 64 := rfl
  omega
theorem wu64_id {x : Int} (h0 : 0 ≤ x) (h1 : x < 2 ^ 64) : IntKind.u64.wrap x = x := by
  have e : IntKind.u64.wrap x = x % 2 ^ 64 := rfl
  omega

section
variable {ρ : Type} {A B C : Type}
theorem loop2_T {body : (A → B → Option ρ) → A → B → Option ρ} (T : Option ρ → Prop) (P : A → B → Prop) (μ : A → B → Nat) (h : ∀ rec a b, P a b → (∀ a' b', P a' b' → μ a' b' < μ a b → T (rec a' b')) → T (body rec a b)) : ∀ (N : Nat) (a : A) (b : B), P a b → μ a b < N → T (loop2 body N a b)
  | 0, a, b, _, hm => absurd hm (Nat.not_lt_zero _)
  | n + 1, a, b, hp, hm => h (loop2 body n) a b hp fun a' b' hp' hm' => loop2_T T P μ h n a' b' hp' (by omega)
end
theorem getI_nat {α : Type} (l : List α) (i : Nat) : getI l (i : Int) = l[i]? := by simp [getI]
theorem getI_lt {α : Type} {l : List α} {i : Int} (h0 : 0 ≤ i) (h1 : i < (l.length : Int)) : ∃ x, getI l i = some x ∧ l[i.toNat]? = some x ∧ x ∈ l := by
  have hlt : i.toNat < l.length := by omega
  refine ⟨l[i.toNat], ?_, List.getElem?_eq_getElem hlt, List.getElem_mem hlt⟩
  simp only [getI, h0, if_true]
  exact List.getElem?_eq_getElem hlt
theorem pushI_ok {α : Type} {l m : List α} (h : l.length + m.length ≤ 65536) : pushI l m = some (l ++ m) := if_pos h
theorem letJ_eq {κ ρ : Type} (K : κ) (f : κ → Option ρ) : letJ K f = f K := rfl

theorem hit_p (N : Nat) (d : T_bk_Drum) : ∃ y d', p_bk_Drum_hit N d = some (y, d') ∧ 0 ≤ y ∧ y < 2 ^ 64 := by
  refine ⟨_, _, rfl, ?_⟩
  exact wu64 _
theorem roll_p (N : Nat) (d : T_bk_Drum) (n : Int) (hn : n < 9223372036854775808) : ∃ r d', p_bk_Drum_Roll N d n = some (r, d') ∧ 0 ≤ r ∧ (n < 2 → r = 0) ∧ (2 ≤ n → r < n) := by
  unfold p_bk_Drum_Roll
  by_cases h2 : n < 2
  · simp only [h2, decide_true, cond_true]
    exact ⟨0, d, rfl, by omega, fun _ => rfl, fun h => by omega⟩
  · simp only [h2, decide_false, cond_false]
    obtain ⟨y, d', hy, h0, h1⟩ := hit_p N d
    have hu : IntKind.u64.wrap n = n := wu64_id (by omega) (by omega)
    have hnz : n ≠ 0 := by omega
    rw [hy, hu]
    simp only [Option.bind_some, nzI, hnz, if_false]
    have hsh : Int.fdiv y ((2 : Int) ^ (min (Int.toNat 1) (IntKind.bits .u64))) = y / 2 := by
      have : (2 : Int) ^ (min (Int.toNat 1) (IntKind.bits .u64)) = 2 := rfl
      rw [this, Int.fdiv_eq_ediv_of_nonneg _ (by omega)]
    rw [hsh]
    have hd0 : 0 ≤ y / 2 := by omega
    have hm : Int.tmod (y / 2) n = (y / 2) % n := Int.tmod_eq_emod_of_nonneg hd0
    have hm0 : 0 ≤ (y / 2) % n := Int.emod_nonneg _ hnz
    have hm1 : (y / 2) % n < n := Int.emod_lt_of_pos _ (by omega)
    rw [hm, w64 (x := y / 2 % n) (by omega) (by omega)]
    exact ⟨_, d', rfl, hm0, fun h => False.elim h, fun _ => hm1⟩
theorem mid_p (N : Nat) (d : T_bk_Drum) (lo hi : Int) (h0 : -4611686018427387904 ≤ lo) (h1 : lo ≤ 4611686018427387903) (h2 : -4611686018427387904 ≤ hi) (h3 : hi ≤ 4611686018427387902) : ∃ r d', p_bk_Drum_Mid N d lo hi = some (r, d') ∧ lo ≤ r ∧ (lo ≤ hi → r ≤ hi) ∧ (hi < lo → r = lo) := by
  unfold p_bk_Drum_Mid
  rw [w64 (x := hi - lo) (by omega) (by omega)]
  by_cases hc : hi - lo + 1 < 9223372036854775808
  · rw [w64 (x := hi - lo + 1) (by omega) hc]
    obtain ⟨r, d', e1, e2, e3, e4⟩ := roll_p N d (hi - lo + 1) hc
    rw [e1]
    simp only [Option.bind_some]
    have hr : r ≤ hi - lo ∨ r = 0 := by
      by_cases h : hi - lo + 1 < 2
      · exact .inr (e3 h)
      · have := e4 (by omega); exact .inl (by omega)
    rw [w64 (by omega) (by omega)]
    exact ⟨_, d', rfl, by omega, fun h => by omega, fun h => by
      have := e3 (by omega)
      omega⟩
  · omega
theorem drumOf_step (N : Nat) (l : List Int) (rec : Int → Int → Option T_bk_Drum) (i q : Int) (h : i < 9223372036854775807) (h0 : 0 ≤ i) (ih : ∀ b', ∃ d, rec (i + 1) b' = some d) : ∃ d, ((p_bk_Drum_hit N (⟨q⟩ : T_bk_Drum)).bind fun r_14 => (rec (IntKind.i64.wrap (i + 1)) r_14.2.beat_)) = some d := by
  obtain ⟨y, d', g1, _, _⟩ := hit_p N ⟨q⟩
  rw [g1, w64 (x := i + 1) (by omega) (by omega)]
  exact ih _
theorem drumOf_p (N : Nat) (l : List Int) (hN : l.length < N) (hl : l.length < 9223372036854775808) : ∃ d, p_bk_DrumOf N l = some d := by
  unfold p_bk_DrumOf
  rw [letJ_eq]
  refine loop2_T (fun x => ∃ d, x = some d) (fun i b => 0 ≤ i ∧ i ≤ (l.length : Int)) (fun i b => l.length - i.toNat) ?_ N 0 _ ⟨by omega, by omega⟩ (by simpa using hN)
  rintro rec i b ⟨h0, h1⟩ ih
  by_cases hc : i < (l.length : Int)
  · rw [show decide (i < ((l.length : Nat) : Int)) = true from decide_eq_true hc, cond_true]
    obtain ⟨x, e1, _, _⟩ := getI_lt h0 hc
    rw [e1, Option.bind_some, Option.bind_some]
    exact drumOf_step N l rec i _ (by omega) h0 fun b' => ih _ _ ⟨by omega, by omega⟩ (by omega)
  · rw [show decide (i < ((l.length : Nat) : Int)) = false from decide_eq_false hc, cond_false]
    exact ⟨_, rfl⟩
section
variable {A B ρ : Type}
theorem st1 (n : Nat) (body : (Int → Option ρ) → Int → Option ρ) (r : Option ρ) (hend : ∀ rec, body rec (n : Int) = r) (hstep : ∀ rec (i : Nat), i < n → body rec (i : Int) = rec ((i + 1 : Nat) : Int)) : ∀ (N i : Nat), i ≤ n → n - i < N → loop1 body N (i : Int) = r
  | 0, i, _, h => absurd h (Nat.not_lt_zero _)
  | N + 1, i, hle, hN => by
    show body (loop1 body N) (i : Int) = _
    by_cases hlt : i < n
    · rw [hstep _ i hlt]; exact st1 n body r hend hstep N (i + 1) (by omega) (by omega)
    · have : i = n := by omega
      subst this
      exact hend _
theorem st2 (n : Nat) (st : Nat → A) (body : (Int → A → Option ρ) → Int → A → Option ρ) (r : Option ρ) (hend : ∀ rec, body rec (n : Int) (st n) = r) (hstep : ∀ rec (i : Nat), i < n → body rec (i : Int) (st i) = rec ((i + 1 : Nat) : Int) (st (i + 1))) : ∀ (N i : Nat), i ≤ n → n - i < N → loop2 body N (i : Int) (st i) = r
  | 0, i, _, h => absurd h (Nat.not_lt_zero _)
  | N + 1, i, hle, hN => by
    show body (loop2 body N) (i : Int) (st i) = _
    by_cases hlt : i < n
    · rw [hstep _ i hlt]; exact st2 n st body r hend hstep N (i + 1) (by omega) (by omega)
    · have : i = n := by omega
      subst this
      exact hend _
theorem st2' (n : Nat) (st : Nat → A) (body : (A → Int → Option ρ) → A → Int → Option ρ) (r : Option ρ) (hend : ∀ rec, body rec (st n) (n : Int) = r) (hstep : ∀ rec (i : Nat), i < n → body rec (st i) (i : Int) = rec (st (i + 1)) ((i + 1 : Nat) : Int)) : ∀ (N i : Nat), i ≤ n → n - i < N → loop2 body N (st i) (i : Int) = r
  | 0, i, _, h => absurd h (Nat.not_lt_zero _)
  | N + 1, i, hle, hN => by
    show body (loop2 body N) (st i) (i : Int) = _
    by_cases hlt : i < n
    · rw [hstep _ i hlt]; exact st2' n st body r hend hstep N (i + 1) (by omega) (by omega)
    · have : i = n := by omega
      subst this
      exact hend _
theorem st2z (n : Nat) (st : Nat → A) {body : (Int → A → Option ρ) → Int → A → Option ρ} {r : Option ρ} {a : A} {N : Nat} (ha : a = st 0) (hN : n < N) (hend : ∀ rec, body rec (n : Int) (st n) = r) (hstep : ∀ rec (i : Nat), i < n → body rec (i : Int) (st i) = rec ((i + 1 : Nat) : Int) (st (i + 1))) : loop2 body N 0 a = r := by
  subst ha; exact st2 n st body r hend hstep N 0 (Nat.zero_le _) (by omega)
theorem st2z' (n : Nat) (st : Nat → A) {body : (A → Int → Option ρ) → A → Int → Option ρ} {r : Option ρ} {a : A} {N : Nat} (ha : a = st 0) (hN : n < N) (hend : ∀ rec, body rec (st n) (n : Int) = r) (hstep : ∀ rec (i : Nat), i < n → body rec (st i) (i : Int) = rec (st (i + 1)) ((i + 1 : Nat) : Int)) : loop2 body N a 0 = r := by
  subst ha; exact st2' n st body r hend hstep N 0 (Nat.zero_le _) (by omega)
end
theorem nadd1 (i : Nat) (h : i < 4611686018427387904) : IntKind.i64.wrap ((i : Int) + 1) = ((i + 1 : Nat) : Int) := by
  rw [w64 (x := (i : Int) + 1) (by omega) (by omega)]
  omega
theorem ltD {i n : Nat} (h : i < n) : decide ((i : Int) < ((n : Nat) : Int)) = true := decide_eq_true (by omega)
theorem ltE (n : Nat) : decide (((n : Nat) : Int) < ((n : Nat) : Int)) = false := decide_eq_false (by omega)

theorem roll_le (N : Nat) (d : T_bk_Drum) (n : Int) (h1 : 1 ≤ n) (hn : n < 9223372036854775808) : ∃ r d', p_bk_Drum_Roll N d n = some (r, d') ∧ 0 ≤ r ∧ r < n := by
  obtain ⟨r, d', e, h0, h2, h3⟩ := roll_p N d n hn
  refine ⟨r, d', e, h0, ?_⟩
  by_cases h : n < 2
  · rw [h2 h]; omega
  · exact h3 (by omega)
theorem ints_t (N : Nat) (l : List Int) (h : l.length ≤ 65536) : p_bk_Ints N l = some l := by
  unfold p_bk_Ints
  rw [pushI_ok (by simpa using h)]
  rfl

theorem allL {ρ : Type} (l : List Int) (p : Int → Bool) (K E : Option ρ) {body : (Int → Option ρ) → Int → Option ρ} (hend : ∀ rec, body rec (l.length : Int) = K) (hstep : ∀ rec (i : Nat) (x : Int), l[i]? = some x → body rec (i : Int) = if p x then rec ((i + 1 : Nat) : Int) else E) : ∀ (N i : Nat), i ≤ l.length → l.length - i < N → loop1 body N (i : Int) = if (l.drop i).all p then K else E
  | 0, i, _, h => absurd h (Nat.not_lt_zero _)
  | N + 1, i, hle, hN => by
    show body (loop1 body N) (i : Int) = _
    by_cases hlt : i < l.length
    · have hx : l[i]? = some l[i] := List.getElem?_eq_getElem hlt
      rw [hstep _ i _ hx, List.drop_eq_getElem_cons hlt, List.all_cons]
      cases hp : p l[i] with
      | false => simp
      | true =>
        rw [if_pos rfl, allL l p K E hend hstep N (i + 1) (by omega) (by omega)]
        simp
    · have : i = l.length := by omega
      subst this
      rw [hend, List.drop_length]
      simp
theorem allL0 {ρ : Type} (l : List Int) (p : Int → Bool) (K E : Option ρ) {body : (Int → Option ρ) → Int → Option ρ} {N : Nat} (hN : l.length < N) (hend : ∀ rec, body rec (l.length : Int) = K) (hstep : ∀ rec (i : Nat) (x : Int), l[i]? = some x → body rec (i : Int) = if p x then rec ((i + 1 : Nat) : Int) else E) : loop1 body N 0 = if l.all p then K else E := by
  have := allL l p K E hend hstep N 0 (by omega) (by omega)
  simpa using this
def pre (l : List Int) (i : Nat) : Int := (l.take i).sum
def wsum (l : List Int) (i : Nat) : Int := (l.take i).foldl (fun a x => IntKind.i64.wrap (a + x)) 0
theorem wsum_succ (l : List Int) (i : Nat) (x : Int) (h : l[i]? = some x) : wsum l (i + 1) = IntKind.i64.wrap (wsum l i + x) := by
  have hlt := (List.getElem?_eq_some_iff.1 h).1
  unfold wsum
  rw [List.take_add_one, h]
  simp [List.foldl_append]
theorem pre_succ (l : List Int) (i : Nat) (x : Int) (h : l[i]? = some x) : pre l (i + 1) = pre l i + x := by
  unfold pre
  rw [List.take_add_one, h]
  simp
theorem pre_zero (l : List Int) : pre l 0 = 0 := rfl
theorem pre_bd (l : List Int) (m : Int) (h0 : 0 ≤ m) (h : ∀ x ∈ l, 0 ≤ x ∧ x ≤ m) : ∀ i, i ≤ l.length → 0 ≤ pre l i ∧ pre l i ≤ m * (i : Int)
  | 0, _ => by rw [pre_zero]; simp
  | i + 1, hi => by
    have ih := pre_bd l m h0 h i (by omega)
    have hx : l[i]? = some l[i] := List.getElem?_eq_getElem (by omega)
    have := h _ (List.getElem_mem (show i < l.length by omega))
    rw [pre_succ l i _ hx]
    have e : m * ((i + 1 : Nat) : Int) = m * (i : Int) + m := by rw [Int.natCast_add, Int.mul_add]; simp
    rw [e]; omega
theorem pre_mono (l : List Int) (h : ∀ x ∈ l, 0 ≤ x) : ∀ i j, i ≤ j → j ≤ l.length → pre l i ≤ pre l j := by
  intro i j hij hj
  induction j with
  | zero =>
    have : i = 0 := by omega
    subst this; exact Int.le_refl _
  | succ j ih =>
    by_cases he : i = j + 1
    · subst he; exact Int.le_refl _
    · have hx : l[j]? = some l[j] := List.getElem?_eq_getElem (by omega)
      have := h _ (List.getElem_mem (show j < l.length by omega))
      have := ih (by omega) (by omega)
      rw [pre_succ l j _ hx]; omega
theorem wsum_pre (l : List Int) (m : Int) (h0 : 0 ≤ m) (h : ∀ x ∈ l, 0 ≤ x ∧ x ≤ m) (hb : m * (l.length : Int) < 9223372036854775808) : ∀ i, i ≤ l.length → wsum l i = pre l i
  | 0, _ => rfl
  | i + 1, hi => by
    have hx : l[i]? = some l[i] := List.getElem?_eq_getElem (by omega)
    have ih := wsum_pre l m h0 h hb i (by omega)
    have hb2 := pre_bd l m h0 h (i + 1) hi
    have e : m * ((i + 1 : Nat) : Int) ≤ m * (l.length : Int) := Int.mul_le_mul_of_nonneg_left (by omega) h0
    rw [pre_succ l i _ hx] at hb2
    rw [wsum_succ l i _ hx, pre_succ l i _ hx, ih, w64 (by omega) (by omega)]
theorem getD_at {α : Type} [Inhabited α] {l : List α} {i : Nat} {x : α} (h : l[i]? = some x) : getI l (i : Int) = some x := by
  rw [getI_nat, h]
theorem sumL {ρ : Type} (l : List Int) (K : Int → Option ρ) {body : (Int → Int → Option ρ) → Int → Int → Option ρ} {N : Nat} (hN : l.length < N) (hend : ∀ rec b, body rec (l.length : Int) b = K b) (hstep : ∀ rec (i : Nat) (x b : Int), l[i]? = some x → body rec (i : Int) b = rec ((i + 1 : Nat) : Int) (IntKind.i64.wrap (b + x))) : loop2 body N 0 0 = K (wsum l l.length) := by
  refine st2z l.length (wsum l) rfl hN (fun rec => hend _ _) fun rec i hi => ?_
  have hx : l[i]? = some l[i] := List.getElem?_eq_getElem hi
  rw [hstep rec i _ _ hx, wsum_succ l i _ hx]
theorem sumL' {ρ : Type} (l : List Int) (K : Int → Option ρ) {body : (Int → Int → Option ρ) → Int → Int → Option ρ} {N : Nat} (hN : l.length < N) (hend : ∀ rec b, body rec b (l.length : Int) = K b) (hstep : ∀ rec (i : Nat) (x b : Int), l[i]? = some x → body rec b (i : Int) = rec (IntKind.i64.wrap (b + x)) ((i + 1 : Nat) : Int)) : loop2 body N 0 0 = K (wsum l l.length) := by
  refine st2z' l.length (wsum l) rfl hN (fun rec => hend _ _) fun rec i hi => ?_
  have hx : l[i]? = some l[i] := List.getElem?_eq_getElem hi
  rw [hstep rec i _ _ hx, wsum_succ l i _ hx]
end Go.Proofs.Ytkpihepaaiofgaa
end
section
namespace Go.Proofs.Ytkpihepaaiofgaa
open Go.RowKit
set_option linter.unusedVariables false
set_option linter.unusedSimpArgs false
set_option maxRecDepth 10000
set_option maxHeartbeats 4000000

def wi (a b x : Int) : Bool := decide (x ≥ a) && decide (x ≤ b)
theorem wi_iff {a b x : Int} : wi a b x = true ↔ a ≤ x ∧ x ≤ b := by simp [wi]
theorem within_p (N : Nat) (n a b : Int) : p_coin_within N n a b = some (wi a b n) := by
  unfold p_coin_within wi
  show (bif decide (n ≥ a) then some (decide (n ≤ b)) else some false) = _
  cases decide (n ≥ a) <;> rfl
theorem total_p (N : Nat) (l : List Int) (hN : l.length < N) (h2 : l.length < 4611686018427387904) : p_coin_total N l = some (wsum l l.length) := by
  unfold p_coin_total
  have e1 : p_slices_Values_int_int N l = some l := rfl
  rw [e1, Option.bind_some]
  unfold p_coin_sum_int_slices_Values_int_int_1r_coin_total_1
  simp only [letJ_eq]
  rw [sumL l (fun b => some b) hN (fun rec b => by simp only [ltE, cond_false]) (fun rec i x b hx => by
    have hi := (List.getElem?_eq_some_iff.1 hx).1
    simp only [ltD hi, cond_true, getD_at hx, Option.bind_some, p_coin_total_1, nadd1 i (by omega)])]
  rfl
def chk (ts ss : List Int) : Int := if ts.length > 12 then 5 else if ts.all (wi 0 1000) then (if ss.length ≠ ts.length then 1 else if ss.all (wi 0 1000000000) then (if wsum ts ts.length = 0 then 4 else 0) else 2) else 2
theorem chk_p (N : Nat) (ts ss : List Int) (hN : 100 < N) (h1 : ts.length ≤ 20) (h2 : ss.length ≤ 20) : p_coin_checkRaffle N ts ss = some (chk ts ss) := by
  unfold p_coin_checkRaffle chk
  simp only [letJ_eq]
  by_cases hl : ts.length > 12
  · rw [if_pos hl, show decide (((ts.length : Nat) : Int) > 12) = true from decide_eq_true (by omega)]
    rfl
  rw [if_neg hl, show decide (((ts.length : Nat) : Int) > 12) = false from decide_eq_false (by omega), cond_false]
  rw [allL0 ts (wi 0 1000) _ _ (by omega) (fun rec => by simp only [ltE, cond_false]; rfl) (fun rec i x hx => by
    have hi := (List.getElem?_eq_some_iff.1 hx).1
    simp only [ltD hi, cond_true, getD_at hx, Option.bind_some, within_p, nadd1 i (by omega)]
    cases wi 0 1000 x <;> rfl)]
  split
  · by_cases hs : ss.length = ts.length
    · rw [if_neg (by simpa using hs), show (((ss.length : Nat) : Int) != ((ts.length : Nat) : Int)) = false by simp [hs], cond_false]
      rw [allL0 ss (wi 0 1000000000) _ _ (by omega) (fun rec => by simp only [ltE, cond_false]; rfl) (fun rec i x hx => by
        have hi := (List.getElem?_eq_some_iff.1 hx).1
        simp only [ltD hi, cond_true, getD_at hx, Option.bind_some, within_p, nadd1 i (by omega)]
        cases wi 0 1000000000 x <;> rfl)]
      split
      · rw [total_p N ts (by omega) (by omega), Option.bind_some]
        by_cases hz : wsum ts ts.length = 0
        · rw [if_pos hz, hz]; rfl
        · rw [if_neg hz, show (wsum ts ts.length == 0) = false by simpa using hz]; rfl
      · rfl
    · rw [if_pos hs, show (((ss.length : Nat) : Int) != ((ts.length : Nat) : Int)) = true by simp; omega]
      rfl
  · rfl
theorem chk_ok {ts ss : List Int} (h : chk ts ss = 0) : ts.length ≤ 12 ∧ (∀ x ∈ ts, 0 ≤ x ∧ x ≤ 1000) ∧ ss.length = ts.length ∧ (∀ x ∈ ss, 0 ≤ x ∧ x ≤ 1000000000) ∧ wsum ts ts.length ≠ 0 := by
  unfold chk at h
  split at h
  · omega
  rename_i h1
  split at h
  case isFalse => omega
  rename_i h2
  split at h
  · omega
  rename_i h3
  split at h
  case isFalse => omega
  rename_i h4
  split at h
  · omega
  rename_i h5
  rw [List.all_eq_true] at h2 h4
  exact ⟨by omega, fun x hx => wi_iff.1 (h2 x hx), by simpa using h3, fun x hx => wi_iff.1 (h4 x hx), h5⟩
theorem chk_of {ts ss : List Int} (h1 : ts.length ≤ 12) (h2 : ∀ x ∈ ts, 0 ≤ x ∧ x ≤ 1000) (h3 : ss.length = ts.length) (h4 : ∀ x ∈ ss, 0 ≤ x ∧ x ≤ 1000000000) (h5 : wsum ts ts.length ≠ 0) : chk ts ss = 0 := by
  unfold chk
  rw [if_neg (by omega), if_pos (List.all_eq_true.2 fun x hx => wi_iff.2 (h2 x hx)), if_neg (by simpa using h3), if_pos (List.all_eq_true.2 fun x hx => wi_iff.2 (h4 x hx)), if_neg h5]
theorem holder_ex (ts : List Int) (t : Int) (h0 : 0 ≤ t) : ∀ n, n ≤ ts.length → t < pre ts n → ∃ h, h < n ∧ pre ts h ≤ t ∧ t < pre ts (h + 1)
  | 0, _, h => by rw [pre_zero] at h; omega
  | n + 1, hn, h => by
    by_cases hc : t < pre ts n
    · obtain ⟨k, h1, h2, h3⟩ := holder_ex ts t h0 n (by omega) hc
      exact ⟨k, by omega, h2, h3⟩
    · exact ⟨n, by omega, by omega, h⟩
theorem holder_p (N : Nat) (ts : List Int) (t : Int) (h : Nat) (hN : 100 < N) (hl : ts.length ≤ 12) (hb : ∀ x ∈ ts, 0 ≤ x ∧ x ≤ 1000) (h0 : 0 ≤ t) (ht : t < 1000000) (hh : h < ts.length) (h1 : pre ts h ≤ t) (h2 : t < pre ts (h + 1)) : p_coin_holderOf N ts t = some (h : Int) := by
  unfold p_coin_holderOf
  simp only [letJ_eq]
  have hbd := fun i hi => pre_bd ts 1000 (by omega) hb i hi
  refine st2z' h (fun i => t - pre ts i) (by simp [pre_zero]) (by omega) ?_ ?_
  · intro rec
    have hx : ts[h]? = some ts[h] := List.getElem?_eq_getElem hh
    have e := pre_succ ts h _ hx
    simp only [getD_at hx, Option.bind_some]
    rw [show decide (t - pre ts h ≥ ts[h]) = false from decide_eq_false (by omega)]
    rfl
  · intro rec i hi
    have hx : ts[i]? = some ts[i] := List.getElem?_eq_getElem (by omega)
    have e := pre_succ ts i _ hx
    have hm := pre_mono ts (fun x hx => (hb x hx).1) (i + 1) h (by omega) (by omega)
    have b1 := (hbd (i + 1) (by omega)).1
    simp only [getD_at hx, Option.bind_some]
    rw [show decide (t - pre ts i ≥ ts[i]) = true from decide_eq_true (by omega), cond_true, nadd1 i (by omega), w64 (by omega) (by omega), e]
    congr 1
    omega
theorem draw_ok (N : Nat) (ts ss : List Int) (hN : 100 < N) (h0 : chk ts ss = 0) : ∃ (t : Int) (h : Nat), p_coin_Draw N ts ss = some (t, (h : Int), 0) ∧ t = pre ss ss.length % pre ts ts.length ∧ 0 < pre ts ts.length ∧ 0 ≤ t ∧ t < pre ts ts.length ∧ h < ts.length ∧ pre ts h ≤ t ∧ t < pre ts (h + 1) ∧ wsum ts ts.length = pre ts ts.length ∧ wsum ss ss.length = pre ss ss.length := by
  obtain ⟨k1, k2, k3, k4, k5⟩ := chk_ok h0
  have w1 := wsum_pre ts 1000 (by omega) k2 (by omega) ts.length (Nat.le_refl _)
  have w2 := wsum_pre ss 1000000000 (by omega) k4 (by omega) ss.length (Nat.le_refl _)
  have b1 := pre_bd ts 1000 (by omega) k2 ts.length (Nat.le_refl _)
  have b2 := pre_bd ss 1000000000 (by omega) k4 ss.length (Nat.le_refl _)
  rw [w1] at k5
  have hpos : 0 < pre ts ts.length := by omega
  have hm := Int.tmod_eq_emod_of_nonneg (b := pre ts ts.length) b2.1
  have m0 := Int.emod_nonneg (pre ss ss.length) (show pre ts ts.length ≠ 0 by omega)
  have m1 := Int.emod_lt_of_pos (pre ss ss.length) hpos
  obtain ⟨h, g1, g2, g3⟩ := holder_ex ts _ m0 ts.length (Nat.le_refl _) m1
  refine ⟨pre ss ss.length % pre ts ts.length, h, ?_, rfl, hpos, m0, m1, g1, g2, g3, w1, w2⟩
  unfold p_coin_Draw
  rw [chk_p N ts ss hN (by omega) (by omega), h0, Option.bind_some]
  simp only [bne_self_eq_false, cond_false]
  rw [total_p N ss (by omega) (by omega), Option.bind_some, total_p N ts (by omega) (by omega), Option.bind_some, w1, w2]
  rw [show nzI (pre ts ts.length) = some () by unfold nzI; rw [if_neg (by omega)], Option.bind_some, hm, holder_p N ts _ h hN k1 k2 m0 (by omega) g1 g2 g3]
  rfl
end Go.Proofs.Ytkpihepaaiofgaa
end
section
namespace Go.Proofs.Ytkpihepaaiofgaa
open Go.RowKit
set_option linter.unusedVariables false
set_option linter.unusedSimpArgs false
set_option maxRecDepth 10000
set_option maxHeartbeats 4000000
attribute [local simp] ren ren1 AV.plain AV.plain1 AV.clean cleanL cleanI cleanBo cleanSt cleanII KL_bk_Drum KL_api_Fund KL_api_Bill KL_api_Ledger KL_coin_claim KL_V8_i64 KL_api_Span A_bk_Drum C_bk_Drum A_api_Fund C_api_Fund A_api_Bill C_api_Bill A_api_Ledger C_api_Ledger A_coin_claim C_coin_claim A_V8_i64 C_V8_i64 A_api_Span C_api_Span back back1 fadeS fadeV List.idxOf? List.findIdx? List.findIdx?.go re re1 KB_bk_Drum KB_api_Fund KB_api_Bill KB_api_Ledger KB_coin_claim KB_V8_i64 KB_api_Span chillS chillV
theorem t_bk_Ints (N : Nat) (l_1 : (List Int)) (r : (List Int)) (h : p_bk_Ints N l_1 = some r) : TokOk Try.prog ⟨31, [.sl (l_1.map (AV.int .i64)) none], r.map (AV.int .i64), r.length, 1⟩ := by
  refine ⟨?_, (cleanI _ _), by simp⟩
  unfold p_bk_Ints at h
  refine DoesT.of comp31 ?_
  refine Ex.seq ?_
  refine regH 1 [] [0] [] (mkS 6 [(0, .sl (l_1.map (AV.int .i64)) none)]) (⟨[], []⟩) (by kernel_rfl) trivial rfl ?_
  refine Ex.seq ?_
  obtain ⟨l_2, hl_2, h⟩ := Option.bind_eq_some_iff.1 h
  refine regH 4 [(2, .apps (l_1.map (AV.int .i64)) (l_2.map (AV.int .i64)) l_2.length)] [2] [LApps 0 (([] : List Int).map (AV.int .i64)) (l_1.map (AV.int .i64)) (l_1.map (AV.int .i64)) 1 (l_2.map (AV.int .i64)) l_2.length] (mkS 6 [(2, .sl (l_2.map (AV.int .i64)) (some 0))]) (⟨[], [(l_2.length, 1)]⟩) (by kernel_rfl) ⟨LApps.of hl_2 (fun _ => rfl) (fun _ => rfl) (fun _ => rfl), trivial⟩ rfl ?_
  refine Ex.ret ?_
  obtain rfl := Option.some.inj h
  exact ⟨.inr rfl, .sl (l_2.map (AV.int .i64)) (some 0), by kernel_rfl, 0, by kernel_rfl, by kernel_rfl⟩
def p_bl9_CoinFair (N : Nat) (nums_1 : (List Int)) : Option (Bool) := ((p_bk_DrumOf N nums_1).bind fun r_2 => ((p_bk_Drum_Mid N r_2 1 9).bind fun r_3 => ((p_bk_Drum_Roll N r_3.2 1000000000).bind fun r_4 => ((p_bk_Drum_Roll N r_4.2 5).bind fun r_5 => (letJ (fun (tickets_6 : List Int) (secrets_7 : List Int) (b_8 : Int) => ((p_bk_Sum N tickets_6).bind fun r_24 => ((p_bk_Drum_Roll N (⟨b_8⟩ : T_bk_Drum) ((tickets_6.length : Nat) : Int)).bind fun r_25 => ((p_bk_Drum_Mid N r_25.2 0 (IntKind.i64.wrap (1000000000 - r_24))).bind fun r_26 => ((mkI r_24).bind fun k_27 => (letJ (fun (w_28 : List Int) => (letJ (fun (_ : Unit) => ((p_bl9_awake N).bind fun r_78 => some r_78)) (fun k_67 => (loop1 (fun rec_71 (i_70 : Int) => (bif (decide (i_70 < r_24)) then ((idxI i_70 k_27).bind fun u_75 => ((w_28[Int.toNat i_70]?).bind fun x_76 => (bif (x_76 != 1) then some false else (rec_71 (IntKind.i64.wrap (i_70 + 1)))))) else (k_67 ()))) N 0)))) (fun k_29 => (loop2 (fun rec_34 (i_32 : Int) (w_33 : List Int) => (bif (decide (i_32 < r_24)) then ((p_bk_Ints N secrets_7).bind fun r_38 => ((idxI r_25.1 r_38.length).bind fun u_39 => ((setI r_38 r_25.1 (fun (y_40 : Int) => (IntKind.i64.wrap (r_26.1 + i_32)))).bind fun z_41 => ((lenI z_41 r_38.length).bind fun u_42 => ((p_coin_Draw N tickets_6 z_41).bind fun r_43 => (letJ (fun (y_44 : Bool) => (bif y_44 then some false else ((idxI r_43.1 k_27).bind fun u_53 => ((w_33[Int.toNat r_43.1]?).bind fun x_54 => ((idxI r_43.1 k_27).bind fun u_55 => ((setI w_33 r_43.1 (fun (y_56 : Int) => (IntKind.i64.wrap (x_54 + 1)))).bind fun z_57 => ((partI tickets_6 0 r_43.2.1).bind fun l_58 => ((p_bk_Sum N l_58).bind fun r_59 => (letJ (fun (y_60 : Bool) => (bif y_60 then some false else (rec_34 (IntKind.i64.wrap (i_32 + 1)) z_57))) (fun k_61 => (bif (decide (r_43.1 < r_59)) then (k_61 true) else ((getI tickets_6 r_43.2.1).bind fun x_65 => (k_61 (decide (r_43.1 ≥ (IntKind.i64.wrap (r_59 + x_65))))))))))))))))) (fun k_45 => (bif (r_43.2.2 != 0) then (k_45 true) else (bif (decide (r_43.1 < 0)) then (k_45 true) else (bif (decide (r_43.1 ≥ r_24)) then (k_45 true) else (bif (decide (r_43.2.1 < 0)) then (k_45 true) else (k_45 (decide (r_43.2.1 ≥ ((tickets_6.length : Nat) : Int))))))))))))))) else (k_29 w_33))) N 0 (List.replicate k_27 0))))))))) (fun k_9 => (loop4 (fun rec_16 (tickets_12 : List Int) (secrets_13 : List Int) (i_14 : Int) (b_15 : Int) => (bif (decide (i_14 > 0)) then ((p_bk_Drum_Roll N (⟨b_15⟩ : T_bk_Drum) 10).bind fun r_20 => ((pushI tickets_12 ([r_20.1] : List Int)).bind fun l_21 => ((p_bk_Drum_Roll N r_20.2 1000000000).bind fun r_22 => ((pushI secrets_13 ([r_22.1] : List Int)).bind fun l_23 => (rec_16 l_21 l_23 (IntKind.i64.wrap (i_14 - 1)) r_22.2.beat_))))) else (k_9 tickets_12 secrets_13 b_15))) N [r_3.1] [r_4.1] r_5.1 r_5.2.beat_)))))))
def v_bl9_CoinFair (r : Bool) : AV := .bool r
attribute [local simp] v_bl9_CoinFair
theorem d_bl9_CoinFair (N : Nat) (nums_1 : (List Int)) (r : Bool) (h : p_bl9_CoinFair N nums_1 = some r) : Does Try.prog 12 [.sl (nums_1.map (AV.int .i64)) none] [] fun v c => v = v_bl9_CoinFair r ∧ c = [] := by
  unfold p_bl9_CoinFair at h
  refine Does.ofL comp12 _ _ rfl rfl ?_
  refine Ex.seq ?_
  refine regH 1 [] [0] [] (mkS 129 [(0, .sl (nums_1.map (AV.int .i64)) none)]) (⟨[], []⟩) (by kernel_rfl) trivial rfl ?_
  refine Ex.seq ?_
  obtain ⟨r_2, hr_2, h⟩ := Option.bind_eq_some_iff.1 h
  refine Ex.reg ?_
  refine runH 1 [] [18] [] (mkS 129 [(18, .sl (nums_1.map (AV.int .i64)) none)]) (⟨[], []⟩) (by kernel_rfl) trivial ?_
  refine ExO.callL (v' := .ptr 0 0) [] [.sl (nums_1.map (AV.int .i64)) none] rfl rfl (a_bk_DrumOf nums_1) rfl rfl (d_bk_DrumOf N nums_1 r_2 hr_2) rfl (by simp) ?_
  refine runH 1 [] [3] [] (mkS 129 [(3, .ptr 0 0)]) (⟨[(C_bk_Drum r_2)], []⟩) (by kernel_rfl) trivial ?_
  refine ExO.nil ?_
  refine Ex.seq ?_
  obtain ⟨r_3, hr_3, h⟩ := Option.bind_eq_some_iff.1 h
  refine Ex.reg ?_
  refine runH 1 [] [3, 20] [] (mkS 129 [(3, .ptr 0 0), (20, .ptr 0 0)]) (⟨[(C_bk_Drum r_2)], []⟩) (by kernel_rfl) trivial ?_
  refine ExO.callL [0] [.ptr 0 0, .int .i64 1, .int .i64 9] rfl rfl (by simp; try rfl) rfl (by simp) (d_bk_Drum_Mid N r_2 1 9 r_3 hr_3) (b_bk_Drum_Mid _ _ _ _) (by simp) ?_
  obtain ⟨r_4, hr_4, h⟩ := Option.bind_eq_some_iff.1 h
  refine runH 2 [] [3, 22, 23] [] (mkS 129 [(3, .ptr 0 0), (22, .sl (([r_3.1] : List Int).map (AV.int .i64)) (some 0)), (23, .ptr 0 0)]) (⟨[(C_bk_Drum r_3.2)], [(1, 1)]⟩) (by kernel_rfl) trivial ?_
  refine ExO.callL [0] [.ptr 0 0, .int .i64 1000000000] rfl rfl (by simp; try rfl) rfl (by simp) (d_bk_Drum_Roll N r_3.2 1000000000 r_4 hr_4) (b_bk_Drum_Roll _ _ _ _) (by simp) ?_
  refine runH 3 [] [3, 4, 5] [] (mkS 129 [(3, .ptr 0 0), (4, .sl (([r_3.1] : List Int).map (AV.int .i64)) (some 0)), (5, .sl (([r_4.1] : List Int).map (AV.int .i64)) (some 1))]) (⟨[(C_bk_Drum r_4.2)], [(1, 1), (1, 1)]⟩) (by kernel_rfl) trivial ?_
  refine ExO.nil ?_
  refine Ex.seq ?_
  refine Ex.seq ?_
  obtain ⟨r_5, hr_5, h⟩ := Option.bind_eq_some_iff.1 h
  refine Ex.reg ?_
  refine runH 1 [] [3, 4, 5, 26] [] (mkS 129 [(3, .ptr 0 0), (4, .sl (([r_3.1] : List Int).map (AV.int .i64)) (some 0)), (5, .sl (([r_4.1] : List Int).map (AV.int .i64)) (some 1)), (26, .ptr 0 0)]) (⟨[(C_bk_Drum r_4.2)], [(1, 1), (1, 1)]⟩) (by kernel_rfl) trivial ?_
  refine ExO.callL [0] [.ptr 0 0, .int .i64 5] rfl rfl (by simp; try rfl) rfl (by simp) (d_bk_Drum_Roll N r_4.2 5 r_5 hr_5) (b_bk_Drum_Roll _ _ _ _) (by simp) ?_
  refine runH 1 [] [3, 4, 5, 6] [] (mkS 129 [(3, .ptr 0 0), (4, .sl (([r_3.1] : List Int).map (AV.int .i64)) (some 0)), (5, .sl (([r_4.1] : List Int).map (AV.int .i64)) (some 1)), (6, .int .i64 r_5.1)]) (⟨[(C_bk_Drum r_5.2)], [(1, 1), (1, 1)]⟩) (by kernel_rfl) trivial ?_
  refine ExO.nil ?_
  obtain ⟨K_10, hK_11, h⟩ := letE h
  refine Ex.blockJ (fun a S => ∃ (tickets_6 : List Int), ∃ (secrets_7 : List Int), ∃ (b_8 : Int), K_10 tickets_6 secrets_7 b_8 = some r ∧ a = mkS 129 [(3, .ptr 0 0), (4, .sl (tickets_6.map (AV.int .i64)) (some 0)), (5, .sl (secrets_7.map (AV.int .i64)) (some 1))] ∧ S = ⟨[[.int .u64 b_8]], [(tickets_6.length, 1), (secrets_7.length, 1)]⟩) ?_ ?_
  · obtain ⟨B_17, hB_18, h⟩ := loop4I h
    refine Ex.loopF (fun k a S => ∃ (tickets_12 : List Int), ∃ (secrets_13 : List Int), ∃ (i_14 : Int), ∃ (b_15 : Int), loop4 B_17 k tickets_12 secrets_13 i_14 b_15 = some r ∧ a = mkS 129 [(3, .ptr 0 0), (4, .sl (tickets_12.map (AV.int .i64)) (some 0)), (5, .sl (secrets_13.map (AV.int .i64)) (some 1)), (6, .int .i64 i_14)] ∧ S = ⟨[[.int .u64 b_15]], [(tickets_12.length, 1), (secrets_13.length, 1)]⟩) N ⟨_, _, Forgets.refl _ _ _, [r_3.1], [r_4.1], r_5.1, r_5.2.beat_, h, rfl, rfl⟩ ?_
    rintro k a S ⟨tickets_12, secrets_13, i_14, b_15, h, rfl, rfl⟩
    cases k with
    | zero => exact (loop4Z h).elim
    | succ k =>
      replace h := loop4S h hB_18
      refine Ex.seq ?_
      refine Ex.seq ?_
      refine regH 2 [] [3, 4, 5, 6, 29] [] (mkS 129 [(3, .ptr 0 0), (4, .sl (tickets_12.map (AV.int .i64)) (some 0)), (5, .sl (secrets_13.map (AV.int .i64)) (some 1)), (6, .int .i64 i_14), (29, .bool (decide (i_14 > 0)))]) (⟨[[.int .u64 b_15]], [(tickets_12.length, 1), (secrets_13.length, 1)]⟩) (by kernel_rfl) trivial rfl ?_
      rcases condI h with ⟨hc_19, h⟩ | ⟨hc_19, h⟩
      · refine Ex.condT _ rfl hc_19 ?_
        refine Ex.skip ?_
        refine Ex.seq ?_
        refine Ex.blockK ?_
        obtain ⟨r_20, hr_20, h⟩ := Option.bind_eq_some_iff.1 h
        refine Ex.reg ?_
        refine runH 2 [] [3, 5, 6, 32, 33] [] (mkS 129 [(3, .ptr 0 0), (5, .sl (secrets_13.map (AV.int .i64)) (some 1)), (6, .int .i64 i_14), (32, .sl (tickets_12.map (AV.int .i64)) (some 0)), (33, .ptr 0 0)]) (⟨[[.int .u64 b_15]], [(tickets_12.length, 1), (secrets_13.length, 1)]⟩) (by kernel_rfl) trivial ?_
        refine ExO.callL [0] [.ptr 0 0, .int .i64 10] rfl rfl (by simp; try rfl) rfl (by simp) (d_bk_Drum_Roll N (⟨b_15⟩ : T_bk_Drum) 10 r_20 hr_20) (b_bk_Drum_Roll _ _ _ _) (by simp) ?_
        obtain ⟨l_21, hl_21, h⟩ := Option.bind_eq_some_iff.1 h
        obtain ⟨r_22, hr_22, h⟩ := Option.bind_eq_some_iff.1 h
        refine runH 4 [(1, .app (l_21.map (AV.int .i64)) l_21.length)] [3, 6, 36, 37, 38] [LApp tickets_12.length (tickets_12.map (AV.int .i64)) (([r_20.1] : List Int).map (AV.int .i64)) 1 (l_21.map (AV.int .i64)) l_21.length] (mkS 129 [(3, .ptr 0 0), (6, .int .i64 i_14), (36, .sl (l_21.map (AV.int .i64)) (some 0)), (37, .sl (secrets_13.map (AV.int .i64)) (some 1)), (38, .ptr 0 0)]) (⟨[(C_bk_Drum r_20.2)], [(l_21.length, 1), (secrets_13.length, 1), (1, 1)]⟩) (by kernel_rfl) ⟨LApp.of hl_21 (fun _ => rfl), trivial⟩ ?_
        refine ExO.callL [0] [.ptr 0 0, .int .i64 1000000000] rfl rfl (by simp; try rfl) rfl (by simp) (d_bk_Drum_Roll N r_20.2 1000000000 r_22 hr_22) (b_bk_Drum_Roll _ _ _ _) (by simp) ?_
        obtain ⟨l_23, hl_23, h⟩ := Option.bind_eq_some_iff.1 h
        refine runH 4 [(1, .app (l_23.map (AV.int .i64)) l_23.length)] [3, 4, 5, 6] [LApp secrets_13.length (secrets_13.map (AV.int .i64)) (([r_22.1] : List Int).map (AV.int .i64)) 1 (l_23.map (AV.int .i64)) l_23.length] (mkS 129 [(3, .ptr 0 0), (4, .sl (l_21.map (AV.int .i64)) (some 0)), (5, .sl (l_23.map (AV.int .i64)) (some 1)), (6, .int .i64 i_14)]) (⟨[(C_bk_Drum r_22.2)], [(l_21.length, 1), (l_23.length, 1), (1, 1), (1, 1)]⟩) (by kernel_rfl) ⟨LApp.of hl_23 (fun _ => rfl), trivial⟩ ?_
        refine ExO.nil ?_
        refine regH 3 [] [3, 4, 5, 6] [] (mkS 129 [(3, .ptr 0 0), (4, .sl (l_21.map (AV.int .i64)) (some 0)), (5, .sl (l_23.map (AV.int .i64)) (some 1)), (6, .int .i64 (IntKind.i64.wrap (i_14 - 1)))]) (⟨[(C_bk_Drum r_22.2)], [(l_21.length, 1), (l_23.length, 1), (1, 1), (1, 1)]⟩) (by kernel_rfl) trivial rfl ?_
        dsimp only
        exact ⟨_, _, forgetA (m := 129) 1 [0, 1] [(3, .ptr 0 0), (4, .sl (l_21.map (AV.int .i64)) (some 0)), (5, .sl (l_23.map (AV.int .i64)) (some 1)), (6, .int .i64 (IntKind.i64.wrap (i_14 - 1)))] [(C_bk_Drum r_22.2)] [(l_21.length, 1), (l_23.length, 1)] (by simp [setAll]) (by simp) ⟨rfl, (reT (cleanI _ _) rfl), (reT (cleanI _ _) rfl), rfl, trivial⟩ (by simp) rfl (by decide), k, Nat.lt_succ_self k, l_21, l_23, (IntKind.i64.wrap (i_14 - 1)), r_22.2.beat_, h, rfl, rfl⟩
      · refine Ex.condF _ rfl hc_19 ?_
        refine Ex.exit ?_
        (try simp only [reduceCtorEq, AEx.ex.injEq, Nat.reduceEqDiff, if_true, if_false])
        exact ⟨_, _, forgetK [3, 4, 5], tickets_12, secrets_13, b_15, h, rfl, rfl⟩
  · rintro a S ⟨tickets_6, secrets_7, b_8, h, rfl, rfl⟩
    subst hK_11
    refine Ex.seq ?_
    obtain ⟨r_24, hr_24, h⟩ := Option.bind_eq_some_iff.1 h
    refine Ex.reg ?_
    refine runH 1 [] [3, 4, 5, 42] [] (mkS 129 [(3, .ptr 0 0), (4, .sl (tickets_6.map (AV.int .i64)) (some 0)), (5, .sl (secrets_7.map (AV.int .i64)) (some 1)), (42, .sl (tickets_6.map (AV.int .i64)) (some 0))]) (⟨[[.int .u64 b_8]], [(tickets_6.length, 1), (secrets_7.length, 1)]⟩) (by kernel_rfl) trivial ?_
    refine ExO.callL [] [.sl (tickets_6.map (AV.int .i64)) (some 0)] rfl rfl (a_bk_Sum tickets_6) rfl rfl (d_bk_Sum N tickets_6 r_24 hr_24) (b_bk_Sum _ _ _ _) rfl ?_
    obtain ⟨r_25, hr_25, h⟩ := Option.bind_eq_some_iff.1 h
    refine runH 3 [(2, .eq (.int .i64 ((tickets_6.length : Nat) : Int)))] [3, 4, 5, 43, 44, 46] [AV.int .i64 (((tickets_6.map (AV.int .i64)).length : Nat) : Int) = AV.int .i64 ((tickets_6.length : Nat) : Int)] (mkS 129 [(3, .ptr 0 0), (4, .sl (tickets_6.map (AV.int .i64)) (some 0)), (5, .sl (secrets_7.map (AV.int .i64)) (some 1)), (43, .int .i64 r_24), (44, .ptr 0 0), (46, .int .i64 ((tickets_6.length : Nat) : Int))]) (⟨[[.int .u64 b_8]], [(tickets_6.length, 1), (secrets_7.length, 1)]⟩) (by kernel_rfl) ⟨lenM _ _, trivial⟩ ?_
    refine ExO.callL [0] [.ptr 0 0, .int .i64 ((tickets_6.length : Nat) : Int)] rfl rfl (by simp; try rfl) rfl (by simp) (d_bk_Drum_Roll N (⟨b_8⟩ : T_bk_Drum) ((tickets_6.length : Nat) : Int) r_25 hr_25) (b_bk_Drum_Roll _ _ _ _) (by simp) ?_
    refine runH 2 [] [3, 4, 5, 7, 8] [] (mkS 129 [(3, .ptr 0 0), (4, .sl (tickets_6.map (AV.int .i64)) (some 0)), (5, .sl (secrets_7.map (AV.int .i64)) (some 1)), (7, .int .i64 r_24), (8, .int .i64 r_25.1)]) (⟨[(C_bk_Drum r_25.2)], [(tickets_6.length, 1), (secrets_7.length, 1)]⟩) (by kernel_rfl) trivial ?_
    refine ExO.nil ?_
    refine Ex.seq ?_
    obtain ⟨r_26, hr_26, h⟩ := Option.bind_eq_some_iff.1 h
    refine Ex.reg ?_
    refine runH 3 [] [4, 5, 7, 8, 48, 50] [] (mkS 129 [(4, .sl (tickets_6.map (AV.int .i64)) (some 0)), (5, .sl (secrets_7.map (AV.int .i64)) (some 1)), (7, .int .i64 r_24), (8, .int .i64 r_25.1), (48, .ptr 0 0), (50, .int .i64 (IntKind.i64.wrap (1000000000 - r_24)))]) (⟨[(C_bk_Drum r_25.2)], [(tickets_6.length, 1), (secrets_7.length, 1)]⟩) (by kernel_rfl) trivial ?_
    refine ExO.callL [0] [.ptr 0 0, .int .i64 0, .int .i64 (IntKind.i64.wrap (1000000000 - r_24))] rfl rfl (by simp; try rfl) rfl (by simp) (d_bk_Drum_Mid N r_25.2 0 (IntKind.i64.wrap (1000000000 - r_24)) r_26 hr_26) (b_bk_Drum_Mid _ _ _ _) (by simp) ?_
    refine runH 1 [] [4, 5, 7, 8, 9] [] (mkS 129 [(4, .sl (tickets_6.map (AV.int .i64)) (some 0)), (5, .sl (secrets_7.map (AV.int .i64)) (some 1)), (7, .int .i64 r_24), (8, .int .i64 r_25.1), (9, .int .i64 r_26.1)]) (⟨[(C_bk_Drum r_26.2)], [(tickets_6.length, 1), (secrets_7.length, 1)]⟩) (by kernel_rfl) trivial ?_
    refine ExO.nil ?_
    refine Ex.seq ?_
    obtain ⟨k_27, hk_27, h⟩ := Option.bind_eq_some_iff.1 h
    refine regH 3 [(1, .mk (flat ((List.replicate k_27 0).map (AV.int .i64))) k_27)] [4, 5, 7, 8, 9, 10] [r_24 = ((k_27 : Nat) : Int) ∧ k_27 ≤ 65536 ∧ rep [.int .i64 0] k_27 = (flat ((List.replicate k_27 0).map (AV.int .i64)))] (mkS 129 [(4, .sl (tickets_6.map (AV.int .i64)) (some 0)), (5, .sl (secrets_7.map (AV.int .i64)) (some 1)), (7, .int .i64 r_24), (8, .int .i64 r_25.1), (9, .int .i64 r_26.1), (10, .ms 1 k_27 1)]) (⟨[(C_bk_Drum r_26.2), (flat ((List.replicate k_27 0).map (AV.int .i64)))], [(tickets_6.length, 1), (secrets_7.length, 1)]⟩) (by kernel_rfl) ⟨mk_of (f := (AV.int .i64)) 0 rfl hk_27, trivial⟩ rfl ?_
    refine Ex.seq ?_
    refine Ex.seq ?_
    refine regH 1 [] [4, 5, 7, 8, 9, 10, 11] [] (mkS 129 [(4, .sl (tickets_6.map (AV.int .i64)) (some 0)), (5, .sl (secrets_7.map (AV.int .i64)) (some 1)), (7, .int .i64 r_24), (8, .int .i64 r_25.1), (9, .int .i64 r_26.1), (10, .ms 1 k_27 1), (11, .int .i64 0)]) (⟨[(C_bk_Drum r_26.2), (flat ((List.replicate k_27 0).map (AV.int .i64)))], [(tickets_6.length, 1), (secrets_7.length, 1)]⟩) (by kernel_rfl) trivial rfl ?_
    obtain ⟨K_30, hK_31, h⟩ := letE h
    refine Ex.blockJ (fun a S => ∃ (w_28 : List Int), K_30 w_28 = some r ∧ a = mkS 129 [(7, .int .i64 r_24), (10, .ms 1 k_27 1)] ∧ S = ⟨[(C_bk_Drum r_26.2), (flat (w_28.map (AV.int .i64)))], []⟩) ?_ ?_
    · obtain ⟨B_35, hB_36, h⟩ := loop2I h
      refine Ex.loopF (fun k a S => ∃ (i_32 : Int), ∃ (w_33 : List Int), loop2 B_35 k i_32 w_33 = some r ∧ a = mkS 129 [(4, .sl (tickets_6.map (AV.int .i64)) (some 0)), (5, .sl (secrets_7.map (AV.int .i64)) (some 1)), (7, .int .i64 r_24), (8, .int .i64 r_25.1), (9, .int .i64 r_26.1), (10, .ms 1 k_27 1), (11, .int .i64 i_32)] ∧ S = ⟨[(C_bk_Drum r_26.2), (flat (w_33.map (AV.int .i64)))], [(tickets_6.length, 1), (secrets_7.length, 1)]⟩) N ⟨_, _, Forgets.refl _ _ _, 0, (List.replicate k_27 0), h, rfl, rfl⟩ ?_
      rintro k a S ⟨i_32, w_33, h, rfl, rfl⟩
      cases k with
      | zero => exact (loop2Z h).elim
      | succ k =>
        replace h := loop2S h hB_36
        refine Ex.seq ?_
        refine Ex.seq ?_
        refine regH 3 [] [4, 5, 7, 8, 9, 10, 11, 56] [] (mkS 129 [(4, .sl (tickets_6.map (AV.int .i64)) (some 0)), (5, .sl (secrets_7.map (AV.int .i64)) (some 1)), (7, .int .i64 r_24), (8, .int .i64 r_25.1), (9, .int .i64 r_26.1), (10, .ms 1 k_27 1), (11, .int .i64 i_32), (56, .bool (decide (i_32 < r_24)))]) (⟨[(C_bk_Drum r_26.2), (flat (w_33.map (AV.int .i64)))], [(tickets_6.length, 1), (secrets_7.length, 1)]⟩) (by kernel_rfl) trivial rfl ?_
        rcases condI h with ⟨hc_37, h⟩ | ⟨hc_37, h⟩
        · refine Ex.condT _ rfl hc_37 ?_
          refine Ex.skip ?_
          refine Ex.seq ?_
          refine Ex.blockK ?_
          refine Ex.seq ?_
          obtain ⟨r_38, hr_38, h⟩ := Option.bind_eq_some_iff.1 h
          refine Ex.reg ?_
          refine runH 1 [] [4, 5, 7, 8, 9, 10, 11, 59] [] (mkS 129 [(4, .sl (tickets_6.map (AV.int .i64)) (some 0)), (5, .sl (secrets_7.map (AV.int .i64)) (some 1)), (7, .int .i64 r_24), (8, .int .i64 r_25.1), (9, .int .i64 r_26.1), (10, .ms 1 k_27 1), (11, .int .i64 i_32), (59, .sl (secrets_7.map (AV.int .i64)) (some 1))]) (⟨[(C_bk_Drum r_26.2), (flat (w_33.map (AV.int .i64)))], [(tickets_6.length, 1), (secrets_7.length, 1)]⟩) (by kernel_rfl) trivial ?_
          refine ExO.callMs (t_bk_Ints N secrets_7 r_38 hr_38) (show 0 < 1 by decide) (map_cells (f := (AV.int .i64)) (s := 1) (fun _ => rfl) _) (flat_scal (f := (AV.int .i64)) (fun _ => rfl) _) [.sl (secrets_7.map (AV.int .i64)) (some 1)] rfl rfl rfl (by simp) ?_
          refine runH 1 [] [4, 5, 7, 8, 9, 10, 11, 12] [] (mkS 129 [(4, .sl (tickets_6.map (AV.int .i64)) (some 0)), (5, .sl (secrets_7.map (AV.int .i64)) (some 1)), (7, .int .i64 r_24), (8, .int .i64 r_25.1), (9, .int .i64 r_26.1), (10, .ms 1 k_27 1), (11, .int .i64 i_32), (12, .ms 2 r_38.length 1)]) (⟨[(C_bk_Drum r_26.2), (flat (w_33.map (AV.int .i64))), (flat (r_38.map (AV.int .i64)))], [(tickets_6.length, 1), (secrets_7.length, 1)]⟩) (by kernel_rfl) trivial ?_
          refine ExO.nil ?_
          refine Ex.seq ?_
          obtain ⟨u_39, hu_39, h⟩ := Option.bind_eq_some_iff.1 h
          obtain ⟨z_41, hz_41, h⟩ := Option.bind_eq_some_iff.1 h
          refine regH 7 [(5, .adm), (6, .st (flat (z_41.map (AV.int .i64))))] [4, 5, 7, 8, 9, 10, 11, 12] [0 ≤ r_25.1 ∧ r_25.1 < ((r_38.length : Nat) : Int), 0 + Int.toNat r_25.1 * 1 + 1 ≤ ((flat (r_38.map (AV.int .i64)))).length ∧ layAt (flat (r_38.map (AV.int .i64))) (0 + Int.toNat r_25.1 * 1) [.int .i64 (IntKind.i64.wrap (r_26.1 + i_32))] = (flat (z_41.map (AV.int .i64)))] (mkS 129 [(4, .sl (tickets_6.map (AV.int .i64)) (some 0)), (5, .sl (secrets_7.map (AV.int .i64)) (some 1)), (7, .int .i64 r_24), (8, .int .i64 r_25.1), (9, .int .i64 r_26.1), (10, .ms 1 k_27 1), (11, .int .i64 i_32), (12, .ms 2 r_38.length 1)]) (⟨[(C_bk_Drum r_26.2), (flat (w_33.map (AV.int .i64))), (flat (z_41.map (AV.int .i64)))], [(tickets_6.length, 1), (secrets_7.length, 1)]⟩) (by kernel_rfl) ⟨idxI.of hu_39, stFl (f := (AV.int .i64)) (s := 1) _ 0 1 r_25.1 (fun (y_40 : Int) => (IntKind.i64.wrap (r_26.1 + i_32))) _ (fun _ => rfl) hz_41 rfl (by decide) (by omega) (fun _ => rfl), trivial⟩ rfl ?_
          refine Ex.seq ?_
          obtain ⟨u_42, hu_42, h⟩ := Option.bind_eq_some_iff.1 h
          refine Ex.forget (chillK (f := (AV.int .i64)) 2 12 r_38.length 1 z_41 (.ms 2 r_38.length 1) (.sl (z_41.map (AV.int .i64)) none) hu_42 rfl (fun _ => rfl) rfl (by simp)) ?_
          refine Ex.castA (a2 := mkS 129 [(4, .sl (tickets_6.map (AV.int .i64)) (some 0)), (5, .sl (secrets_7.map (AV.int .i64)) (some 1)), (7, .int .i64 r_24), (8, .int .i64 r_25.1), (9, .int .i64 r_26.1), (10, .ms 1 k_27 1), (11, .int .i64 i_32), (12, .sl (z_41.map (AV.int .i64)) none)]) (S2 := ⟨[(C_bk_Drum r_26.2), (flat (w_33.map (AV.int .i64))), []], [(tickets_6.length, 1), (secrets_7.length, 1)]⟩) (by kernel_rfl) (by kernel_rfl) ?_
          obtain ⟨r_43, hr_43, h⟩ := Option.bind_eq_some_iff.1 h
          refine Ex.reg ?_
          refine runH 2 [] [4, 5, 7, 8, 9, 10, 11, 68, 69] [] (mkS 129 [(4, .sl (tickets_6.map (AV.int .i64)) (some 0)), (5, .sl (secrets_7.map (AV.int .i64)) (some 1)), (7, .int .i64 r_24), (8, .int .i64 r_25.1), (9, .int .i64 r_26.1), (10, .ms 1 k_27 1), (11, .int .i64 i_32), (68, .sl (tickets_6.map (AV.int .i64)) (some 0)), (69, .sl (z_41.map (AV.int .i64)) none)]) (⟨[(C_bk_Drum r_26.2), (flat (w_33.map (AV.int .i64))), []], [(tickets_6.length, 1), (secrets_7.length, 1)]⟩) (by kernel_rfl) trivial ?_
          refine ExO.callL [] [.sl (tickets_6.map (AV.int .i64)) (some 0), .sl (z_41.map (AV.int .i64)) none] rfl rfl (a_coin_Draw tickets_6 z_41) rfl rfl (d_coin_Draw N tickets_6 z_41 r_43 hr_43) (b_coin_Draw _ _ _ _) rfl ?_
          refine runH 7 [] [4, 5, 7, 8, 9, 10, 11, 13, 14, 15] [] (mkS 129 [(4, .sl (tickets_6.map (AV.int .i64)) (some 0)), (5, .sl (secrets_7.map (AV.int .i64)) (some 1)), (7, .int .i64 r_24), (8, .int .i64 r_25.1), (9, .int .i64 r_26.1), (10, .ms 1 k_27 1), (11, .int .i64 i_32), (13, .int .i64 r_43.1), (14, .int .i64 r_43.2.1), (15, .int .i64 r_43.2.2)]) (⟨[(C_bk_Drum r_26.2), (flat (w_33.map (AV.int .i64))), []], [(tickets_6.length, 1), (secrets_7.length, 1)]⟩) (by kernel_rfl) trivial ?_
          refine ExO.nil ?_
          refine Ex.seq ?_
          obtain ⟨K_46, hK_47, h⟩ := letE h
          refine Ex.seqJ (fun a S => ∃ (y_44 : Bool), K_46 y_44 = some r ∧ a = mkS 129 [(4, .sl (tickets_6.map (AV.int .i64)) (some 0)), (5, .sl (secrets_7.map (AV.int .i64)) (some 1)), (7, .int .i64 r_24), (8, .int .i64 r_25.1), (9, .int .i64 r_26.1), (10, .ms 1 k_27 1), (11, .int .i64 i_32), (13, .int .i64 r_43.1), (14, .int .i64 r_43.2.1), (94, .bool y_44)] ∧ S = ⟨[(C_bk_Drum r_26.2), (flat (w_33.map (AV.int .i64)))], [(tickets_6.length, 1), (secrets_7.length, 1)]⟩) ?_ ?_
          · rcases condI h with ⟨hc_48, h⟩ | ⟨hc_48, h⟩
            · refine regH 21 [(2, .eq (.bool true))] [4, 5, 7, 8, 9, 10, 11, 13, 14, 94] [AV.bool (r_43.2.2 != 0) = AV.bool true] (mkS 129 [(4, .sl (tickets_6.map (AV.int .i64)) (some 0)), (5, .sl (secrets_7.map (AV.int .i64)) (some 1)), (7, .int .i64 r_24), (8, .int .i64 r_25.1), (9, .int .i64 r_26.1), (10, .ms 1 k_27 1), (11, .int .i64 i_32), (13, .int .i64 r_43.1), (14, .int .i64 r_43.2.1), (94, .bool true)]) (⟨[(C_bk_Drum r_26.2), (flat (w_33.map (AV.int .i64))), []], [(tickets_6.length, 1), (secrets_7.length, 1)]⟩) (by kernel_rfl) ⟨congrArg AV.bool hc_48, trivial⟩ rfl ?_
              (try simp only [reduceCtorEq, AEx.ex.injEq, Nat.reduceEqDiff, if_true, if_false])
              exact ⟨_, _, forgetA (m := 129) 2 [0, 1] [(4, .sl (tickets_6.map (AV.int .i64)) (some 0)), (5, .sl (secrets_7.map (AV.int .i64)) (some 1)), (7, .int .i64 r_24), (8, .int .i64 r_25.1), (9, .int .i64 r_26.1), (10, .ms 1 k_27 1), (11, .int .i64 i_32), (13, .int .i64 r_43.1), (14, .int .i64 r_43.2.1), (94, .bool true)] [(C_bk_Drum r_26.2), (flat (w_33.map (AV.int .i64)))] [(tickets_6.length, 1), (secrets_7.length, 1)] (by simp [setAll]) (by simp) ⟨(reT (cleanI _ _) rfl), (reT (cleanI _ _) rfl), rfl, rfl, rfl, rfl, rfl, rfl, rfl, rfl, trivial⟩ (mapMC (show List.mapM (re 2 [0, 1]) (C_bk_Drum r_26.2) = some (C_bk_Drum r_26.2) by simp) (mapMC (flat_re (f := (AV.int .i64)) (fun _ => rfl) _ _ _) rfl)) rfl (by decide), true, h, rfl, rfl⟩
            · rcases condI h with ⟨hc_49, h⟩ | ⟨hc_49, h⟩
              · refine regH 21 [(2, .eq (.bool false)), (6, .eq (.bool true))] [4, 5, 7, 8, 9, 10, 11, 13, 14, 94] [AV.bool (r_43.2.2 != 0) = AV.bool false, AV.bool (decide (r_43.1 < 0)) = AV.bool true] (mkS 129 [(4, .sl (tickets_6.map (AV.int .i64)) (some 0)), (5, .sl (secrets_7.map (AV.int .i64)) (some 1)), (7, .int .i64 r_24), (8, .int .i64 r_25.1), (9, .int .i64 r_26.1), (10, .ms 1 k_27 1), (11, .int .i64 i_32), (13, .int .i64 r_43.1), (14, .int .i64 r_43.2.1), (94, .bool true)]) (⟨[(C_bk_Drum r_26.2), (flat (w_33.map (AV.int .i64))), []], [(tickets_6.length, 1), (secrets_7.length, 1)]⟩) (by kernel_rfl) ⟨congrArg AV.bool hc_48, congrArg AV.bool hc_49, trivial⟩ rfl ?_
                (try simp only [reduceCtorEq, AEx.ex.injEq, Nat.reduceEqDiff, if_true, if_false])
                exact ⟨_, _, forgetA (m := 129) 2 [0, 1] [(4, .sl (tickets_6.map (AV.int .i64)) (some 0)), (5, .sl (secrets_7.map (AV.int .i64)) (some 1)), (7, .int .i64 r_24), (8, .int .i64 r_25.1), (9, .int .i64 r_26.1), (10, .ms 1 k_27 1), (11, .int .i64 i_32), (13, .int .i64 r_43.1), (14, .int .i64 r_43.2.1), (94, .bool true)] [(C_bk_Drum r_26.2), (flat (w_33.map (AV.int .i64)))] [(tickets_6.length, 1), (secrets_7.length, 1)] (by simp [setAll]) (by simp) ⟨(reT (cleanI _ _) rfl), (reT (cleanI _ _) rfl), rfl, rfl, rfl, rfl, rfl, rfl, rfl, rfl, trivial⟩ (mapMC (show List.mapM (re 2 [0, 1]) (C_bk_Drum r_26.2) = some (C_bk_Drum r_26.2) by simp) (mapMC (flat_re (f := (AV.int .i64)) (fun _ => rfl) _ _ _) rfl)) rfl (by decide), true, h, rfl, rfl⟩
              · rcases condI h with ⟨hc_50, h⟩ | ⟨hc_50, h⟩
                · refine regH 21 [(2, .eq (.bool false)), (6, .eq (.bool false)), (11, .eq (.bool true))] [4, 5, 7, 8, 9, 10, 11, 13, 14, 94] [AV.bool (r_43.2.2 != 0) = AV.bool false, AV.bool (decide (r_43.1 < 0)) = AV.bool false, AV.bool (decide (r_43.1 ≥ r_24)) = AV.bool true] (mkS 129 [(4, .sl (tickets_6.map (AV.int .i64)) (some 0)), (5, .sl (secrets_7.map (AV.int .i64)) (some 1)), (7, .int .i64 r_24), (8, .int .i64 r_25.1), (9, .int .i64 r_26.1), (10, .ms 1 k_27 1), (11, .int .i64 i_32), (13, .int .i64 r_43.1), (14, .int .i64 r_43.2.1), (94, .bool true)]) (⟨[(C_bk_Drum r_26.2), (flat (w_33.map (AV.int .i64))), []], [(tickets_6.length, 1), (secrets_7.length, 1)]⟩) (by kernel_rfl) ⟨congrArg AV.bool hc_48, congrArg AV.bool hc_49, congrArg AV.bool hc_50, trivial⟩ rfl ?_
                  (try simp only [reduceCtorEq, AEx.ex.injEq, Nat.reduceEqDiff, if_true, if_false])
                  exact ⟨_, _, forgetA (m := 129) 2 [0, 1] [(4, .sl (tickets_6.map (AV.int .i64)) (some 0)), (5, .sl (secrets_7.map (AV.int .i64)) (some 1)), (7, .int .i64 r_24), (8, .int .i64 r_25.1), (9, .int .i64 r_26.1), (10, .ms 1 k_27 1), (11, .int .i64 i_32), (13, .int .i64 r_43.1), (14, .int .i64 r_43.2.1), (94, .bool true)] [(C_bk_Drum r_26.2), (flat (w_33.map (AV.int .i64)))] [(tickets_6.length, 1), (secrets_7.length, 1)] (by simp [setAll]) (by simp) ⟨(reT (cleanI _ _) rfl), (reT (cleanI _ _) rfl), rfl, rfl, rfl, rfl, rfl, rfl, rfl, rfl, trivial⟩ (mapMC (show List.mapM (re 2 [0, 1]) (C_bk_Drum r_26.2) = some (C_bk_Drum r_26.2) by simp) (mapMC (flat_re (f := (AV.int .i64)) (fun _ => rfl) _ _ _) rfl)) rfl (by decide), true, h, rfl, rfl⟩
                · rcases condI h with ⟨hc_51, h⟩ | ⟨hc_51, h⟩
                  · refine regH 21 [(2, .eq (.bool false)), (6, .eq (.bool false)), (11, .eq (.bool false)), (15, .eq (.bool true))] [4, 5, 7, 8, 9, 10, 11, 13, 14, 94] [AV.bool (r_43.2.2 != 0) = AV.bool false, AV.bool (decide (r_43.1 < 0)) = AV.bool false, AV.bool (decide (r_43.1 ≥ r_24)) = AV.bool false, AV.bool (decide (r_43.2.1 < 0)) = AV.bool true] (mkS 129 [(4, .sl (tickets_6.map (AV.int .i64)) (some 0)), (5, .sl (secrets_7.map (AV.int .i64)) (some 1)), (7, .int .i64 r_24), (8, .int .i64 r_25.1), (9, .int .i64 r_26.1), (10, .ms 1 k_27 1), (11, .int .i64 i_32), (13, .int .i64 r_43.1), (14, .int .i64 r_43.2.1), (94, .bool true)]) (⟨[(C_bk_Drum r_26.2), (flat (w_33.map (AV.int .i64))), []], [(tickets_6.length, 1), (secrets_7.length, 1)]⟩) (by kernel_rfl) ⟨congrArg AV.bool hc_48, congrArg AV.bool hc_49, congrArg AV.bool hc_50, congrArg AV.bool hc_51, trivial⟩ rfl ?_
                    (try simp only [reduceCtorEq, AEx.ex.injEq, Nat.reduceEqDiff, if_true, if_false])
                    exact ⟨_, _, forgetA (m := 129) 2 [0, 1] [(4, .sl (tickets_6.map (AV.int .i64)) (some 0)), (5, .sl (secrets_7.map (AV.int .i64)) (some 1)), (7, .int .i64 r_24), (8, .int .i64 r_25.1), (9, .int .i64 r_26.1), (10, .ms 1 k_27 1), (11, .int .i64 i_32), (13, .int .i64 r_43.1), (14, .int .i64 r_43.2.1), (94, .bool true)] [(C_bk_Drum r_26.2), (flat (w_33.map (AV.int .i64)))] [(tickets_6.length, 1), (secrets_7.length, 1)] (by simp [setAll]) (by simp) ⟨(reT (cleanI _ _) rfl), (reT (cleanI _ _) rfl), rfl, rfl, rfl, rfl, rfl, rfl, rfl, rfl, trivial⟩ (mapMC (show List.mapM (re 2 [0, 1]) (C_bk_Drum r_26.2) = some (C_bk_Drum r_26.2) by simp) (mapMC (flat_re (f := (AV.int .i64)) (fun _ => rfl) _ _ _) rfl)) rfl (by decide), true, h, rfl, rfl⟩
                  · refine regH 21 [(2, .eq (.bool false)), (6, .eq (.bool false)), (11, .eq (.bool false)), (15, .eq (.bool false)), (18, .eq (.int .i64 ((tickets_6.length : Nat) : Int)))] [4, 5, 7, 8, 9, 10, 11, 13, 14, 94] [AV.bool (r_43.2.2 != 0) = AV.bool false, AV.bool (decide (r_43.1 < 0)) = AV.bool false, AV.bool (decide (r_43.1 ≥ r_24)) = AV.bool false, AV.bool (decide (r_43.2.1 < 0)) = AV.bool false, AV.int .i64 (((tickets_6.map (AV.int .i64)).length : Nat) : Int) = AV.int .i64 ((tickets_6.length : Nat) : Int)] (mkS 129 [(4, .sl (tickets_6.map (AV.int .i64)) (some 0)), (5, .sl (secrets_7.map (AV.int .i64)) (some 1)), (7, .int .i64 r_24), (8, .int .i64 r_25.1), (9, .int .i64 r_26.1), (10, .ms 1 k_27 1), (11, .int .i64 i_32), (13, .int .i64 r_43.1), (14, .int .i64 r_43.2.1), (94, .bool (decide (r_43.2.1 ≥ ((tickets_6.length : Nat) : Int))))]) (⟨[(C_bk_Drum r_26.2), (flat (w_33.map (AV.int .i64))), []], [(tickets_6.length, 1), (secrets_7.length, 1)]⟩) (by kernel_rfl) ⟨congrArg AV.bool hc_48, congrArg AV.bool hc_49, congrArg AV.bool hc_50, congrArg AV.bool hc_51, lenM _ _, trivial⟩ rfl ?_
                    (try simp only [reduceCtorEq, AEx.ex.injEq, Nat.reduceEqDiff, if_true, if_false])
                    exact ⟨_, _, forgetA (m := 129) 2 [0, 1] [(4, .sl (tickets_6.map (AV.int .i64)) (some 0)), (5, .sl (secrets_7.map (AV.int .i64)) (some 1)), (7, .int .i64 r_24), (8, .int .i64 r_25.1), (9, .int .i64 r_26.1), (10, .ms 1 k_27 1), (11, .int .i64 i_32), (13, .int .i64 r_43.1), (14, .int .i64 r_43.2.1), (94, .bool (decide (r_43.2.1 ≥ ((tickets_6.length : Nat) : Int))))] [(C_bk_Drum r_26.2), (flat (w_33.map (AV.int .i64)))] [(tickets_6.length, 1), (secrets_7.length, 1)] (by simp [setAll]) (by simp) ⟨(reT (cleanI _ _) rfl), (reT (cleanI _ _) rfl), rfl, rfl, rfl, rfl, rfl, rfl, rfl, rfl, trivial⟩ (mapMC (show List.mapM (re 2 [0, 1]) (C_bk_Drum r_26.2) = some (C_bk_Drum r_26.2) by simp) (mapMC (flat_re (f := (AV.int .i64)) (fun _ => rfl) _ _ _) rfl)) rfl (by decide), (decide (r_43.2.1 ≥ ((tickets_6.length : Nat) : Int))), h, rfl, rfl⟩
          · rintro a S ⟨y_44, h, rfl, rfl⟩
            subst hK_47
            rcases condI h with ⟨hc_52, h⟩ | ⟨hc_52, h⟩
            · refine Ex.condT _ rfl hc_52 ?_
              refine Ex.seq ?_
              refine regH 1 [] [2] [] (mkS 129 [(2, .bool false)]) (⟨[(C_bk_Drum r_26.2), (flat (w_33.map (AV.int .i64)))], [(tickets_6.length, 1), (secrets_7.length, 1)]⟩) (by kernel_rfl) trivial rfl ?_
              refine Ex.ret ?_
              obtain rfl := Option.some.inj h
              exact ⟨.inr rfl, .bool false, by kernel_rfl, by kernel_rfl, by kernel_rfl, by kernel_rfl⟩
            · refine Ex.condF _ rfl hc_52 ?_
              refine Ex.skip ?_
              refine Ex.seq ?_
              obtain ⟨u_53, hu_53, h⟩ := Option.bind_eq_some_iff.1 h
              obtain ⟨x_54, hx_54, h⟩ := Option.bind_eq_some_iff.1 h
              obtain ⟨u_55, hu_55, h⟩ := Option.bind_eq_some_iff.1 h
              obtain ⟨z_57, hz_57, h⟩ := Option.bind_eq_some_iff.1 h
              refine regH 7 [(2, .adm), (3, .ld (.int .i64 x_54)), (5, .adm), (6, .st (flat (z_57.map (AV.int .i64))))] [4, 5, 7, 8, 9, 10, 11, 13, 14] [0 ≤ r_43.1 ∧ r_43.1 < ((k_27 : Nat) : Int), takeCells (flat (w_33.map (AV.int .i64))) (0 + Int.toNat r_43.1 * 1) none = some (.int .i64 x_54), 0 ≤ r_43.1 ∧ r_43.1 < ((k_27 : Nat) : Int), 0 + Int.toNat r_43.1 * 1 + 1 ≤ ((flat (w_33.map (AV.int .i64)))).length ∧ layAt (flat (w_33.map (AV.int .i64))) (0 + Int.toNat r_43.1 * 1) [.int .i64 (IntKind.i64.wrap (x_54 + 1))] = (flat (z_57.map (AV.int .i64)))] (mkS 129 [(4, .sl (tickets_6.map (AV.int .i64)) (some 0)), (5, .sl (secrets_7.map (AV.int .i64)) (some 1)), (7, .int .i64 r_24), (8, .int .i64 r_25.1), (9, .int .i64 r_26.1), (10, .ms 1 k_27 1), (11, .int .i64 i_32), (13, .int .i64 r_43.1), (14, .int .i64 r_43.2.1)]) (⟨[(C_bk_Drum r_26.2), (flat (z_57.map (AV.int .i64)))], [(tickets_6.length, 1), (secrets_7.length, 1)]⟩) (by kernel_rfl) ⟨idxI.of hu_53, ldFl (f := (AV.int .i64)) (s := 1) w_33 _ 0 r_43.1 x_54 (.int .i64 x_54) (fun _ => rfl) hx_54 rfl (by omega), idxI.of hu_55, stFl (f := (AV.int .i64)) (s := 1) _ 0 1 r_43.1 (fun (y_56 : Int) => (IntKind.i64.wrap (x_54 + 1))) _ (fun _ => rfl) hz_57 rfl (by decide) (by omega) (fun _ => rfl), trivial⟩ rfl ?_
              refine Ex.seq ?_
              obtain ⟨l_58, hl_58, h⟩ := Option.bind_eq_some_iff.1 h
              obtain ⟨r_59, hr_59, h⟩ := Option.bind_eq_some_iff.1 h
              refine Ex.reg ?_
              refine runH 3 [(2, .sc (l_58.map (AV.int .i64)))] [4, 5, 7, 8, 9, 10, 11, 13, 14, 103] [LSlc (tickets_6.map (AV.int .i64)) none (some r_43.2.1) 1 (l_58.map (AV.int .i64))] (mkS 129 [(4, .sl (tickets_6.map (AV.int .i64)) (some 0)), (5, .sl (secrets_7.map (AV.int .i64)) (some 1)), (7, .int .i64 r_24), (8, .int .i64 r_25.1), (9, .int .i64 r_26.1), (10, .ms 1 k_27 1), (11, .int .i64 i_32), (13, .int .i64 r_43.1), (14, .int .i64 r_43.2.1), (103, .sl (l_58.map (AV.int .i64)) none)]) (⟨[(C_bk_Drum r_26.2), (flat (z_57.map (AV.int .i64)))], [(tickets_6.length, 1), (secrets_7.length, 1)]⟩) (by kernel_rfl) ⟨partI.ofR (f := (AV.int .i64)) (fun _ => rfl) hl_58, trivial⟩ ?_
              refine ExO.callL [] [.sl (l_58.map (AV.int .i64)) none] rfl rfl (a_bk_Sum l_58) rfl rfl (d_bk_Sum N l_58 r_59 hr_59) (b_bk_Sum _ _ _ _) rfl ?_
              refine runH 1 [] [4, 5, 7, 8, 9, 10, 11, 13, 14, 16] [] (mkS 129 [(4, .sl (tickets_6.map (AV.int .i64)) (some 0)), (5, .sl (secrets_7.map (AV.int .i64)) (some 1)), (7, .int .i64 r_24), (8, .int .i64 r_25.1), (9, .int .i64 r_26.1), (10, .ms 1 k_27 1), (11, .int .i64 i_32), (13, .int .i64 r_43.1), (14, .int .i64 r_43.2.1), (16, .int .i64 r_59)]) (⟨[(C_bk_Drum r_26.2), (flat (z_57.map (AV.int .i64)))], [(tickets_6.length, 1), (secrets_7.length, 1)]⟩) (by kernel_rfl) trivial ?_
              refine ExO.nil ?_
              obtain ⟨K_62, hK_63, h⟩ := letE h
              refine Ex.seqJ (fun a S => ∃ (y_60 : Bool), K_62 y_60 = some r ∧ a = mkS 129 [(4, .sl (tickets_6.map (AV.int .i64)) (some 0)), (5, .sl (secrets_7.map (AV.int .i64)) (some 1)), (7, .int .i64 r_24), (8, .int .i64 r_25.1), (9, .int .i64 r_26.1), (10, .ms 1 k_27 1), (11, .int .i64 i_32), (117, .bool y_60)] ∧ S = ⟨[(C_bk_Drum r_26.2), (flat (z_57.map (AV.int .i64)))], [(tickets_6.length, 1), (secrets_7.length, 1)]⟩) ?_ ?_
              · rcases condI h with ⟨hc_64, h⟩ | ⟨hc_64, h⟩
                · refine regH 13 [(3, .eq (.bool true))] [4, 5, 7, 8, 9, 10, 11, 117] [AV.bool (decide (r_43.1 < r_59)) = AV.bool true] (mkS 129 [(4, .sl (tickets_6.map (AV.int .i64)) (some 0)), (5, .sl (secrets_7.map (AV.int .i64)) (some 1)), (7, .int .i64 r_24), (8, .int .i64 r_25.1), (9, .int .i64 r_26.1), (10, .ms 1 k_27 1), (11, .int .i64 i_32), (117, .bool true)]) (⟨[(C_bk_Drum r_26.2), (flat (z_57.map (AV.int .i64)))], [(tickets_6.length, 1), (secrets_7.length, 1)]⟩) (by kernel_rfl) ⟨congrArg AV.bool hc_64, trivial⟩ rfl ?_
                  (try simp only [reduceCtorEq, AEx.ex.injEq, Nat.reduceEqDiff, if_true, if_false])
                  exact ⟨_, _, Forgets.refl _ _ _, true, h, rfl, rfl⟩
                · obtain ⟨x_65, hx_65, h⟩ := Option.bind_eq_some_iff.1 h
                  refine regH 13 [(3, .eq (.bool false)), (8, .rop [.int .i64 x_65])] [4, 5, 7, 8, 9, 10, 11, 117] [AV.bool (decide (r_43.1 < r_59)) = AV.bool false, LGet (tickets_6.map (AV.int .i64)) r_43.2.1 1 [.int .i64 x_65]] (mkS 129 [(4, .sl (tickets_6.map (AV.int .i64)) (some 0)), (5, .sl (secrets_7.map (AV.int .i64)) (some 1)), (7, .int .i64 r_24), (8, .int .i64 r_25.1), (9, .int .i64 r_26.1), (10, .ms 1 k_27 1), (11, .int .i64 i_32), (117, .bool (decide (r_43.1 ≥ (IntKind.i64.wrap (r_59 + x_65)))))]) (⟨[(C_bk_Drum r_26.2), (flat (z_57.map (AV.int .i64)))], [(tickets_6.length, 1), (secrets_7.length, 1)]⟩) (by kernel_rfl) ⟨congrArg AV.bool hc_64, LGet.of hx_65 rfl, trivial⟩ rfl ?_
                  (try simp only [reduceCtorEq, AEx.ex.injEq, Nat.reduceEqDiff, if_true, if_false])
                  exact ⟨_, _, Forgets.refl _ _ _, (decide (r_43.1 ≥ (IntKind.i64.wrap (r_59 + x_65)))), h, rfl, rfl⟩
              · rintro a S ⟨y_60, h, rfl, rfl⟩
                subst hK_63
                rcases condI h with ⟨hc_66, h⟩ | ⟨hc_66, h⟩
                · refine Ex.condT _ rfl hc_66 ?_
                  refine Ex.seq ?_
                  refine regH 1 [] [2] [] (mkS 129 [(2, .bool false)]) (⟨[(C_bk_Drum r_26.2), (flat (z_57.map (AV.int .i64)))], [(tickets_6.length, 1), (secrets_7.length, 1)]⟩) (by kernel_rfl) trivial rfl ?_
                  refine Ex.ret ?_
                  obtain rfl := Option.some.inj h
                  exact ⟨.inr rfl, .bool false, by kernel_rfl, by kernel_rfl, by kernel_rfl, by kernel_rfl⟩
                · refine Ex.condF _ rfl hc_66 ?_
                  refine Ex.skip ?_
                  refine regH 3 [] [4, 5, 7, 8, 9, 10, 11] [] (mkS 129 [(4, .sl (tickets_6.map (AV.int .i64)) (some 0)), (5, .sl (secrets_7.map (AV.int .i64)) (some 1)), (7, .int .i64 r_24), (8, .int .i64 r_25.1), (9, .int .i64 r_26.1), (10, .ms 1 k_27 1), (11, .int .i64 (IntKind.i64.wrap (i_32 + 1)))]) (⟨[(C_bk_Drum r_26.2), (flat (z_57.map (AV.int .i64)))], [(tickets_6.length, 1), (secrets_7.length, 1)]⟩) (by kernel_rfl) trivial rfl ?_
                  dsimp only
                  exact ⟨_, _, Forgets.refl _ _ _, k, Nat.lt_succ_self k, (IntKind.i64.wrap (i_32 + 1)), z_57, h, rfl, rfl⟩
        · refine Ex.condF _ rfl hc_37 ?_
          refine Ex.exit ?_
          (try simp only [reduceCtorEq, AEx.ex.injEq, Nat.reduceEqDiff, if_true, if_false])
          exact ⟨_, _, forgetA (m := 129) 2 [] [(7, .int .i64 r_24), (10, .ms 1 k_27 1)] [(C_bk_Drum r_26.2), (flat (w_33.map (AV.int .i64)))] [] (by simp [setAll]) (by simp) ⟨rfl, rfl, trivial⟩ (mapMC (show List.mapM (re 2 []) (C_bk_Drum r_26.2) = some (C_bk_Drum r_26.2) by simp) (mapMC (flat_re (f := (AV.int .i64)) (fun _ => rfl) _ _ _) rfl)) rfl (by decide), w_33, h, rfl, rfl⟩
    · rintro a S ⟨w_28, h, rfl, rfl⟩
      subst hK_31
      refine Ex.seq ?_
      refine Ex.seq ?_
      refine regH 1 [] [7, 10, 17] [] (mkS 129 [(7, .int .i64 r_24), (10, .ms 1 k_27 1), (17, .int .i64 0)]) (⟨[(C_bk_Drum r_26.2), (flat (w_28.map (AV.int .i64)))], []⟩) (by kernel_rfl) trivial rfl ?_
      obtain ⟨K_68, hK_69, h⟩ := letE h
      refine Ex.blockJ (fun a S => K_68 () = some r ∧ a = mkS 129 [] ∧ S = ⟨[], []⟩) ?_ ?_
      · obtain ⟨B_72, hB_73, h⟩ := loop1I h
        refine Ex.loopF (fun k a S => ∃ (i_70 : Int), loop1 B_72 k i_70 = some r ∧ a = mkS 129 [(7, .int .i64 r_24), (10, .ms 1 k_27 1), (17, .int .i64 i_70)] ∧ S = ⟨[(C_bk_Drum r_26.2), (flat (w_28.map (AV.int .i64)))], []⟩) N ⟨_, _, Forgets.refl _ _ _, 0, h, rfl, rfl⟩ ?_
        rintro k a S ⟨i_70, h, rfl, rfl⟩
        cases k with
        | zero => exact (loop1Z h).elim
        | succ k =>
          replace h := loop1S h hB_73
          refine Ex.seq ?_
          refine Ex.seq ?_
          refine regH 3 [] [7, 10, 17, 120] [] (mkS 129 [(7, .int .i64 r_24), (10, .ms 1 k_27 1), (17, .int .i64 i_70), (120, .bool (decide (i_70 < r_24)))]) (⟨[(C_bk_Drum r_26.2), (flat (w_28.map (AV.int .i64)))], []⟩) (by kernel_rfl) trivial rfl ?_
          rcases condI h with ⟨hc_74, h⟩ | ⟨hc_74, h⟩
          · refine Ex.condT _ rfl hc_74 ?_
            refine Ex.skip ?_
            refine Ex.seq ?_
            refine Ex.blockK ?_
            refine Ex.seq ?_
            obtain ⟨u_75, hu_75, h⟩ := Option.bind_eq_some_iff.1 h
            obtain ⟨x_76, hx_76, h⟩ := Option.bind_eq_some_iff.1 h
            refine regH 5 [(2, .adm), (3, .ld (.int .i64 x_76))] [7, 10, 17, 127] [0 ≤ i_70 ∧ i_70 < ((k_27 : Nat) : Int), takeCells (flat (w_28.map (AV.int .i64))) (0 + Int.toNat i_70 * 1) none = some (.int .i64 x_76)] (mkS 129 [(7, .int .i64 r_24), (10, .ms 1 k_27 1), (17, .int .i64 i_70), (127, .bool (x_76 != 1))]) (⟨[(C_bk_Drum r_26.2), (flat (w_28.map (AV.int .i64)))], []⟩) (by kernel_rfl) ⟨idxI.of hu_75, ldFl (f := (AV.int .i64)) (s := 1) w_28 _ 0 i_70 x_76 (.int .i64 x_76) (fun _ => rfl) hx_76 rfl (by omega), trivial⟩ rfl ?_
            rcases condI h with ⟨hc_77, h⟩ | ⟨hc_77, h⟩
            · refine Ex.condT _ rfl hc_77 ?_
              refine Ex.seq ?_
              refine regH 1 [] [2] [] (mkS 129 [(2, .bool false)]) (⟨[(C_bk_Drum r_26.2), (flat (w_28.map (AV.int .i64)))], []⟩) (by kernel_rfl) trivial rfl ?_
              refine Ex.ret ?_
              obtain rfl := Option.some.inj h
              exact ⟨.inr rfl, .bool false, by kernel_rfl, by kernel_rfl, by kernel_rfl, by kernel_rfl⟩
            · refine Ex.condF _ rfl hc_77 ?_
              refine Ex.skip ?_
              refine regH 3 [] [7, 10, 17] [] (mkS 129 [(7, .int .i64 r_24), (10, .ms 1 k_27 1), (17, .int .i64 (IntKind.i64.wrap (i_70 + 1)))]) (⟨[(C_bk_Drum r_26.2), (flat (w_28.map (AV.int .i64)))], []⟩) (by kernel_rfl) trivial rfl ?_
              dsimp only
              exact ⟨_, _, Forgets.refl _ _ _, k, Nat.lt_succ_self k, (IntKind.i64.wrap (i_70 + 1)), h, rfl, rfl⟩
          · refine Ex.condF _ rfl hc_74 ?_
            refine Ex.exit ?_
            (try simp only [reduceCtorEq, AEx.ex.injEq, Nat.reduceEqDiff, if_true, if_false])
            exact ⟨_, _, forgetA (m := 129) 0 [] [] [] [] (by simp [setAll]) (by simp) trivial (by simp) rfl (by decide), h, rfl, rfl⟩
      · rintro a S ⟨h, rfl, rfl⟩
        subst hK_69
        refine Ex.seq ?_
        obtain ⟨r_78, hr_78, h⟩ := Option.bind_eq_some_iff.1 h
        refine Ex.reg ?_
        refine ExO.callL [] [] rfl rfl (a_bl9_awake) rfl rfl (d_bl9_awake N r_78 hr_78) (b_bl9_awake _ _ _ _) rfl ?_
        refine runH 1 [] [2] [] (mkS 129 [(2, .bool r_78)]) (⟨[], []⟩) (by kernel_rfl) trivial ?_
        refine ExO.nil ?_
        refine Ex.ret ?_
        obtain rfl := Option.some.inj h
        exact ⟨.inr rfl, .bool r_78, by kernel_rfl, by kernel_rfl, by kernel_rfl, by kernel_rfl⟩
end Go.Proofs.Ytkpihepaaiofgaa
end
section
namespace Go.Proofs.Ytkpihepaaiofgaa
open Go.RowKit
set_option linter.unusedVariables false
set_option linter.unusedSimpArgs false
set_option maxRecDepth 10000
set_option maxHeartbeats 4000000

theorem ksum_p (N : Nat) (l : List Int) (hN : l.length < N) (h2 : l.length < 4611686018427387904) : p_bk_Sum N l = some (wsum l l.length) := by
  unfold p_bk_Sum
  simp only [letJ_eq]
  first
  | (rw [sumL' l (fun b => some b) hN (fun rec b => by simp only [ltE, cond_false]) (fun rec i x b hx => by
      have hi := (List.getElem?_eq_some_iff.1 hx).1
      simp only [ltD hi, cond_true, getD_at hx, Option.bind_some, nadd1 i (by omega)])])
  | (rw [sumL l (fun b => some b) hN (fun rec b => by simp only [ltE, cond_false]) (fun rec i x b hx => by
      have hi := (List.getElem?_eq_some_iff.1 hx).1
      simp only [ltD hi, cond_true, getD_at hx, Option.bind_some, nadd1 i (by omega)])])
theorem pre_all (l : List Int) : pre l l.length = l.sum := by simp [pre]
theorem sum_set : ∀ (l : List Int) (w : Nat) (x v : Int), l[w]? = some x → (l.set w v).sum = l.sum - x + v
  | [], w, x, v, h => by simp at h
  | a :: l, 0, x, v, h => by
    simp at h; subst h
    simp; omega
  | a :: l, w + 1, x, v, h => by
    have := sum_set l w x v (by simpa using h)
    simp [this]; omega
def won (τ : Nat) (C : Int) (i : Nat) : List Int := (List.range τ).map fun (j : Nat) => if ((j : Int) - C) % (τ : Int) < (i : Int) then 1 else 0
theorem won_len (τ : Nat) (C : Int) (i : Nat) : (won τ C i).length = τ := by simp [won]
theorem won_at (τ : Nat) (C : Int) (i j : Nat) (h : j < τ) : (won τ C i)[j]? = some (if ((j : Int) - C) % (τ : Int) < (i : Int) then 1 else 0) := by
  simp [won, List.getElem?_map, List.getElem?_range h]
theorem won_zero (τ : Nat) (C : Int) : List.replicate τ 0 = won τ C 0 := by
  apply List.ext_getElem?
  intro j
  by_cases h : j < τ
  · rw [won_at τ C 0 j h, List.getElem?_replicate, if_pos h, if_neg]
    have := Int.emod_nonneg ((j : Int) - C) (show (τ : Int) ≠ 0 by omega)
    omega
  · rw [List.getElem?_eq_none (by simp; omega), List.getElem?_eq_none (by rw [won_len]; omega)]
theorem won_end (τ : Nat) (C : Int) (j : Nat) (h : j < τ) : (won τ C τ)[j]? = some 1 := by
  rw [won_at τ C τ j h, if_pos (Int.emod_lt_of_pos _ (by omega))]
theorem won_new (τ : Nat) (C : Int) (i n : Nat) (hi : i < τ) (hn : (n : Int) = (C + (i : Int)) % (τ : Int)) : (won τ C i)[n]? = some 0 ∧ (won τ C i).set n 1 = won τ C (i + 1) := by
  have hp : (0 : Int) < (τ : Int) := by omega
  have hnt : n < τ := by
    have := Int.emod_lt_of_pos (C + (i : Int)) hp
    omega
  have key : ((n : Int) - C) % (τ : Int) = (i : Int) := by
    rw [hn, Int.emod_sub_emod, show C + (i : Int) - C = (i : Int) by omega]
    exact Int.emod_eq_of_lt (by omega) (by omega)
  refine ⟨by rw [won_at τ C i n hnt, key, if_neg (by omega)], ?_⟩
  apply List.ext_getElem?
  intro j
  by_cases h : j < τ
  · rw [List.getElem?_set, won_at τ C (i + 1) j h]
    by_cases hj : n = j
    · subst hj
      rw [if_pos rfl, if_pos (by rw [won_len]; exact hnt), key, if_pos (by omega)]
    · rw [if_neg hj, won_at τ C i j h]
      have : ((j : Int) - C) % (τ : Int) ≠ (i : Int) := fun he => by
        apply hj
        have h1 : ((j : Int)) % (τ : Int) = (C + (i : Int)) % (τ : Int) := by
          rw [← he, Int.add_emod_emod, show C + ((j : Int) - C) = (j : Int) by omega]
        rw [Int.emod_eq_of_lt (by omega) (by omega)] at h1
        omega
      by_cases hc : ((j : Int) - C) % (τ : Int) < (i : Int)
      · rw [if_pos hc, if_pos (by omega)]
      · rw [if_neg hc, if_neg (by omega)]
  · rw [List.getElem?_eq_none (by rw [List.length_set, won_len]; omega), List.getElem?_eq_none (by rw [won_len]; omega)]
structure FOk (a b : List Int) : Prop where
  len : a.length = b.length
  pos : 0 < a.length
  le : a.length ≤ 10
  ta : ∀ x ∈ a, 0 ≤ x ∧ x ≤ 9
  tb : ∀ x ∈ b, 0 ≤ x ∧ x < 1000000000
  s : 1 ≤ a.sum
theorem FOk.app {a b : List Int} (h : FOk a b) {x y : Int} (hx : 0 ≤ x ∧ x ≤ 9) (hy : 0 ≤ y ∧ y < 1000000000) (hl : a.length < 10) : FOk (a ++ [x]) (b ++ [y]) := by
  refine ⟨by simp [h.len], by simp, by simp; omega, fun z hz => ?_, fun z hz => ?_, by have := h.s; simp; omega⟩
  · rcases List.mem_append.1 hz with hz | hz
    · exact h.ta z hz
    · obtain rfl := List.mem_singleton.1 hz; exact hx
  · rcases List.mem_append.1 hz with hz | hz
    · exact h.tb z hz
    · obtain rfl := List.mem_singleton.1 hz; exact hy
theorem made_f (N : Nat) {ρ : Type} (K : List Int → List Int → Int → Option ρ) (r : ρ) (hK : ∀ a b q, FOk a b → K a b q = some r) : ∀ (M : Nat) (i : Nat) (a b : List Int) (q : Int), FOk a b → i + a.length ≤ 10 → i < M →
    loop4 (fun rec_16 (tickets_12 : List Int) (secrets_13 : List Int) (i_14 : Int) (b_15 : Int) => (bif (decide (i_14 > 0)) then ((p_bk_Drum_Roll N (⟨b_15⟩ : T_bk_Drum) 10).bind fun r_20 => ((pushI tickets_12 ([r_20.1] : List Int)).bind fun l_21 => ((p_bk_Drum_Roll N r_20.2 1000000000).bind fun r_22 => ((pushI secrets_13 ([r_22.1] : List Int)).bind fun l_23 => (rec_16 l_21 l_23 (IntKind.i64.wrap (i_14 - 1)) r_22.2.beat_))))) else (K tickets_12 secrets_13 b_15))) M a b (i : Int) q = some r
  | 0, i, a, b, q, _, _, h => absurd h (Nat.not_lt_zero _)
  | M + 1, 0, a, b, q, ha, hb, _ => hK a b q ha
  | M + 1, i + 1, a, b, q, ha, hb, h => by
    rw [loop4]
    rw [show decide (((i + 1 : Nat) : Int) > 0) = true from decide_eq_true (by omega), cond_true]
    obtain ⟨x1, d1, e, a1, a2⟩ := roll_le N ⟨q⟩ 10 (by omega) (by omega)
    rw [e, Option.bind_some]; clear e
    dsimp only
    rw [pushI_ok (by simp; omega), Option.bind_some]
    obtain ⟨x2, d2, e, b1, b2⟩ := roll_le N d1 1000000000 (by omega) (by omega)
    rw [e, Option.bind_some]; clear e
    dsimp only
    have hbl := ha.len
    rw [pushI_ok (by simp; omega), Option.bind_some, w64 (x := ((i + 1 : Nat) : Int) - 1) (by omega) (by omega), show ((i + 1 : Nat) : Int) - 1 = (i : Int) by omega]
    exact made_f N K r hK M i _ _ _ (ha.app ⟨a1, by omega⟩ ⟨b1, b2⟩ (by omega)) (by simp; omega) (by omega)
theorem sum_bd (l : List Int) (m : Int) (h0 : 0 ≤ m) (h : ∀ x ∈ l, 0 ≤ x ∧ x ≤ m) : 0 ≤ l.sum ∧ l.sum ≤ m * (l.length : Int) := by
  have := pre_bd l m h0 h l.length (Nat.le_refl _)
  rwa [pre_all] at this
theorem part_p (l : List Int) (h : Nat) (hl : h ≤ l.length) : partI l 0 (h : Int) = some (l.take h) := by
  unfold partI
  first
  | (rw [if_pos (by omega)]; simp; done)
  | (simp; omega)
theorem round_f (N : Nat) (hN : 1000 < N) (a b : List Int) (h : FOk a b) (w : Nat) (x : Int) (hx : b[w]? = some x) (f : Int) (i : Nat) (f0 : 0 ≤ f) (hi : (i : Int) < a.sum) (f1 : f + a.sum ≤ 1000000000) :
    ∃ (n hd : Nat), p_coin_Draw N a (b.set w (f + (i : Int))) = some ((n : Int), (hd : Int), 0) ∧ (n : Int) = (b.sum - x + f + (i : Int)) % a.sum ∧ (n : Int) < a.sum ∧ hd < a.length ∧ p_bk_Sum N (a.take hd) = some (pre a hd) ∧ pre a hd ≤ (n : Int) ∧ (n : Int) < pre a (hd + 1) := by
  have hl := h.len; have hle := h.le; have hs := h.s
  have hwl := (List.getElem?_eq_some_iff.1 hx).1
  have ta : ∀ y ∈ a, 0 ≤ y ∧ y ≤ 1000 := fun y hy => by have := h.ta y hy; omega
  have hwa := wsum_pre a 1000 (by omega) ta (by omega) a.length (Nat.le_refl _)
  rw [pre_all] at hwa
  have hc : chk a (b.set w (f + (i : Int))) = 0 := by
    refine chk_of (by omega) ta (by rw [List.length_set, hl]) (fun y hy => ?_) (by rw [hwa]; omega)
    rcases List.mem_or_eq_of_mem_set hy with hy | rfl
    · have := h.tb y hy; omega
    · omega
  obtain ⟨t, hd, e, e1, e2, e3, e4, e5, e6, e7, w1, w2⟩ := draw_ok N a (b.set w (f + (i : Int))) (by omega) hc
  rw [pre_all, pre_all, sum_set b w x _ hx] at e1
  rw [pre_all] at e4
  have htake : ∀ y ∈ a.take hd, 0 ≤ y ∧ y ≤ 1000 := fun y hy => ta y (List.mem_of_mem_take hy)
  refine ⟨t.toNat, hd, by rw [e, Int.toNat_of_nonneg e3], ?_, by omega, e5, ?_, by omega, by omega⟩
  · rw [Int.toNat_of_nonneg e3, e1]
    congr 1
    omega
  · rw [ksum_p N _ (by rw [List.length_take]; omega) (by rw [List.length_take]; omega), wsum_pre (a.take hd) 1000 (by omega) htake (by rw [List.length_take]; omega) _ (Nat.le_refl _), pre_all]
    rfl
theorem fair_law (N : Nat) (zs : List Int) (hN : 9223372036854775808 + 1000 < N) (hz : zs.length < 9223372036854775808) (haw : p_bl9_awake N = some true) : p_bl9_CoinFair N zs = some true := by
  unfold p_bl9_CoinFair
  obtain ⟨d2, e⟩ := drumOf_p N zs (by omega) (by omega)
  rw [e, Option.bind_some]; clear e
  obtain ⟨t0, d3, e, t1, t2, _⟩ := mid_p N d2 1 9 (by omega) (by omega) (by omega) (by omega)
  have t2 := t2 (by omega)
  rw [e, Option.bind_some]; clear e
  dsimp only
  obtain ⟨s0, d4, e, s1, s2⟩ := roll_le N d3 1000000000 (by omega) (by omega)
  rw [e, Option.bind_some]; clear e
  dsimp only
  obtain ⟨k, d5, e, k0, k1⟩ := roll_le N d4 5 (by omega) (by omega)
  rw [e, Option.bind_some]; clear e
  dsimp only
  rw [letJ_eq]
  obtain ⟨k, rfl⟩ : ∃ j : Nat, k = (j : Int) := ⟨k.toNat, by omega⟩
  refine made_f N _ true (fun a b q h => ?_) N k [t0] [s0] _ ⟨rfl, by simp, by simp, fun x hx => ?_, fun x hx => ?_, by simp; omega⟩ (by simp; omega) (by omega)
  rotate_left
  · obtain rfl := List.mem_singleton.1 hx; omega
  · obtain rfl := List.mem_singleton.1 hx; omega
  have hl := h.len; have hle := h.le; have hs := h.s; have hp := h.pos
  have ta : ∀ y ∈ a, 0 ≤ y ∧ y ≤ 1000 := fun y hy => by have := h.ta y hy; omega
  have hwa := wsum_pre a 1000 (by omega) ta (by omega) a.length (Nat.le_refl _)
  rw [pre_all] at hwa
  have hsb := sum_bd a 9 (by omega) h.ta
  rw [ksum_p N a (by omega) (by omega), Option.bind_some, hwa]
  obtain ⟨w, d6, e, w0, w1⟩ := roll_le N ⟨q⟩ ((a.length : Nat) : Int) (by omega) (by omega)
  rw [e, Option.bind_some]; clear e
  dsimp only
  rw [w64 (x := 1000000000 - a.sum) (by omega) (by omega)]
  obtain ⟨f, d7, e, f0, f1, _⟩ := mid_p N d6 0 (1000000000 - a.sum) (by omega) (by omega) (by omega) (by omega)
  have f1 := f1 (by omega)
  rw [e, Option.bind_some]; clear e
  dsimp only
  obtain ⟨τ, hτ⟩ : ∃ τ : Nat, a.sum = (τ : Int) := ⟨a.sum.toNat, by omega⟩
  rw [hτ, show mkI (τ : Int) = some τ by unfold mkI; rw [if_pos (by omega)]; simp, Option.bind_some]
  rw [letJ_eq]
  obtain ⟨w, rfl⟩ : ∃ j : Nat, w = (j : Int) := ⟨w.toNat, by omega⟩
  have hx : b[w]? = some b[w] := List.getElem?_eq_getElem (by omega)
  refine st2z τ (won τ (b.sum - b[w] + f)) (won_zero τ _) (by omega) ?_ ?_
  · intro rec
    simp only [ltE, cond_false, letJ_eq]
    refine st1 τ _ (some true) ?_ ?_ N 0 (by omega) (by omega)
    · intro rec
      simp only [ltE, cond_false, haw]
      rfl
    · intro rec j hj
      have hw := won_end τ (b.sum - b[w] + f) j hj
      simp only [ltD hj, cond_true, show idxI (j : Int) τ = some () by unfold idxI; rw [if_pos (by omega)], Option.bind_some, Int.toNat_natCast, hw, bne_self_eq_false, cond_false, nadd1 j (by omega)]
  · intro rec i hi
    obtain ⟨n, hd, g1, g2, g3, g4, g5, g6, g7⟩ := round_f N (by omega) a b h w _ hx f i f0 (by omega) (by omega)
    obtain ⟨v1, v2⟩ := won_new τ (b.sum - b[w] + f) i n hi (by rw [g2, hτ])
    have hnt : n < τ := by omega
    have hxd : a[hd]? = some a[hd] := List.getElem?_eq_getElem g4
    have hpre := pre_succ a hd _ hxd
    have hpb := pre_bd a 9 (by omega) h.ta (hd + 1) (by omega)
    have hset : setI b ((w : Nat) : Int) (fun (y_40 : Int) => IntKind.i64.wrap (f + (i : Int))) = some (b.set w (f + (i : Int))) := by
      unfold setI
      rw [Int.toNat_natCast, hx, w64 (by omega) (by omega)]
      rfl
    have hset2 : setI (won τ (b.sum - b[w] + f) i) ((n : Nat) : Int) (fun (y_56 : Int) => IntKind.i64.wrap (0 + 1)) = some (won τ (b.sum - b[w] + f) (i + 1)) := by
      unfold setI
      rw [Int.toNat_natCast, v1, ← v2]
      rfl
    simp only [ltD hi, cond_true, ints_t N b (by omega), Option.bind_some, show idxI ((w : Nat) : Int) b.length = some () by unfold idxI; rw [if_pos (by omega)], hset, show lenI (b.set w (f + (i : Int))) b.length = some () by unfold lenI; rw [if_pos (by simp)], g1, letJ_eq, bne_self_eq_false, cond_false]
    rw [show decide ((n : Int) < 0) = false from decide_eq_false (by omega), show decide ((n : Int) ≥ (τ : Int)) = false from decide_eq_false (by omega), show decide ((hd : Int) < 0) = false from decide_eq_false (by omega), show decide ((hd : Int) ≥ ((a.length : Nat) : Int)) = false from decide_eq_false (by omega)]
    simp only [cond_false, show idxI ((n : Nat) : Int) τ = some () by unfold idxI; rw [if_pos (by omega)], Option.bind_some, Int.toNat_natCast, v1, hset2, part_p a hd (by omega), g5]
    rw [show decide ((n : Int) < pre a hd) = false from decide_eq_false (by omega), cond_false, getD_at hxd, Option.bind_some, w64 (x := pre a hd + a[hd]) (by omega) (by omega), show decide ((n : Int) ≥ pre a hd + a[hd]) = false from decide_eq_false (by omega), cond_false, nadd1 i (by omega)]
theorem awake_p2 : p_bl9_awake 18446744073709551616 = some true := by kernel_rfl
theorem fair_m (zs : List Int) (h : zs.length < 9223372036854775808) : Does Try.prog 12 [.sl (zs.map (AV.int .i64)) none] [] fun v _ => v = .bool true :=
  (d_bl9_CoinFair 18446744073709551616 zs true (fair_law _ zs (by omega) h awake_p2)).mono fun v c h => h.1
end Go.Proofs.Ytkpihepaaiofgaa
end
section
namespace Go.Proofs.Ytkpihepaaiofgaa
open Go.RowKit Go.ChangeShapes Go.WideShapes Go.ChangeAt
set_option linter.unusedVariables false
set_option linter.unusedSimpArgs false

def nums (zs : List Int) : AV := .sl (zs.map fun z => .int .i64 z) none
theorem prog_own : ownKnob Try.prog.godebug = none := by kernel_rfl
theorem prog_laid : laidOutB Try.prog = true := by kernel_rfl

namespace coinFair
set_option maxRecDepth 100000 in
theorem lifted (hM : ∀ zs : List Int, (∀ z ∈ zs, (Lit.int .i64 z).wf = true) → zs.length ≤ maxLen → Does Try.prog 12 [nums zs] [] fun v _ => v = .bool true) (os : Os) (started : os.Started) (H : Type) (enc : TypeId × Value → H) :
    ReturnsInHanded {} Try.checked os 12 .any (Rows.coinFairSpec.pre6 enc Try.prog Try.f12 Rows.coinFairRow.domain false) (Rows.coinFairSpec.post enc Try.prog Try.f12 false true false false) := by
  refine returnsInHanded_of_change (C := Try.checked) prog_own started (by kernel_rfl) Try.func12
    (ChangeSpec.witness6 (enc := enc) (C := Try.checked) false ⟨#[], #[.slice none 0 0], []⟩ 8 (by kernel_rfl) (by kernel_rfl) (by kernel_rfl) (by kernel_rfl)) ?_
  intro W base args ds gs before hval0 hW hcnd _
  have hval : ∀ (j : Nat) t v, Try.f12.params[j]? = some t → args[j]? = some v → Value.okWide Try.prog W .any base t v := hval0
  have hW' := hW
  obtain ⟨p, q, hA0, hV, rfl, hfz, hnd⟩ := hW
  have hA : DataW.TrodAll enc Try.prog W 0 (fun _ => true) true Try.f12.params.toList args.toList ds p := hA0
  rw [Try.params12] at hA hval
  obtain ⟨v0, vs0, d0, ds0, p0, q0, hargs, rfl, rfl, h0, r0⟩ := trodAll_cons hA
  obtain ⟨rfl, rfl, rfl⟩ := trodAll_nil r0
  obtain rfl : args = #[v0] := by cases args; simp_all
  obtain ⟨rfl, rfl⟩ := trodVars_none hV
  obtain ⟨a0, len0, cap0, rfl⟩ := okWide_slice Try.underlying28 (hval 0 28 v0 rfl rfl)
  have k0 := h0
  have lt0 : ∀ x ∈ p0, x.block < W.heap.size := by obtain ⟨m, hm⟩ := k0; exact DataW.trod_lt m _ _ _ hm
  obtain ⟨zs, hwf, hlen, hvr⟩ := ints_vr Try.underlying28 Try.underlying3 (by kernel_rfl) h0
  clear hA0 hval0
  refine ((hM zs hwf hlen).law (us := #[.slice a0 len0 cap0]) ⟨rfl, fun i x u hx hu => ?_⟩).mono fun e W' ⟨he, bel⟩ => ?_
  · cases i with
    | zero => simp at hx hu; subst hx; subst hu; exact hvr
    | succ i => simp at hx
  subst he
  exact ⟨_, rfl, _, _, _, [], _, [], hW', trodAll_mk1 (shut_bool Try.underlying4 _), (trodAll_cons_mk (Below.trod prog_laid (by kernel_rfl) (of_decide_eq_true (by kernel_rfl)) k0 bel lt0) trodAll_mk0), rfl, bel.frame _, fun h => by cases h⟩

theorem frame (hM : ∀ zs : List Int, (∀ z ∈ zs, (Lit.int .i64 z).wf = true) → zs.length ≤ maxLen → Does Try.prog 12 [nums zs] [] fun v _ => v = .bool true) : Rows.CoinFairSaid :=
  OpenClaim.holds_of_wide 12 Try.f12 rfl rfl rfl rfl rfl rfl rfl ⟨rfl, rfl, rfl, rfl, rfl⟩ rfl rfl rfl rfl rfl (by kernel_rfl) Try.func12 (by kernel_rfl)
    (of_decide_eq_true (by kernel_rfl)) (by unfold Func.isWrapper; first | (rw [if_pos (by decide +kernel)]; kernel_rfl) | (rw [if_neg (by decide +kernel)]; exact ⟨rfl, rfl⟩))
    (fun os started H enc _ => lifted hM os started H enc)
end coinFair
end Go.Proofs.Ytkpihepaaiofgaa
end
