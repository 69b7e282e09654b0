/- Part 6 of what the law needs: own work, put together. -/
import Derived.ProofKit
import Derived.Test.YtkpihepaaiofgaaRows
import Derived.Test.YtkpihepaaiofgaaCoinPai4
section
namespace Go.Proofs.Ytkpihepaaiofgaa
open Go.RowKit
set_option linter.unusedVariables false
set_option linter.unusedSimpArgs false
set_option maxRecDepth 10000
set_option maxHeartbeats 4000000

theorem w64 {x : Int} (h0 : -9223372036854775808 ≤ x) (h1 : x < 9223372036854775808) : IntKind.i64.wrap x = x := by
  simp [IntKind.wrap, IntKind.bits, IntKind.signed]
  omega
theorem wu64 (x : Int) : 0 ≤ IntKind.u64.wrap x ∧ IntKind.u64.wrap x < 2 ^ 64 := by
  have e : IntKind.u64.wrap x = x % 2 ^ 64 := rfl
  omega
theorem wu64_id {x : Int} (h0 : 0 ≤ x) (h1 : x < 2 ^ 64) : IntKind.u64.wrap x = x := by
  have e : IntKind.u64.wrap x = x % 2 ^ 64 := rfl
  omega

section
variable {ρ : Type} {A B C : Type}
theorem loop1_T {body : (A → Option ρ) → A → Option ρ} (T : Option ρ → Prop) (P : A → Prop) (μ : A → Nat) (h : ∀ rec a, P a → (∀ a', P a' → μ a' < μ a → T (rec a')) → T (body rec a)) : ∀ (N : Nat) (a : A), P a → μ a < N → T (loop1 body N a)
  | 0, a, _, hm => absurd hm (Nat.not_lt_zero _)
  | n + 1, a, hp, hm => h (loop1 body n) a hp fun a' hp' hm' => loop1_T T P μ h n a' hp' (by omega)
theorem loop2_T {body : (A → B → Option ρ) → A → B → Option ρ} (T : Option ρ → Prop) (P : A → B → Prop) (μ : A → B → Nat) (h : ∀ rec a b, P a b → (∀ a' b', P a' b' → μ a' b' < μ a b → T (rec a' b')) → T (body rec a b)) : ∀ (N : Nat) (a : A) (b : B), P a b → μ a b < N → T (loop2 body N a b)
  | 0, a, b, _, hm => absurd hm (Nat.not_lt_zero _)
  | n + 1, a, b, hp, hm => h (loop2 body n) a b hp fun a' b' hp' hm' => loop2_T T P μ h n a' b' hp' (by omega)
theorem loop3_T {body : (A → B → C → Option ρ) → A → B → C → Option ρ} (T : Option ρ → Prop) (P : A → B → C → Prop) (μ : A → B → C → Nat) (h : ∀ rec a b c, P a b c → (∀ a' b' c', P a' b' c' → μ a' b' c' < μ a b c → T (rec a' b' c')) → T (body rec a b c)) : ∀ (N : Nat) (a : A) (b : B) (c : C), P a b c → μ a b c < N → T (loop3 body N a b c)
  | 0, a, b, c, _, hm => absurd hm (Nat.not_lt_zero _)
  | n + 1, a, b, c, hp, hm => h (loop3 body n) a b c hp fun a' b' c' hp' hm' => loop3_T T P μ h n a' b' c' hp' (by omega)
end
theorem getI_nat {α : Type} (l : List α) (i : Nat) : getI l (i : Int) = l[i]? := by simp [getI]
theorem getI_lt {α : Type} {l : List α} {i : Int} (h0 : 0 ≤ i) (h1 : i < (l.length : Int)) : ∃ x, getI l i = some x ∧ l[i.toNat]? = some x ∧ x ∈ l := by
  have hlt : i.toNat < l.length := by omega
  refine ⟨l[i.toNat], ?_, List.getElem?_eq_getElem hlt, List.getElem_mem hlt⟩
  simp only [getI, h0, if_true]
  exact List.getElem?_eq_getElem hlt
theorem pushI_ok {α : Type} {l m : List α} (h : l.length + m.length ≤ 65536) : pushI l m = some (l ++ m) := if_pos h
theorem letJ_eq {κ ρ : Type} (K : κ) (f : κ → Option ρ) : letJ K f = f K := rfl

theorem hit_p (N : Nat) (d : T_bk_Drum) : ∃ y d', p_bk_Drum_hit N d = some (y, d') ∧ 0 ≤ y ∧ y < 2 ^ 64 := by
  refine ⟨_, _, rfl, ?_⟩
  exact wu64 _
theorem roll_p (N : Nat) (d : T_bk_Drum) (n : Int) (hn : n < 9223372036854775808) : ∃ r d', p_bk_Drum_Roll N d n = some (r, d') ∧ 0 ≤ r ∧ (n < 2 → r = 0) ∧ (2 ≤ n → r < n) := by
  unfold p_bk_Drum_Roll
  by_cases h2 : n < 2
  · simp only [h2, decide_true, cond_true]
    exact ⟨0, d, rfl, by omega, fun _ => rfl, fun h => by omega⟩
  · simp only [h2, decide_false, cond_false]
    obtain ⟨y, d', hy, h0, h1⟩ := hit_p N d
    have hu : IntKind.u64.wrap n = n := wu64_id (by omega) (by omega)
    have hnz : n ≠ 0 := by omega
    rw [hy, hu]
    simp only [Option.bind_some, nzI, hnz, if_false]
    have hsh : Int.fdiv y ((2 : Int) ^ (min (Int.toNat 1) (IntKind.bits .u64))) = y / 2 := by
      have : (2 : Int) ^ (min (Int.toNat 1) (IntKind.bits .u64)) = 2 := rfl
      rw [this, Int.fdiv_eq_ediv_of_nonneg _ (by omega)]
    rw [hsh]
    have hd0 : 0 ≤ y / 2 := by omega
    have hm : Int.tmod (y / 2) n = (y / 2) % n := Int.tmod_eq_emod_of_nonneg hd0
    have hm0 : 0 ≤ (y / 2) % n := Int.emod_nonneg _ hnz
    have hm1 : (y / 2) % n < n := Int.emod_lt_of_pos _ (by omega)
    rw [hm, w64 (x := y / 2 % n) (by omega) (by omega)]
    exact ⟨_, d', rfl, hm0, fun h => False.elim h, fun _ => hm1⟩
theorem any_p (N : Nat) (d : T_bk_Drum) (l : List Int) (hl : l ≠ []) (hlen : l.length < 1000) : ∃ r d', p_bk_Drum_Any N d l = some (r, d') ∧ r ∈ l := by
  unfold p_bk_Drum_Any
  have hpos : 0 < l.length := List.length_pos_iff.2 hl
  have hb : (((l.length : Nat) : Int) == 0) = false := by simp; omega
  rw [hb, cond_false]
  obtain ⟨r, d', h1, h2, h3, h4⟩ := roll_p N d ((l.length : Nat) : Int) (by omega)
  rw [h1]
  simp only [Option.bind_some]
  have hr : r < (l.length : Int) := by
    by_cases h : (l.length : Int) < 2
    · rw [h3 h]; omega
    · exact h4 (by omega)
  obtain ⟨x, e1, _, e3⟩ := getI_lt h2 hr
  rw [e1]
  exact ⟨x, d', rfl, e3⟩
theorem mid_p (N : Nat) (d : T_bk_Drum) (lo hi : Int) (h0 : -4611686018427387904 ≤ lo) (h1 : lo ≤ 4611686018427387903) (h2 : -4611686018427387904 ≤ hi) (h3 : hi ≤ 4611686018427387902) : ∃ r d', p_bk_Drum_Mid N d lo hi = some (r, d') ∧ lo ≤ r ∧ (lo ≤ hi → r ≤ hi) ∧ (hi < lo → r = lo) := by
  unfold p_bk_Drum_Mid
  rw [w64 (x := hi - lo) (by omega) (by omega)]
  by_cases hc : hi - lo + 1 < 9223372036854775808
  · rw [w64 (x := hi - lo + 1) (by omega) hc]
    obtain ⟨r, d', e1, e2, e3, e4⟩ := roll_p N d (hi - lo + 1) hc
    rw [e1]
    simp only [Option.bind_some]
    have hr : r ≤ hi - lo ∨ r = 0 := by
      by_cases h : hi - lo + 1 < 2
      · exact .inr (e3 h)
      · have := e4 (by omega); exact .inl (by omega)
    rw [w64 (by omega) (by omega)]
    exact ⟨_, d', rfl, by omega, fun h => by omega, fun h => by
      have := e3 (by omega)
      omega⟩
  · omega
theorem drumOf_step (N : Nat) (l : List Int) (rec : Int → Int → Option T_bk_Drum) (i q : Int) (h : i < 9223372036854775807) (h0 : 0 ≤ i) (ih : ∀ b', ∃ d, rec (i + 1) b' = some d) : ∃ d, ((p_bk_Drum_hit N (⟨q⟩ : T_bk_Drum)).bind fun r_14 => (rec (IntKind.i64.wrap (i + 1)) r_14.2.beat_)) = some d := by
  obtain ⟨y, d', g1, _, _⟩ := hit_p N ⟨q⟩
  rw [g1, w64 (x := i + 1) (by omega) (by omega)]
  exact ih _
theorem drumOf_p (N : Nat) (l : List Int) (hN : l.length < N) (hl : l.length < 9223372036854775808) : ∃ d, p_bk_DrumOf N l = some d := by
  unfold p_bk_DrumOf
  rw [letJ_eq]
  refine loop2_T (fun x => ∃ d, x = some d) (fun i b => 0 ≤ i ∧ i ≤ (l.length : Int)) (fun i b => l.length - i.toNat) ?_ N 0 _ ⟨by omega, by omega⟩ (by simpa using hN)
  rintro rec i b ⟨h0, h1⟩ ih
  by_cases hc : i < (l.length : Int)
  · rw [show decide (i < ((l.length : Nat) : Int)) = true from decide_eq_true hc, cond_true]
    obtain ⟨x, e1, _, _⟩ := getI_lt h0 hc
    rw [e1, Option.bind_some, Option.bind_some]
    exact drumOf_step N l rec i _ (by omega) h0 fun b' => ih _ _ ⟨by omega, by omega⟩ (by omega)
  · rw [show decide (i < ((l.length : Nat) : Int)) = false from decide_eq_false hc, cond_false]
    exact ⟨_, rfl⟩
section
variable {A B ρ : Type}
theorem st1 (n : Nat) (body : (Int → Option ρ) → Int → Option ρ) (r : Option ρ) (hend : ∀ rec, body rec (n : Int) = r) (hstep : ∀ rec (i : Nat), i < n → body rec (i : Int) = rec ((i + 1 : Nat) : Int)) : ∀ (N i : Nat), i ≤ n → n - i < N → loop1 body N (i : Int) = r
  | 0, i, _, h => absurd h (Nat.not_lt_zero _)
  | N + 1, i, hle, hN => by
    show body (loop1 body N) (i : Int) = _
    by_cases hlt : i < n
    · rw [hstep _ i hlt]; exact st1 n body r hend hstep N (i + 1) (by omega) (by omega)
    · have : i = n := by omega
      subst this
      exact hend _
theorem st2 (n : Nat) (st : Nat → A) (body : (Int → A → Option ρ) → Int → A → Option ρ) (r : Option ρ) (hend : ∀ rec, body rec (n : Int) (st n) = r) (hstep : ∀ rec (i : Nat), i < n → body rec (i : Int) (st i) = rec ((i + 1 : Nat) : Int) (st (i + 1))) : ∀ (N i : Nat), i ≤ n → n - i < N → loop2 body N (i : Int) (st i) = r
  | 0, i, _, h => absurd h (Nat.not_lt_zero _)
  | N + 1, i, hle, hN => by
    show body (loop2 body N) (i : Int) (st i) = _
    by_cases hlt : i < n
    · rw [hstep _ i hlt]; exact st2 n st body r hend hstep N (i + 1) (by omega) (by omega)
    · have : i = n := by omega
      subst this
      exact hend _
theorem st2' (n : Nat) (st : Nat → A) (body : (A → Int → Option ρ) → A → Int → Option ρ) (r : Option ρ) (hend : ∀ rec, body rec (st n) (n : Int) = r) (hstep : ∀ rec (i : Nat), i < n → body rec (st i) (i : Int) = rec (st (i + 1)) ((i + 1 : Nat) : Int)) : ∀ (N i : Nat), i ≤ n → n - i < N → loop2 body N (st i) (i : Int) = r
  | 0, i, _, h => absurd h (Nat.not_lt_zero _)
  | N + 1, i, hle, hN => by
    show body (loop2 body N) (st i) (i : Int) = _
    by_cases hlt : i < n
    · rw [hstep _ i hlt]; exact st2' n st body r hend hstep N (i + 1) (by omega) (by omega)
    · have : i = n := by omega
      subst this
      exact hend _
theorem st2z (n : Nat) (st : Nat → A) {body : (Int → A → Option ρ) → Int → A → Option ρ} {r : Option ρ} {a : A} {N : Nat} (ha : a = st 0) (hN : n < N) (hend : ∀ rec, body rec (n : Int) (st n) = r) (hstep : ∀ rec (i : Nat), i < n → body rec (i : Int) (st i) = rec ((i + 1 : Nat) : Int) (st (i + 1))) : loop2 body N 0 a = r := by
  subst ha; exact st2 n st body r hend hstep N 0 (Nat.zero_le _) (by omega)
theorem st2z' (n : Nat) (st : Nat → A) {body : (A → Int → Option ρ) → A → Int → Option ρ} {r : Option ρ} {a : A} {N : Nat} (ha : a = st 0) (hN : n < N) (hend : ∀ rec, body rec (st n) (n : Int) = r) (hstep : ∀ rec (i : Nat), i < n → body rec (st i) (i : Int) = rec (st (i + 1)) ((i + 1 : Nat) : Int)) : loop2 body N a 0 = r := by
  subst ha; exact st2' n st body r hend hstep N 0 (Nat.zero_le _) (by omega)
end
theorem nadd1 (i : Nat) (h : i < 4611686018427387904) : IntKind.i64.wrap ((i : Int) + 1) = ((i + 1 : Nat) : Int) := by
  rw [w64 (x := (i : Int) + 1) (by omega) (by omega)]
  omega
theorem ltD {i n : Nat} (h : i < n) : decide ((i : Int) < ((n : Nat) : Int)) = true := decide_eq_true (by omega)
theorem ltE (n : Nat) : decide (((n : Nat) : Int) < ((n : Nat) : Int)) = false := decide_eq_false (by omega)

theorem rare_p (N : Nat) (d : T_bk_Drum) (n : Int) (hn : n < 9223372036854775808) : ∃ b d', p_bk_Drum_Rare N d n = some (b, d') := by
  unfold p_bk_Drum_Rare
  obtain ⟨r, d', e, _⟩ := roll_p N d n hn
  rw [e]
  exact ⟨_, _, rfl⟩
theorem roll_le (N : Nat) (d : T_bk_Drum) (n : Int) (h1 : 1 ≤ n) (hn : n < 9223372036854775808) : ∃ r d', p_bk_Drum_Roll N d n = some (r, d') ∧ 0 ≤ r ∧ r < n := by
  obtain ⟨r, d', e, h0, h2, h3⟩ := roll_p N d n hn
  refine ⟨r, d', e, h0, ?_⟩
  by_cases h : n < 2
  · rw [h2 h]; omega
  · exact h3 (by omega)

def pre (l : List Int) (i : Nat) : Int := (l.take i).sum
theorem pre_succ (l : List Int) (i : Nat) (x : Int) (h : l[i]? = some x) : pre l (i + 1) = pre l i + x := by
  unfold pre
  rw [List.take_add_one, h]
  simp
theorem getD_at {α : Type} [Inhabited α] {l : List α} {i : Nat} {x : α} (h : l[i]? = some x) : getI l (i : Int) = some x := by
  rw [getI_nat, h]
end Go.Proofs.Ytkpihepaaiofgaa
end
section
namespace Go.Proofs.Ytkpihepaaiofgaa
open Go.RowKit
set_option linter.unusedVariables false
set_option linter.unusedSimpArgs false
set_option maxRecDepth 10000
set_option maxHeartbeats 4000000

def bits (s : Nat) : List Nat := (List.range 8).filter fun t => s.testBit t
theorem mem_bits {s t : Nat} : t ∈ bits s ↔ t < 8 ∧ s.testBit t = true := by simp [bits]
def tzOk (s : Nat) : Bool := match p_math_bits_TrailingZeros8 0 (s : Int), bits s with
  | some t, x :: r => decide (t = (x : Int)) && (r == bits (s &&& (s - 1))) && decide ((IntKind.u8.wrap (((BitVec.ofInt (IntKind.bits .u8) (s : Int) &&& BitVec.ofInt (IntKind.bits .u8) (IntKind.u8.wrap ((s : Int) - 1))).toNat : Nat) : Int)) = ((s &&& (s - 1) : Nat) : Int))
  | _, _ => false
theorem tz_all : (List.range 256).all (fun s => s == 0 || tzOk s) = true := by kernel_rfl
theorem tz_p (N s : Nat) (h0 : s ≠ 0) (h : s < 256) : ∃ t : Nat, p_math_bits_TrailingZeros8 N (s : Int) = some (t : Int) ∧ bits s = t :: bits (s &&& (s - 1)) ∧ IntKind.u8.wrap (((BitVec.ofInt (IntKind.bits .u8) (s : Int) &&& BitVec.ofInt (IntKind.bits .u8) (IntKind.u8.wrap ((s : Int) - 1))).toNat : Nat) : Int) = ((s &&& (s - 1) : Nat) : Int) := by
  have h1 := List.all_eq_true.1 tz_all s (by simpa using h)
  have h2 : tzOk s = true := by
    rcases Bool.or_eq_true _ _ ▸ h1 with h3 | h3
    · exact absurd (by simpa using h3) h0
    · exact h3
  have hN : p_math_bits_TrailingZeros8 N (s : Int) = p_math_bits_TrailingZeros8 0 (s : Int) := rfl
  rw [hN]
  unfold tzOk at h2
  split at h2
  · rename_i t x r e1 e2
    simp only [Bool.and_eq_true, decide_eq_true_eq, beq_iff_eq] at h2
    obtain ⟨⟨h3, h4⟩, h5⟩ := h2
    exact ⟨x, by rw [e1, h3], by rw [e2, h4], h5⟩
  · cases h2
theorem low_lt (s : Nat) (h0 : s ≠ 0) : s &&& (s - 1) < s := by
  have := Nat.and_le_right (n := s) (m := s - 1)
  omega
theorem wu8 {x : Int} (h0 : 0 ≤ x) (h1 : x < 256) : IntKind.u8.wrap x = x := by
  have e : IntKind.u8.wrap x = x % 2 ^ 8 := rfl
  omega
theorem or_p (a b : Nat) (ha : a < 256) (hb : b < 256) : IntKind.u8.wrap (((BitVec.ofInt (IntKind.bits .u8) (a : Int) ||| BitVec.ofInt (IntKind.bits .u8) (b : Int)).toNat : Nat) : Int) = ((a ||| b : Nat) : Int) := by
  have e : (BitVec.ofInt 8 (a : Int) ||| BitVec.ofInt 8 (b : Int)).toNat = a ||| b := by
    rw [BitVec.toNat_or, BitVec.ofInt_natCast, BitVec.ofInt_natCast, BitVec.toNat_ofNat, BitVec.toNat_ofNat, Nat.mod_eq_of_lt (by omega), Nat.mod_eq_of_lt (by omega)]
  have hlt : a ||| b < 2 ^ 8 := Nat.or_lt_two_pow (by omega) (by omega)
  show IntKind.u8.wrap (((BitVec.ofInt 8 (a : Int) ||| BitVec.ofInt 8 (b : Int)).toNat : Nat) : Int) = _
  rw [e, wu8 (by omega) (by omega)]
theorem pow_all : (List.range 8).all (fun n => decide (IntKind.u8.wrap (1 * ((2 : Int) ^ (min (Int.toNat (n : Int)) (IntKind.bits .u8)))) = ((2 ^ n : Nat) : Int))) = true := by kernel_rfl
theorem pow_lt8 {n : Nat} (h : n < 8) : 2 ^ n < 256 := Nat.pow_lt_pow_right (a := 2) (by omega) h
theorem add_p (N s n : Nat) (hs : s < 256) (hn : n < 8) : p_coin_set_add N (s : Int) (n : Int) = some ((s ||| 2 ^ n : Nat) : Int) := by
  unfold p_coin_set_add
  have h1 := List.all_eq_true.1 pow_all n (by simpa using hn)
  simp only [decide_eq_true_eq] at h1
  have h2 : nnI (n : Int) = some () := by unfold nnI; rw [if_neg (by omega)]
  rw [h2, h1]
  simp only [Option.bind_some]
  rw [or_p s (2 ^ n) hs (pow_lt8 hn)]
theorem add_lt {s n : Nat} (hs : s < 256) (hn : n < 8) : s ||| 2 ^ n < 256 := Nat.or_lt_two_pow (n := 8) (by omega) (pow_lt8 hn)
def addAll (b : Nat) (l : List Nat) : Nat := l.foldl (fun s t => s ||| 2 ^ t) b
theorem addAll_lt : ∀ (l : List Nat) (b : Nat), b < 256 → (∀ t ∈ l, t < 8) → addAll b l < 256
  | [], b, h, _ => h
  | t :: l, b, h, hl => addAll_lt l _ (add_lt h (hl t (by simp))) fun u hu => hl u (by simp [hu])
theorem addAll_bit : ∀ (l : List Nat) (b t : Nat), (addAll b l).testBit t = (b.testBit t || decide (t ∈ l))
  | [], b, t => by simp [addAll]
  | u :: l, b, t => by
    have := addAll_bit l (b ||| 2 ^ u) t
    show (addAll (b ||| 2 ^ u) l).testBit t = _
    rw [this, Nat.testBit_or, Nat.testBit_two_pow, Bool.or_assoc]
    congr 1
    by_cases h : u = t
    · subst h; simp
    · have : t ≠ u := fun e => h e.symm
      simp [h, this]

section
variable {α A B C D ρ : Type}
theorem loop4_T {body : (A → B → C → D → Option ρ) → A → B → C → D → Option ρ} (T : Option ρ → Prop) (P : A → B → C → D → Prop) (μ : A → B → C → D → Nat) (h : ∀ rec a b c d, P a b c d → (∀ a' b' c' d', P a' b' c' d' → μ a' b' c' d' < μ a b c d → T (rec a' b' c' d')) → T (body rec a b c d)) : ∀ (N : Nat) (a : A) (b : B) (c : C) (d : D), P a b c d → μ a b c d < N → T (loop4 body N a b c d)
  | 0, a, b, c, d, _, hm => absurd hm (Nat.not_lt_zero _)
  | n + 1, a, b, c, d, hp, hm => h (loop4 body n) a b c d hp fun a' b' c' d' hp' hm' => loop4_T T P μ h n a' b' c' d' hp' (by omega)
theorem invL (l : List α) (T : Option ρ → Prop) (I : Nat → B → Prop) {body : (Int → B → Option ρ) → Int → B → Option ρ} (hend : ∀ rec b, I l.length b → T (body rec (l.length : Int) b)) (hstep : ∀ rec (i : Nat) x b, l[i]? = some x → i < l.length → I i b → (∀ b', I (i + 1) b' → T (rec ((i + 1 : Nat) : Int) b')) → T (body rec (i : Int) b)) : ∀ (N i : Nat) (b : B), i ≤ l.length → l.length - i < N → I i b → T (loop2 body N (i : Int) b)
  | 0, i, b, _, h, _ => absurd h (Nat.not_lt_zero _)
  | N + 1, i, b, hle, hN, hI => by
    show T (body (loop2 body N) (i : Int) b)
    by_cases hlt : i < l.length
    · exact hstep _ i l[i] b (List.getElem?_eq_getElem hlt) hlt hI fun b' hb' => invL l T I hend hstep N (i + 1) b' (by omega) (by omega) hb'
    · have : i = l.length := by omega
      subst this
      exact hend _ b hI
theorem invL' (l : List α) (T : Option ρ → Prop) (I : Nat → B → Prop) {body : (B → Int → Option ρ) → B → Int → Option ρ} (hend : ∀ rec b, I l.length b → T (body rec b (l.length : Int))) (hstep : ∀ rec (i : Nat) x b, l[i]? = some x → i < l.length → I i b → (∀ b', I (i + 1) b' → T (rec b' ((i + 1 : Nat) : Int))) → T (body rec b (i : Int))) : ∀ (N i : Nat) (b : B), i ≤ l.length → l.length - i < N → I i b → T (loop2 body N b (i : Int))
  | 0, i, b, _, h, _ => absurd h (Nat.not_lt_zero _)
  | N + 1, i, b, hle, hN, hI => by
    show T (body (loop2 body N) b (i : Int))
    by_cases hlt : i < l.length
    · exact hstep _ i l[i] b (List.getElem?_eq_getElem hlt) hlt hI fun b' hb' => invL' l T I hend hstep N (i + 1) b' (by omega) (by omega) hb'
    · have : i = l.length := by omega
      subst this
      exact hend _ b hI
theorem invZ (l : List α) (T : Option ρ → Prop) (I : Nat → B → Prop) {body : (Int → B → Option ρ) → Int → B → Option ρ} {N : Nat} {b : B} (hN : l.length < N) (hI : I 0 b) (hend : ∀ rec b, I l.length b → T (body rec (l.length : Int) b)) (hstep : ∀ rec (i : Nat) x b, l[i]? = some x → i < l.length → I i b → (∀ b', I (i + 1) b' → T (rec ((i + 1 : Nat) : Int) b')) → T (body rec (i : Int) b)) : T (loop2 body N 0 b) := invL l T I hend hstep N 0 b (by omega) (by omega) hI
theorem invZ' (l : List α) (T : Option ρ → Prop) (I : Nat → B → Prop) {body : (B → Int → Option ρ) → B → Int → Option ρ} {N : Nat} {b : B} (hN : l.length < N) (hI : I 0 b) (hend : ∀ rec b, I l.length b → T (body rec b (l.length : Int))) (hstep : ∀ rec (i : Nat) x b, l[i]? = some x → i < l.length → I i b → (∀ b', I (i + 1) b' → T (rec b' ((i + 1 : Nat) : Int))) → T (body rec b (i : Int))) : T (loop2 body N b 0) := invL' l T I hend hstep N 0 b (by omega) (by omega) hI
theorem foldZ' (l : List α) (f : B → α → B) (K : B → Option ρ) {body : (B → Int → Option ρ) → B → Int → Option ρ} {N : Nat} {b : B} (hN : l.length < N) (hend : ∀ rec b, body rec b (l.length : Int) = K b) (hstep : ∀ rec (i : Nat) x b, l[i]? = some x → i < l.length → body rec b (i : Int) = rec (f b x) ((i + 1 : Nat) : Int)) : loop2 body N b 0 = K (l.foldl f b) := by
  refine st2z' l.length (fun i => (l.take i).foldl f b) rfl hN (fun rec => by rw [hend, List.take_length]) fun rec i hi => ?_
  have hx : l[i]? = some l[i] := List.getElem?_eq_getElem hi
  rw [hstep rec i _ _ hx hi, List.take_add_one, hx, List.foldl_append]
  rfl
end
theorem foldSum {α : Type} (g : α → Int) (m : Int) (h0 : 0 ≤ m) : ∀ (l : List α) (b : Int), (∀ x ∈ l, -m ≤ g x ∧ g x ≤ m) → -9223372036854775808 ≤ b - m * (l.length : Int) → b + m * (l.length : Int) < 9223372036854775808 → l.foldl (fun b x => IntKind.i64.wrap (b + g x)) b = b + (l.map g).sum
  | [], b, _, _, _ => by simp
  | x :: l, b, h, h1, h2 => by
    have hx := h x (by simp)
    have e : m * ((l.length + 1 : Nat) : Int) = m * (l.length : Int) + m := by rw [Int.natCast_add, Int.mul_add]; simp
    have hp : 0 ≤ m * (l.length : Int) := Int.mul_nonneg h0 (by omega)
    simp only [List.length_cons, e] at h1 h2
    simp only [List.foldl_cons, List.map_cons, List.sum_cons]
    rw [w64 (x := b + g x) (by omega) (by omega), foldSum g m h0 l (b + g x) (fun y hy => h y (by simp [hy])) (by omega) (by omega)]
    omega
theorem sum_bnd {α : Type} (g : α → Int) (m : Int) (h0 : 0 ≤ m) : ∀ (l : List α), (∀ x ∈ l, 0 ≤ g x ∧ g x ≤ m) → 0 ≤ (l.map g).sum ∧ (l.map g).sum ≤ m * (l.length : Int)
  | [], _ => by simp
  | x :: l, h => by
    have hx := h x (by simp)
    have ih := sum_bnd g m h0 l fun y hy => h y (by simp [hy])
    have e : m * ((l.length + 1 : Nat) : Int) = m * (l.length : Int) + m := by rw [Int.natCast_add, Int.mul_add]; simp
    simp only [List.map_cons, List.sum_cons, List.length_cons, e]
    omega
theorem sum_le {α : Type} (g h : α → Int) : ∀ (l : List α), (∀ x ∈ l, g x ≤ h x) → (l.map g).sum ≤ (l.map h).sum
  | [], _ => by simp
  | x :: l, hl => by
    have hx := hl x (by simp)
    have ih := sum_le g h l fun y hy => hl y (by simp [hy])
    simp only [List.map_cons, List.sum_cons]
    omega
theorem sum_add {α : Type} (g h : α → Int) : ∀ (l : List α), (l.map fun x => g x + h x).sum = (l.map g).sum + (l.map h).sum
  | [] => by simp
  | x :: l => by
    have ih := sum_add g h l
    simp only [List.map_cons, List.sum_cons, ih]
    omega
theorem sum_filter (p : Nat → Bool) (g : Nat → Int) : ∀ (l : List Nat), ((l.filter p).map g).sum = (l.map fun t => if p t then g t else 0).sum
  | [] => by simp
  | x :: l => by
    have ih := sum_filter p g l
    cases hp : p x <;> simp [List.filter_cons, hp, ih]
theorem asc_len : ∀ (l : List Nat) (a b : Nat), l.Pairwise (· < ·) → (∀ t ∈ l, a ≤ t ∧ t < b) → a + l.length ≤ b ∨ l = []
  | [], a, b, _, _ => .inr rfl
  | x :: l, a, b, hp, h => by
    obtain ⟨h1, h2⟩ := List.pairwise_cons.1 hp
    have hx := h x (by simp)
    rcases asc_len l (x + 1) b h2 (fun t ht => ⟨h1 t ht, (h t (by simp [ht])).2⟩) with h3 | h3
    · left; simp; omega
    · subst h3; left; simp; omega
end Go.Proofs.Ytkpihepaaiofgaa
end
section
namespace Go.Proofs.Ytkpihepaaiofgaa
open Go.RowKit
set_option linter.unusedVariables false
set_option linter.unusedSimpArgs false
set_option maxRecDepth 10000
set_option maxHeartbeats 4000000

def GoodUses (u : List Int) (k : Int) : Prop := (u.length : Int) ≤ k ∧ u.Pairwise (· < ·) ∧ ∀ x ∈ u, 0 ≤ x ∧ x < k
def GoodFund (c : Int) (f : T_api_Fund) : Prop := 0 ≤ f.Day ∧ f.Day ≤ 9 ∧ f.Day ≤ f.Until ∧ f.Until ≤ 20 ∧ 0 ≤ f.Amount ∧ f.Amount ≤ 2 * c ∧ GoodUses f.Uses 3
def GoodBill (c : Int) (b : T_api_Bill) : Prop := 3 ≤ b.Day ∧ b.Day ≤ 12 ∧ 0 ≤ b.Use ∧ b.Use ≤ 2 ∧ 0 ≤ b.Amount ∧ b.Amount ≤ c
structure GoodL (nf nb : Nat) (c : Int) (L : T_api_Ledger) : Prop where
  nf : L.Funds.length ≤ nf
  nb : L.Bills.length ≤ nb
  fund : ∀ f ∈ L.Funds, GoodFund c f
  bill : ∀ b ∈ L.Bills, GoodBill c b
theorem goodUses_push {u : List Int} {k : Int} (h : GoodUses u k) (hk : 0 ≤ k) : GoodUses (u ++ [k]) (k + 1) := by
  obtain ⟨h1, h2, h3⟩ := h
  refine ⟨by simp; omega, ?_, ?_⟩
  · rw [List.pairwise_append]
    refine ⟨h2, by simp, fun a ha b hb => ?_⟩
    have := h3 a ha
    simp at hb
    omega
  · intro x hx
    rcases List.mem_append.1 hx with hx | hx
    · have := h3 x hx; omega
    · simp at hx; omega
theorem goodUses_up {u : List Int} {k : Int} (h : GoodUses u k) : GoodUses u (k + 1) := by
  obtain ⟨h1, h2, h3⟩ := h
  exact ⟨by omega, h2, fun x hx => by have := h3 x hx; omega⟩

theorem uses_l {ρ : Type} (N : Nat) (hN : 1000 < N) (T : Option ρ → Prop) (K : Int → List Int → Option ρ) (hK : ∀ b u, GoodUses u 3 → T (K b u)) (b0 : Int) : T (loop3 (fun rec_30 (use_27 : Int) (b_28 : Int) (b_29 : List Int) => (bif (decide (use_27 < 3)) then (letJ (fun (b_34 : Int) (b_35 : List Int) => (rec_30 (IntKind.i64.wrap (use_27 + 1)) b_34 b_35)) (fun k_36 => ((p_bk_Drum_Rare N (⟨b_28⟩ : T_bk_Drum) 3).bind fun r_39 => (bif (!r_39.1) then ((pushI b_29 ([use_27] : List Int)).bind fun l_41 => (k_36 r_39.2.beat_ l_41)) else (k_36 r_39.2.beat_ b_29))))) else (K b_28 b_29))) N 0 b0 []) := by
  refine loop3_T T (fun k b (u : List Int) => 0 ≤ k ∧ k ≤ 3 ∧ GoodUses u k) (fun k b u => 3 - k.toNat) ?_ N 0 _ [] ⟨by omega, by omega, by simp, by simp, by simp⟩ (by omega)
  rintro rec2 k b2 us ⟨k0, k3, hus⟩ ih2
  by_cases hk : k < 3
  · rw [show decide (k < 3) = true from decide_eq_true hk, cond_true, letJ_eq]
    obtain ⟨q, d6, e⟩ := rare_p N ⟨b2⟩ 3 (by omega)
    rw [e, Option.bind_some]; clear e
    have hln := hus.1
    have hw : IntKind.i64.wrap (k + 1) = k + 1 := w64 (by omega) (by omega)
    have hpu : pushI us [k] = some (us ++ [k]) := pushI_ok (by simp; omega)
    cases q with
    | true =>
      simp only [Bool.not_true, cond_false, hw]
      exact ih2 _ _ _ ⟨by omega, by omega, goodUses_up hus⟩ (by omega)
    | false =>
      simp only [Bool.not_false, cond_true, hw, hpu, Option.bind_some]
      exact ih2 _ _ _ ⟨by omega, by omega, goodUses_push hus k0⟩ (by omega)
  · rw [show decide (k < 3) = false from decide_eq_false hk, cond_false]
    have hk3 : k = 3 := by omega
    subst hk3
    exact hK _ _ hus
theorem funds_l {ρ : Type} (N : Nat) (hN : 1000 < N) (nf : Nat) (c : Int) (hnf : nf ≤ 100) (hc0 : 0 ≤ c) (hc : c ≤ 1000000) (T : Option ρ → Prop) (K : Int → List T_api_Fund → Option ρ) (hK : ∀ b l, l.length ≤ nf → (∀ f ∈ l, GoodFund c f) → T (K b l)) (r b0 : Int) (r0 : 0 ≤ r) (r1 : r ≤ (nf : Int)) : T (loop3 (fun rec_14 (i_11 : Int) (b_12 : Int) (b_13 : List T_api_Fund) => (bif (decide (i_11 > 0)) then ((p_bk_Drum_Roll N (⟨b_12⟩ : T_bk_Drum) 10).bind fun r_18 => ((p_bk_Drum_Any N r_18.2 [(IntKind.i64.wrap (r_18.1 + 4)), 20]).bind fun r_19 => ((p_bk_Drum_Mid N r_19.2 r_18.1 r_19.1).bind fun r_20 => ((p_bk_Drum_Roll N r_20.2 (IntKind.i64.wrap ((IntKind.i64.wrap (2 * c)) + 1))).bind fun r_21 => (letJ (fun (b_22 : Int) (b_23 : List Int) => ((pushI b_13 ([(⟨r_18.1, r_20.1, r_21.1, b_23⟩ : T_api_Fund)] : List T_api_Fund)).bind fun l_42 => (rec_14 (IntKind.i64.wrap (i_11 - 1)) b_22 l_42))) (fun k_24 => (loop3 (fun rec_30 (use_27 : Int) (b_28 : Int) (b_29 : List Int) => (bif (decide (use_27 < 3)) then (letJ (fun (b_34 : Int) (b_35 : List Int) => (rec_30 (IntKind.i64.wrap (use_27 + 1)) b_34 b_35)) (fun k_36 => ((p_bk_Drum_Rare N (⟨b_28⟩ : T_bk_Drum) 3).bind fun r_39 => (bif (!r_39.1) then ((pushI b_29 ([use_27] : List Int)).bind fun l_41 => (k_36 r_39.2.beat_ l_41)) else (k_36 r_39.2.beat_ b_29))))) else (k_24 b_28 b_29))) N 0 r_21.2.beat_ []))))))) else (K b_12 b_13))) N r b0 []) := by
  refine loop3_T T (fun i b (l : List T_api_Fund) => 0 ≤ i ∧ (l.length : Int) + i ≤ (nf : Int) ∧ ∀ f ∈ l, GoodFund c f) (fun i b l => i.toNat) ?_ N r _ [] ⟨r0, by simp; omega, by simp⟩ (by omega)
  rintro rec i b l ⟨i0, hi, hl⟩ ih
  by_cases hp : i > 0
  · rw [show decide (i > 0) = true from decide_eq_true hp, cond_true]
    obtain ⟨day, d2, e, h1, h2⟩ := roll_le N ⟨b⟩ 10 (by omega) (by omega)
    rw [e, Option.bind_some]; clear e
    dsimp only
    rw [w64 (x := day + 4) (by omega) (by omega)]
    obtain ⟨u, d3, e, hu⟩ := any_p N d2 [day + 4, 20] (by simp) (by simp)
    rw [e, Option.bind_some]; clear e
    dsimp only
    have hu : u = day + 4 ∨ u = 20 := by simpa using hu
    obtain ⟨til, d4, e, t0, t1, _⟩ := mid_p N d3 day u (by omega) (by omega) (by omega) (by omega)
    have t1 := t1 (by omega)
    rw [e, Option.bind_some]; clear e
    dsimp only
    rw [w64 (x := 2 * c) (by omega) (by omega), w64 (x := 2 * c + 1) (by omega) (by omega)]
    obtain ⟨am, d5, e, a0, a1⟩ := roll_le N d4 (2 * c + 1) (by omega) (by omega)
    rw [e, Option.bind_some]; clear e
    dsimp only
    rw [letJ_eq]
    refine uses_l N hN T _ (fun b3 us hus => ?_) _
    have hpu : pushI l [(⟨day, til, am, us⟩ : T_api_Fund)] = some (l ++ [⟨day, til, am, us⟩]) := pushI_ok (by simp; omega)
    rw [hpu, Option.bind_some, w64 (x := i - 1) (by omega) (by omega)]
    refine ih _ _ _ ⟨by omega, by simp; omega, ?_⟩ (by omega)
    intro f hf
    rcases List.mem_append.1 hf with hf | hf
    · exact hl f hf
    · obtain rfl := List.mem_singleton.1 hf
      refine ⟨?_, ?_, ?_, ?_, ?_, ?_, hus⟩ <;> dsimp only <;> omega
  · rw [show decide (i > 0) = false from decide_eq_false hp, cond_false]
    exact hK _ _ (by omega) hl
theorem bills_l {ρ : Type} (N : Nat) (hN : 1000 < N) (nb : Nat) (c : Int) (hnb : nb ≤ 100) (hc0 : 0 ≤ c) (hc : c ≤ 1000000) (T : Option ρ → Prop) (K : Int → List T_api_Bill → Option ρ) (hK : ∀ b l, l.length ≤ nb → (∀ f ∈ l, GoodBill c f) → T (K b l)) (r b0 : Int) (r0 : 0 ≤ r) (r1 : r ≤ (nb : Int)) : T (loop3 (fun rec_52 (i_49 : Int) (b_50 : Int) (b_51 : List T_api_Bill) => (bif (decide (i_49 > 0)) then ((p_bk_Drum_Mid N (⟨b_50⟩ : T_bk_Drum) 3 12).bind fun r_56 => ((p_bk_Drum_Roll N r_56.2 3).bind fun r_57 => ((p_bk_Drum_Roll N r_57.2 (IntKind.i64.wrap (c + 1))).bind fun r_58 => ((pushI b_51 ([(⟨r_56.1, r_57.1, r_58.1⟩ : T_api_Bill)] : List T_api_Bill)).bind fun l_60 => (rec_52 (IntKind.i64.wrap (i_49 - 1)) r_58.2.beat_ l_60))))) else (K b_50 b_51))) N r b0 []) := by
  refine loop3_T T (fun i b (l : List T_api_Bill) => 0 ≤ i ∧ (l.length : Int) + i ≤ (nb : Int) ∧ ∀ f ∈ l, GoodBill c f) (fun i b l => i.toNat) ?_ N r _ [] ⟨r0, by simp; omega, by simp⟩ (by omega)
  rintro rec3 j b3 m ⟨j0, hj, hm⟩ ih3
  by_cases hq : j > 0
  · rw [show decide (j > 0) = true from decide_eq_true hq, cond_true]
    obtain ⟨day, d8, e, h1, h2, _⟩ := mid_p N ⟨b3⟩ 3 12 (by omega) (by omega) (by omega) (by omega)
    have h2 := h2 (by omega)
    rw [e, Option.bind_some]; clear e
    dsimp only
    obtain ⟨use, d9, e, u0, u1⟩ := roll_le N d8 3 (by omega) (by omega)
    rw [e, Option.bind_some]; clear e
    dsimp only
    rw [w64 (x := c + 1) (by omega) (by omega)]
    obtain ⟨am, d10, e, a0, a1⟩ := roll_le N d9 (c + 1) (by omega) (by omega)
    rw [e, Option.bind_some]; clear e
    dsimp only
    have hpu : pushI m [(⟨day, use, am⟩ : T_api_Bill)] = some (m ++ [⟨day, use, am⟩]) := pushI_ok (by simp; omega)
    rw [hpu, Option.bind_some, w64 (x := j - 1) (by omega) (by omega)]
    refine ih3 _ _ _ ⟨by omega, by simp; omega, ?_⟩ (by omega)
    intro f hf
    rcases List.mem_append.1 hf with hf | hf
    · exact hm f hf
    · obtain rfl := List.mem_singleton.1 hf
      refine ⟨?_, ?_, ?_, ?_, ?_, ?_⟩ <;> dsimp only <;> omega
  · rw [show decide (j > 0) = false from decide_eq_false hq, cond_false]
    exact hK _ _ (by omega) hm
theorem ledgerOf_p (N : Nat) (hN : 1000 < N) (d : T_bk_Drum) (nf nb : Nat) (c : Int) (hnf : nf ≤ 100) (hnb : nb ≤ 100) (hc0 : 0 ≤ c) (hc : c ≤ 1000000) : ∃ L d', p_bk_LedgerOf N d (nf : Int) (nb : Int) c = some (L, d') ∧ GoodL nf nb c L := by
  unfold p_bk_LedgerOf
  rw [w64 (x := (nf : Int) + 1) (by omega) (by omega)]
  obtain ⟨r, d1, e, r0, r1⟩ := roll_le N d ((nf : Int) + 1) (by omega) (by omega)
  rw [e, Option.bind_some]; clear e
  dsimp only
  rw [letJ_eq]
  refine funds_l N hN nf c hnf hc0 hc (fun x => ∃ L d', x = some (L, d') ∧ GoodL nf nb c L) _ (fun b fs h1 h2 => ?_) r _ r0 (by omega)
  rw [w64 (x := (nb : Int) + 1) (by omega) (by omega)]
  obtain ⟨r2, d7, e, s0, s1⟩ := roll_le N ⟨b⟩ ((nb : Int) + 1) (by omega) (by omega)
  rw [e, Option.bind_some]; clear e
  dsimp only
  rw [letJ_eq]
  refine bills_l N hN nb c hnb hc0 hc (fun x => ∃ L d', x = some (L, d') ∧ GoodL nf nb c L) _ (fun b bs h3 h4 => ?_) r2 _ s0 (by omega)
  exact ⟨_, _, rfl, h1, h3, h2, h4⟩

theorem isDate_p (N : Nat) (n : Int) (h0 : 0 ≤ n) (h1 : n ≤ 3650) : p_coin_isDate N n = some true := by
  unfold p_coin_isDate p_coin_within
  simp [show n ≥ 0 from h0, h1]
theorem isUse_p (N : Nat) (n : Int) (h0 : 0 ≤ n) (h1 : n ≤ 7) : p_coin_isUse N n = some true := by
  unfold p_coin_isUse p_coin_within
  simp [show n ≥ 0 from h0, h1]
theorem isAmount_p (N : Nat) (n : Int) (h0 : 0 ≤ n) (h1 : n ≤ 1000000000) : p_coin_isAmount N n = some true := by
  unfold p_coin_isAmount p_coin_within
  simp [show n ≥ 0 from h0, h1]
theorem checkUses_p (N : Nat) (hN : 1000 < N) (u : List Int) (h : GoodUses u 3) : p_coin_checkUses N u = some 0 := by
  obtain ⟨h1, h2, h3⟩ := h
  unfold p_coin_checkUses
  simp only [letJ_eq]
  refine st1 u.length _ (some 0) ?_ ?_ N 0 (by omega) (by omega)
  · intro rec
    simp only [ltE, cond_false]
  · intro rec i hi
    have hx : u[i]? = some u[i] := List.getElem?_eq_getElem hi
    have hb := h3 _ (List.getElem_mem hi)
    simp only [ltD hi, cond_true, getD_at hx, Option.bind_some, isUse_p N _ hb.1 (by omega), Bool.not_true, cond_false, nadd1 i (by omega)]
    by_cases h0 : i = 0
    · subst h0
      simp
    · have hlt : i - 1 < u.length := by omega
      have hy : u[i - 1]? = some u[i - 1] := List.getElem?_eq_getElem hlt
      have hlt2 := (List.pairwise_iff_getElem.1 h2) (i - 1) i hlt hi (by omega)
      rw [show decide ((i : Int) > 0) = true from decide_eq_true (by omega), cond_true, w64 (x := (i : Int) - 1) (by omega) (by omega), show (i : Int) - 1 = ((i - 1 : Nat) : Int) by omega, getD_at hy, Option.bind_some, show decide (u[i] ≤ u[i - 1]) = false from decide_eq_false (by omega), cond_false]
theorem checkFund_p (N : Nat) (hN : 1000 < N) (c : Int) (hc : c ≤ 1000000) (f : T_api_Fund) (h : GoodFund c f) : p_coin_checkFund N f = some 0 := by
  obtain ⟨h1, h2, h3, h4, h5, h6, h7⟩ := h
  have hl := h7.1
  unfold p_coin_checkFund
  simp only [letJ_eq]
  simp only [isDate_p N f.Day h1 (by omega), isDate_p N f.Until (by omega) (by omega), isAmount_p N f.Amount h5 (by omega), checkUses_p N hN _ h7, Option.bind_some, Bool.not_true, cond_false]
  rw [show decide (f.Day > f.Until) = false from decide_eq_false (by omega), cond_false, show decide (((f.Uses.length : Nat) : Int) > 8) = false from decide_eq_false (by omega), cond_false]
theorem check_p (N : Nat) (hN : 1000 < N) (nf nb : Nat) (c : Int) (hnf : nf ≤ 8) (hnb : nb ≤ 8) (hc : c ≤ 1000000) (L : T_api_Ledger) (h : GoodL nf nb c L) : p_coin_Check N L = some 0 := by
  have g1 := h.nf; have g2 := h.nb
  unfold p_coin_Check
  simp only [letJ_eq]
  rw [show decide (((L.Funds.length : Nat) : Int) > 8) = false from decide_eq_false (by omega), cond_false]
  refine st1 L.Funds.length _ (some 0) ?_ ?_ N 0 (by omega) (by omega)
  · intro rec
    simp only [ltE, cond_false]
    rw [show decide (((L.Bills.length : Nat) : Int) > 8) = false from decide_eq_false (by omega), cond_false]
    refine st1 L.Bills.length _ (some 0) ?_ ?_ N 0 (by omega) (by omega)
    · intro rec
      simp only [ltE, cond_false]
    · intro rec i hi
      have hx : L.Bills[i]? = some L.Bills[i] := List.getElem?_eq_getElem hi
      obtain ⟨b1, b2, b3, b4, b5, b6⟩ := h.bill _ (List.getElem_mem hi)
      simp only [ltD hi, cond_true, getD_at hx, Option.bind_some, isDate_p N _ (show 0 ≤ L.Bills[i].Day by omega) (by omega), isUse_p N _ b3 (by omega), isAmount_p N _ b5 (by omega), Bool.not_true, cond_false, nadd1 i (by omega)]
  · intro rec i hi
    have hx : L.Funds[i]? = some L.Funds[i] := List.getElem?_eq_getElem hi
    simp only [ltD hi, cond_true, getD_at hx, Option.bind_some, checkFund_p N hN c hc _ (h.fund _ (List.getElem_mem hi)), bne_self_eq_false, cond_false, nadd1 i (by omega)]

def come (L : T_api_Ledger) (day : Int) : Int := (L.Funds.map fun f => if f.Day > day then 0 else f.Amount).sum
def paid (L : T_api_Ledger) (day : Int) : Int := (L.Bills.map fun b => if b.Day > day then 0 else b.Amount).sum
end Go.Proofs.Ytkpihepaaiofgaa
end
section
namespace Go.Proofs.Ytkpihepaaiofgaa
open Go.RowKit
set_option linter.unusedVariables false
set_option linter.unusedSimpArgs false
set_option maxRecDepth 10000
set_option maxHeartbeats 4000000

theorem numT {B ρ : Type} (T : Option ρ → Prop) (P : Nat → Prop) (f : B → Nat → B) (r : B) {body : (Int → B → Option ρ) → Int → B → Option ρ} (hend : ∀ rec, T (body rec 0 r)) (hstep : ∀ rec (s t : Nat) b, (∀ N, p_math_bits_TrailingZeros8 N (s : Int) = some (t : Int)) → IntKind.u8.wrap (((BitVec.ofInt (IntKind.bits .u8) (s : Int) &&& BitVec.ofInt (IntKind.bits .u8) (IntKind.u8.wrap ((s : Int) - 1))).toNat : Nat) : Int) = ((s &&& (s - 1) : Nat) : Int) → (((s : Int) != 0) = true) → P t → body rec (s : Int) b = rec ((s &&& (s - 1) : Nat) : Int) (f b t)) : ∀ (N s : Nat) (b : B), s < 256 → (∀ t ∈ bits s, P t) → s < N → (bits s).foldl f b = r → T (loop2 body N (s : Int) b)
  | 0, s, b, _, _, h, _ => absurd h (Nat.not_lt_zero _)
  | N + 1, s, b, hs, hP, hN, hr => by
    show T (body (loop2 body N) (s : Int) b)
    by_cases h0 : s = 0
    · subst h0
      have : b = r := hr
      subst this
      exact hend _
    · obtain ⟨t, _, e2, e3⟩ := tz_p 0 s h0 hs
      have e1 : ∀ N, p_math_bits_TrailingZeros8 N (s : Int) = some (t : Int) := fun N => by
        obtain ⟨t', g1, g2, _⟩ := tz_p N s h0 hs
        rw [g1]
        rw [e2] at g2
        injection g2 with g2
        rw [g2]
      rw [hstep _ s t b e1 e3 (by simp; omega) (hP t (by rw [e2]; simp))]
      refine numT T P f r hend hstep N _ _ (by have := low_lt s h0; omega) (fun u hu => hP u (by rw [e2]; simp [hu])) (by have := low_lt s h0; omega) ?_
      rw [e2] at hr
      exact hr

theorem has_all : (List.range 256).all (fun s => (List.range 8).all fun n => decide ((IntKind.u8.wrap (((BitVec.ofInt (IntKind.bits .u8) (Int.fdiv (s : Int) ((2 : Int) ^ (min (Int.toNat (n : Int)) (IntKind.bits .u8)))) &&& BitVec.ofInt (IntKind.bits .u8) 1).toNat : Nat) : Int) == 1) = s.testBit n)) = true := by kernel_rfl
theorem has_p (N s n : Nat) (hs : s < 256) (hn : n < 8) : p_coin_set_has N (s : Int) (n : Int) = some (s.testBit n) := by
  unfold p_coin_set_has
  have h1 := List.all_eq_true.1 (List.all_eq_true.1 has_all s (by simpa using hs)) n (by simpa using hn)
  simp only [decide_eq_true_eq] at h1
  have h2 : nnI (n : Int) = some () := by unfold nnI; rw [if_neg (by omega)]
  rw [h2]
  simp only [Option.bind_some]
  rw [h1]
def can (F : T_api_Fund) (B : T_api_Bill) : Bool := decide (F.Day ≤ B.Day ∧ B.Day ≤ F.Until ∧ B.Use ∈ F.Uses)
theorem usesOf_p (N : Nat) (hN : 1000 < N) (F : T_api_Fund) (h : GoodUses F.Uses 3) : p_coin_usesOf N F = some ((addAll 0 (F.Uses.map Int.toNat) : Nat) : Int) := by
  obtain ⟨h1, h2, h3⟩ := h
  have e : p_coin_each_coin_set_add N F.Uses 0 = some ((addAll 0 (F.Uses.map Int.toNat) : Nat) : Int) := by
   unfold p_coin_each_coin_set_add
   simp only [letJ_eq]
   exact (st2z F.Uses.length (fun i => ((addAll 0 ((F.Uses.take i).map Int.toNat) : Nat) : Int)) (r := some ((addAll 0 (F.Uses.map Int.toNat) : Nat) : Int)) rfl (by omega) (fun rec => by simp only [ltE, cond_false, List.take_length]) (fun rec i hi => by
    have hx : F.Uses[i]? = some F.Uses[i] := List.getElem?_eq_getElem hi
    have hb := h3 _ (List.getElem_mem hi)
    obtain ⟨n, hn⟩ : ∃ n : Nat, F.Uses[i] = (n : Int) := ⟨F.Uses[i].toNat, by omega⟩
    have hlt : addAll 0 ((F.Uses.take i).map Int.toNat) < 256 := addAll_lt _ _ (by omega) fun t ht => by
      obtain ⟨x, hx, rfl⟩ := List.mem_map.1 ht
      have := h3 x (List.mem_of_mem_take hx)
      omega
    simp only [ltD hi, cond_true, getD_at hx, Option.bind_some, nadd1 i (by omega)]
    rw [hn, add_p N _ n hlt (by omega), Option.bind_some]
    congr 1
    rw [List.take_add_one, hx, hn, List.map_append]
    unfold addAll
    rw [List.foldl_append]
    rfl))
  unfold p_coin_usesOf
  rw [e]
  rfl
theorem canPay_p (N : Nat) (hN : 1000 < N) (c : Int) (F : T_api_Fund) (B : T_api_Bill) (hF : GoodFund c F) (hB : GoodBill c B) : p_coin_canPay N F B = some (can F B) := by
  obtain ⟨h1, h2, h3, h4, h5, h6, h7⟩ := hF
  obtain ⟨b1, b2, b3, b4, b5, b6⟩ := hB
  unfold p_coin_canPay p_coin_within
  by_cases c1 : F.Day ≤ B.Day
  · by_cases c2 : B.Day ≤ F.Until
    · rw [show decide (B.Day ≥ F.Day) = true from decide_eq_true c1, cond_true, Option.bind_some, show decide (B.Day ≤ F.Until) = true from decide_eq_true c2, cond_true, usesOf_p N hN F h7, Option.bind_some]
      obtain ⟨n, hn⟩ : ∃ n : Nat, B.Use = (n : Int) := ⟨B.Use.toNat, by omega⟩
      have hlt : addAll 0 (F.Uses.map Int.toNat) < 256 := addAll_lt _ _ (by omega) fun t ht => by
        obtain ⟨x, hx, rfl⟩ := List.mem_map.1 ht
        have := h7.2.2 x hx
        omega
      rw [hn, has_p N _ n hlt (by omega), Option.bind_some, addAll_bit]
      unfold can
      congr 1
      simp only [Nat.zero_testBit, Bool.false_or]
      apply decide_eq_decide.2
      rw [hn]
      constructor
      · intro h
        obtain ⟨x, hx, e⟩ := List.mem_map.1 h
        have := h7.2.2 x hx
        have : x = (n : Int) := by omega
        subst this
        exact ⟨c1, c2, hx⟩
      · intro h
        exact List.mem_map.2 ⟨_, h.2.2, by simp⟩
    · rw [show decide (B.Day ≥ F.Day) = true from decide_eq_true c1, cond_true, Option.bind_some, show decide (B.Day ≤ F.Until) = false from decide_eq_false c2, cond_false]
      unfold can
      rw [decide_eq_false (by omega)]
  · rw [show decide (B.Day ≥ F.Day) = false from decide_eq_false c1, cond_false, Option.bind_some, cond_false]
    unfold can
    rw [decide_eq_false (by omega)]
def GoodX (L : T_api_Ledger) (B : T_api_Bill) (x : T_coin_claim) : Prop := x.amount_ = B.Amount ∧ ∃ s : Nat, x.payers_ = (s : Int) ∧ s < 256 ∧ ∀ f : Nat, s.testBit f = true ↔ ∃ F, L.Funds[f]? = some F ∧ can F B = true
def GoodC (L : T_api_Ledger) (cs : List T_coin_claim) : Prop := cs.length = L.Bills.length ∧ ∀ (i : Nat) (B : T_api_Bill), L.Bills[i]? = some B → ∃ x : T_coin_claim, cs[i]? = some x ∧ GoodX L B x
theorem claimsOf_p (N : Nat) (hN : 1000 < N) (nf nb : Nat) (c : Int) (hnf : nf ≤ 8) (hnb : nb ≤ 8) (L : T_api_Ledger) (h : GoodL nf nb c L) : ∃ cs, p_coin_claimsOf N L = some cs ∧ GoodC L cs := by
  have g1 := h.nf; have g2 := h.nb
  unfold p_coin_claimsOf
  simp only [letJ_eq]
  refine invZ' L.Bills (fun x => ∃ cs, x = some cs ∧ GoodC L cs) (fun i (cs : List T_coin_claim) => cs.length = i ∧ ∀ (k : Nat) (B : T_api_Bill), k < i → L.Bills[k]? = some B → ∃ x : T_coin_claim, cs[k]? = some x ∧ GoodX L B x) (by omega) ⟨rfl, fun k B hk => by omega⟩ ?_ ?_
  · rintro rec cs ⟨h1, h2⟩
    simp only [ltE, cond_false]
    exact ⟨cs, rfl, h1, fun i B hB => h2 i B (List.getElem?_eq_some_iff.1 hB).1 hB⟩
  · rintro rec i B cs hB hi ⟨h1, h2⟩ ih
    simp only [ltD hi, cond_true, getD_at hB, Option.bind_some]
    have hgB := h.bill B (List.mem_of_getElem? hB)
    refine invZ L.Funds (fun x => ∃ cs, x = some cs ∧ GoodC L cs) (fun j (b : Int) => ∃ s : Nat, b = (s : Int) ∧ s < 256 ∧ ∀ f : Nat, s.testBit f = true ↔ f < j ∧ ∃ F, L.Funds[f]? = some F ∧ can F B = true) (by omega) ⟨0, rfl, by omega, fun f => by simp⟩ ?_ ?_
    · rintro rec2 b ⟨s, rfl, hs, hb⟩
      simp only [ltE, cond_false]
      rw [pushI_ok (by simp; omega), Option.bind_some, nadd1 i (by omega)]
      refine ih _ ⟨by simp; omega, fun k B' hk hB' => ?_⟩
      by_cases hlt : k < i
      · obtain ⟨x, e, g⟩ := h2 k B' hlt hB'
        exact ⟨x, by rw [List.getElem?_append_left (by omega), e], g⟩
      · have : k = i := by omega
        subst this
        rw [hB] at hB'
        injection hB' with hB'
        subst hB'
        refine ⟨_, by rw [← h1, List.getElem?_concat_length], rfl, s, rfl, hs, fun f => (hb f).trans ⟨fun q => q.2, fun q => ⟨?_, q⟩⟩⟩
        obtain ⟨F, hF, _⟩ := q
        exact (List.getElem?_eq_some_iff.1 hF).1
    · rintro rec2 j F b hF hj ⟨s, rfl, hs, hb⟩ ih2
      have hgF := h.fund F (List.mem_of_getElem? hF)
      simp only [ltD hj, cond_true, getD_at hF, Option.bind_some, canPay_p N hN c F B hgF hgB, nadd1 j (by omega)]
      cases hq : can F B with
      | true =>
        rw [cond_true, add_p N s j hs (by omega), Option.bind_some]
        refine ih2 _ ⟨_, rfl, add_lt hs (by omega), fun f => ?_⟩
        rw [Nat.testBit_or, Nat.testBit_two_pow]
        constructor
        · intro q
          simp only [Bool.or_eq_true, decide_eq_true_eq] at q
          rcases q with q | q
          · obtain ⟨q1, q2⟩ := (hb f).1 q
            exact ⟨by omega, q2⟩
          · subst q
            exact ⟨by omega, F, hF, hq⟩
        · rintro ⟨q1, q2⟩
          simp only [Bool.or_eq_true, decide_eq_true_eq]
          by_cases hfj : f = j
          · exact .inr hfj.symm
          · exact .inl ((hb f).2 ⟨by omega, q2⟩)
      | false =>
        rw [cond_false]
        refine ih2 _ ⟨s, rfl, hs, fun f => ?_⟩
        constructor
        · intro q
          obtain ⟨q1, q2⟩ := (hb f).1 q
          exact ⟨by omega, q2⟩
        · rintro ⟨q1, F', q2, q3⟩
          by_cases hfj : f = j
          · subst hfj
            rw [hF] at q2
            injection q2 with q2
            subst q2
            rw [hq] at q3
            cases q3
          · exact (hb f).2 ⟨by omega, F', q2, q3⟩
theorem V8_len (p : T_V8_i64) : p.l.length = 8 := rfl
theorem purseOf_p (N : Nat) (hN : 1000 < N) (L : T_api_Ledger) (h : L.Funds.length ≤ 8) : ∃ p : T_V8_i64, p_coin_purseOf N L = some p ∧ ∀ f : Nat, f < 8 → p.l[f]? = some ((L.Funds[f]?.map (·.Amount)).getD 0) := by
  unfold p_coin_purseOf
  simp only [letJ_eq]
  refine invZ L.Funds (fun x => ∃ p : T_V8_i64, x = some p ∧ ∀ f : Nat, f < 8 → p.l[f]? = some ((L.Funds[f]?.map (·.Amount)).getD 0)) (fun i (z : T_V8_i64) => ∀ f : Nat, f < 8 → z.l[f]? = some (if f < i then (L.Funds[f]?.map (·.Amount)).getD 0 else 0)) (by omega) (fun f hf => ?_) ?_ ?_
  · rw [if_neg (by omega)]
    match f, hf with
    | 0, _ => rfl
    | 1, _ => rfl
    | 2, _ => rfl
    | 3, _ => rfl
    | 4, _ => rfl
    | 5, _ => rfl
    | 6, _ => rfl
    | 7, _ => rfl
  · rintro rec z hz
    simp only [ltE, cond_false]
    refine ⟨z, rfl, fun f hf => ?_⟩
    rw [hz f hf]
    split
    · rfl
    · rw [List.getElem?_eq_none (by omega)]
      rfl
  · rintro rec i F z hF hi hz ih
    simp only [ltD hi, cond_true, getD_at hF, Option.bind_some, nadd1 i (by omega)]
    rw [show idxI (i : Int) 8 = some () by unfold idxI; rw [if_pos (by omega)], Option.bind_some, Int.toNat_natCast]
    refine ih _ fun f hf => ?_
    rw [T_V8_i64.l_ofl _ (by rw [List.length_set]; rfl), List.getElem?_set]
    by_cases hfi : i = f
    · subst hfi
      rw [if_pos rfl, if_pos (by rw [V8_len]; omega), if_pos (by omega), hF]
      rfl
    · rw [if_neg hfi, hz f hf]
      by_cases hlt : f < i
      · rw [if_pos hlt, if_pos (by omega)]
      · rw [if_neg hlt, if_neg (by omega)]

def OkC (cs : List T_coin_claim) : Prop := cs.length ≤ 8 ∧ ∀ x ∈ cs, ∃ s : Nat, x.payers_ = (s : Int) ∧ s < 256
theorem GoodC.ok {L : T_api_Ledger} {cs : List T_coin_claim} (h : GoodC L cs) (hb : L.Bills.length ≤ 8) : OkC cs := by
  refine ⟨by rw [h.1]; exact hb, fun x hx => ?_⟩
  obtain ⟨i, hi⟩ := List.mem_iff_getElem?.1 hx
  have hlt := (List.getElem?_eq_some_iff.1 hi).1
  obtain ⟨y, e, _, s, g1, g2, _⟩ := h.2 i _ (List.getElem?_eq_getElem (show i < L.Bills.length by rw [← h.1]; exact hlt))
  rw [hi] at e
  injection e with e
  subst e
  exact ⟨s, g1, g2⟩
def amt (cs : List T_coin_claim) (t : Nat) : Int := (cs[t]?.map (·.amount_)).getD 0
def pay (cs : List T_coin_claim) (t : Nat) : Nat := (cs[t]?.map (·.payers_.toNat)).getD 0
def lft (p : T_V8_i64) (t : Nat) : Int := p.l[t]?.getD 0
def orAll (cs : List T_coin_claim) (l : List Nat) : Nat := l.foldl (fun b t => b ||| pay cs t) 0
def lackV (cs : List T_coin_claim) (s : Nat) (p : T_V8_i64) : Int := IntKind.i64.wrap ((bits s).foldl (fun b t => IntKind.i64.wrap (b + amt cs t)) 0 - (bits (orAll cs (bits s))).foldl (fun b t => IntKind.i64.wrap (b + lft p t)) 0)
theorem pay_p {cs : List T_coin_claim} (h : OkC cs) {t : Nat} {x : T_coin_claim} (hx : cs[t]? = some x) : x.payers_ = (pay cs t : Int) ∧ pay cs t < 256 := by
  obtain ⟨s, e, hs⟩ := h.2 x (List.mem_of_getElem? hx)
  have : pay cs t = s := by unfold pay; rw [hx]; simp [e]
  rw [this]
  exact ⟨e, hs⟩
theorem orAll_fold (cs : List T_coin_claim) (h : ∀ t, pay cs t < 256) : ∀ (l : List Nat) (a : Nat), a < 256 → l.foldl (fun (b : Int) t => IntKind.u8.wrap (((BitVec.ofInt (IntKind.bits .u8) b ||| BitVec.ofInt (IntKind.bits .u8) (pay cs t : Int)).toNat : Nat) : Int)) (a : Int) = ((l.foldl (fun b t => b ||| pay cs t) a : Nat) : Int) ∧ l.foldl (fun b t => b ||| pay cs t) a < 256
  | [], a, ha => ⟨rfl, ha⟩
  | t :: l, a, ha => by
    have := orAll_fold cs h l (a ||| pay cs t) (Nat.or_lt_two_pow (n := 8) ha (h t))
    simp only [List.foldl_cons]
    rw [or_p a (pay cs t) ha (h t)]
    exact this
theorem orAll_bit (cs : List T_coin_claim) : ∀ (l : List Nat) (a f : Nat), (l.foldl (fun b t => b ||| pay cs t) a).testBit f = true ↔ a.testBit f = true ∨ ∃ t ∈ l, (pay cs t).testBit f = true
  | [], a, f => by simp
  | u :: l, a, f => by
    have := orAll_bit cs l (a ||| pay cs u) f
    simp only [List.foldl_cons, this, Nat.testBit_or, Bool.or_eq_true, List.mem_cons, exists_eq_or_imp]
    exact or_assoc
theorem payAll {cs : List T_coin_claim} (h : OkC cs) (t : Nat) : pay cs t < 256 := by
  cases hx : cs[t]? with
  | none => unfold pay; rw [hx]; simp
  | some x => exact (pay_p h hx).2
theorem sumA_p (N : Nat) (hN : 1000 < N) (cs : List T_coin_claim) (s : Nat) (hs : s < 256) (hb : ∀ t ∈ bits s, t < cs.length) : p_coin_sum_int_coin_set_numbers_1r_coin_claims_amount N (s : Int) cs = some ((bits s).foldl (fun b t => IntKind.i64.wrap (b + amt cs t)) 0) := by
  unfold p_coin_sum_int_coin_set_numbers_1r_coin_claims_amount
  simp only [letJ_eq]
  refine numT (fun x => x = some ((bits s).foldl (fun b t => IntKind.i64.wrap (b + amt cs t)) 0)) (fun t => t < cs.length) (fun b t => IntKind.i64.wrap (b + amt cs t)) _ (fun rec => ?_) (fun rec s t b e1 e2 e3 ht => ?_) N s 0 hs hb (by omega) rfl
  · simp only [bne_self_eq_false, cond_false]
  · have hx : cs[t]? = some cs[t] := List.getElem?_eq_getElem ht
    have ea : p_coin_claims_amount N cs (t : Int) = some (amt cs t) := by
      unfold p_coin_claims_amount amt
      rw [getI_nat, hx]
      rfl
    simp only [e3, cond_true, e1 N, Option.bind_some, ea, e2]
theorem sumP_p (N : Nat) (hN : 1000 < N) (p : T_V8_i64) (s : Nat) (hs : s < 256) : p_coin_sum_int_coin_set_numbers_1r_coin_purse_of N (s : Int) p = some ((bits s).foldl (fun b t => IntKind.i64.wrap (b + lft p t)) 0) := by
  unfold p_coin_sum_int_coin_set_numbers_1r_coin_purse_of
  simp only [letJ_eq]
  refine numT (fun x => x = some ((bits s).foldl (fun b t => IntKind.i64.wrap (b + lft p t)) 0)) (fun t => t < 8) (fun b t => IntKind.i64.wrap (b + lft p t)) _ (fun rec => ?_) (fun rec s t b e1 e2 e3 ht => ?_) N s 0 hs (fun t ht => (mem_bits.1 ht).1) (by omega) rfl
  · simp only [bne_self_eq_false, cond_false]
  · have hx : p.l[t]? = some p.l[t] := List.getElem?_eq_getElem ht
    have ea : p_coin_purse_of N p (t : Int) = some (lft p t) := by
      unfold p_coin_purse_of lft
      rw [show idxI (t : Int) 8 = some () by unfold idxI; rw [if_pos (by omega)], Option.bind_some, Int.toNat_natCast, hx]
      rfl
    simp only [e3, cond_true, e1 N, Option.bind_some, ea, e2]
theorem lack_p (N : Nat) (hN : 1000 < N) (cs : List T_coin_claim) (h : OkC cs) (p : T_V8_i64) (s : Nat) (hs : s < 256) (hb : ∀ t ∈ bits s, t < cs.length) : p_coin_claims_lack N cs (s : Int) p = some (lackV cs s p) := by
  unfold p_coin_claims_lack
  simp only [letJ_eq, show ∀ x, p_coin_set_numbers N x = some x from fun _ => rfl, Option.bind_some]
  obtain ⟨o1, o2⟩ := orAll_fold cs (payAll h) (bits s) 0 (by omega)
  refine numT (fun x => x = some (lackV cs s p)) (fun t => t < cs.length) (fun (b : Int) t => IntKind.u8.wrap (((BitVec.ofInt (IntKind.bits .u8) b ||| BitVec.ofInt (IntKind.bits .u8) (pay cs t : Int)).toNat : Nat) : Int)) _ (fun rec => ?_) (fun rec s t b e1 e2 e3 ht => ?_) N s 0 hs hb (by omega) o1
  · simp only [bne_self_eq_false, cond_false]
    rw [sumA_p N hN cs s hs hb, Option.bind_some, sumP_p N hN p _ o2]
    rfl
  · have hx : cs[t]? = some cs[t] := List.getElem?_eq_getElem ht
    simp only [e3, cond_true, e1 N, Option.bind_some, getD_at hx, (pay_p h hx).1, e2]

def mrec (N : Nat) (cs : List T_coin_claim) (p : T_V8_i64) (bound : Int) : (Int → Int → Int → Int → Option Int) → Int → Int → Int → Int → Option Int := fun rec_35 (begun_30 : Int) (next_31 : Int) (more_32 : Int) (b_33 : Int) => (bif (more_32 == 0) then (letJ (fun (b_52 : Int) => some b_52) (fun k_53 => ((p_coin_claims_lack N cs begun_30 p).bind fun r_56 => (k_53 (if r_56 > b_33 then r_56 else b_33))))) else (letJ (fun (b_58 : Int) => some b_58) (fun k_59 => (loop2 (fun rec_64 (n_62 : Int) (b_63 : Int) => (bif (decide ((IntKind.i64.wrap (n_62 + more_32)) ≤ bound)) then ((p_coin_set_add N begun_30 n_62).bind fun r_68 => (letJ (fun (b_71 : Int) => (rec_64 (IntKind.i64.wrap (n_62 + 1)) b_71)) (fun k_72 => ((rec_35 r_68 (IntKind.i64.wrap (n_62 + 1)) (IntKind.i64.wrap (more_32 - 1)) b_63).bind fun s_69 => ((fun t => k_72 t) s_69))))) else (k_59 b_63))) N next_31 b_33))))
def Most (cs : List T_coin_claim) (p : T_V8_i64) (Q : List Nat → Prop) (s : Nat) (b b' : Int) : Prop := b ≤ b' ∧ (∀ l : List Nat, l.Pairwise (· < ·) → Q l → lackV cs (addAll s l) p ≤ b') ∧ (b' = b ∨ ∃ u, u < 256 ∧ (∀ t ∈ bits u, t < cs.length) ∧ lackV cs u p = b')
theorem rec_m (N : Nat) (hN : 1000 < N) (cs : List T_coin_claim) (h : OkC cs) (p : T_V8_i64) : ∀ (k M s a : Nat) (b : Int), k < M → k ≤ 8 → a ≤ 9 → s < 256 → (∀ t ∈ bits s, t < cs.length) → ∃ b', loop4 (mrec N cs p (cs.length : Int)) M (s : Int) (a : Int) (k : Int) b = some b' ∧ Most cs p (fun l => l.length = k ∧ ∀ t ∈ l, a ≤ t ∧ t < cs.length) s b b'
  | k, 0, s, a, b, hM, _, _, _, _ => absurd hM (Nat.not_lt_zero _)
  | 0, M + 1, s, a, b, hM, _, _, hs, hb => by
    show ∃ b', mrec N cs p (cs.length : Int) (loop4 (mrec N cs p (cs.length : Int)) M) (s : Int) (a : Int) (0 : Int) b = some b' ∧ _
    unfold mrec
    simp only [letJ_eq, beq_self_eq_true, cond_true, lack_p N hN cs h p s hs hb, Option.bind_some]
    refine ⟨_, rfl, ?_, ?_, ?_⟩
    · split <;> omega
    · rintro l _ ⟨hl, _⟩
      have : l = [] := List.length_eq_zero_iff.1 hl
      subst this
      show lackV cs s p ≤ _
      split <;> omega
    · split
      · exact .inr ⟨s, hs, hb, rfl⟩
      · exact .inl rfl
  | k + 1, M + 1, s, a, b, hM, hk, ha, hs, hb => by
    have hc := h.1
    show ∃ b', mrec N cs p (cs.length : Int) (loop4 (mrec N cs p (cs.length : Int)) M) (s : Int) (a : Int) ((k + 1 : Nat) : Int) b = some b' ∧ _
    have IH := fun s' a' b' h1 h2 h3 => rec_m N hN cs h p k M s' a' b' (by omega) (by omega) h1 h2 h3
    generalize hR : loop4 (mrec N cs p (cs.length : Int)) M = R at IH ⊢
    unfold mrec
    simp only [letJ_eq, show ((((k + 1 : Nat) : Int) == 0) = false) by simp; omega, cond_false]
    refine loop2_T (fun x => ∃ b', x = some b' ∧ Most cs p (fun l => l.length = k + 1 ∧ ∀ t ∈ l, a ≤ t ∧ t < cs.length) s b b') (fun n b2 => ∃ a2 : Nat, n = (a2 : Int) ∧ a ≤ a2 ∧ a2 ≤ 9 ∧ Most cs p (fun l => (l.length = k + 1 ∧ ∀ t ∈ l, a ≤ t ∧ t < cs.length) ∧ ∀ t, l.head? = some t → t < a2) s b b2) (fun n b2 => 10 - n.toNat) ?_ N (a : Int) b ⟨a, rfl, by omega, by omega, by omega, ?_, .inl rfl⟩ (by omega)
    · rintro rec n b2 ⟨a2, rfl, h1, h9, h2, h3, h4⟩ ih
      rw [w64 (x := (a2 : Int) + ((k + 1 : Nat) : Int)) (by omega) (by omega)]
      by_cases hle : a2 + (k + 1) ≤ cs.length
      · rw [show decide ((a2 : Int) + ((k + 1 : Nat) : Int) ≤ ((cs.length : Nat) : Int)) = true from decide_eq_true (by omega), cond_true, add_p N s a2 hs (by omega), Option.bind_some, nadd1 a2 (by omega), w64 (x := ((k + 1 : Nat) : Int) - 1) (by omega) (by omega), show ((k + 1 : Nat) : Int) - 1 = (k : Int) by omega]
        obtain ⟨b3, e, q1, q2, q3⟩ := IH (s ||| 2 ^ a2) (a2 + 1) b2 (by omega) (add_lt hs (by omega)) (fun t ht => by
          obtain ⟨t1, t2⟩ := mem_bits.1 ht
          rw [Nat.testBit_or, Nat.testBit_two_pow] at t2
          simp only [Bool.or_eq_true, decide_eq_true_eq] at t2
          rcases t2 with t2 | t2
          · exact hb t (mem_bits.2 ⟨t1, t2⟩)
          · omega)
        rw [e, Option.bind_some]
        refine ih _ _ ⟨a2 + 1, rfl, by omega, by omega, by omega, ?_, ?_⟩ (by omega)
        · rintro l hl ⟨⟨l1, l2⟩, l3⟩
          match l, hl, l1, l2, l3 with
          | t :: r, hl, l1, l2, l3 =>
            obtain ⟨p1, p2⟩ := List.pairwise_cons.1 hl
            have ht := l3 t rfl
            by_cases hta : t < a2
            · have := h3 (t :: r) hl ⟨⟨l1, l2⟩, fun u hu => by simp at hu; omega⟩
              omega
            · have : t = a2 := by omega
              subst this
              exact q2 r p2 ⟨by simpa using l1, fun u hu => ⟨p1 u hu, (l2 u (by simp [hu])).2⟩⟩
        · rcases q3 with q3 | q3
          · rw [q3]; exact h4
          · exact .inr q3
      · rw [show decide ((a2 : Int) + ((k + 1 : Nat) : Int) ≤ ((cs.length : Nat) : Int)) = false from decide_eq_false (by omega), cond_false]
        refine ⟨b2, rfl, h2, ?_, h4⟩
        rintro l hl ⟨l1, l2⟩
        refine h3 l hl ⟨⟨l1, l2⟩, fun t ht => ?_⟩
        match l, hl, l1, l2, ht with
        | u :: r, hl, l1, l2, ht =>
          simp only [List.head?_cons, Option.some.injEq] at ht
          subst ht
          obtain ⟨p1, p2⟩ := List.pairwise_cons.1 hl
          have := asc_len (u :: r) u cs.length hl (fun v hv => by
            rcases List.mem_cons.1 hv with hv | hv
            · subst hv; exact ⟨Nat.le_refl _, (l2 _ (by simp)).2⟩
            · exact ⟨Nat.le_of_lt (p1 v hv), (l2 v (by simp [hv])).2⟩)
          rcases this with this | this
          · omega
          · cases this
    · rintro l hl ⟨⟨l1, l2⟩, l3⟩
      match l, l1, l2, l3 with
      | t :: r, l1, l2, l3 =>
        have := l3 t rfl
        have := (l2 t (by simp)).1
        omega
theorem missing_p (N : Nat) (hN : 1000 < N) (cs : List T_coin_claim) (h : OkC cs) (p : T_V8_i64) : ∃ m, p_coin_claims_missing N cs p = some m ∧ Most cs p (fun l => ∀ t ∈ l, t < cs.length) 0 0 m := by
  have hc := h.1
  unfold p_coin_claims_missing
  simp only [letJ_eq, show ∀ a b, p_coin_setsOf N a b = some (b, a) from fun _ _ => rfl, Option.bind_some]
  rw [nadd1 cs.length (by omega)]
  refine loop2_T (fun x => ∃ m, x = some m ∧ Most cs p (fun l => ∀ t ∈ l, t < cs.length) 0 0 m) (fun y b => ∃ i : Nat, y = (i : Int) ∧ i ≤ cs.length + 1 ∧ Most cs p (fun l => (∀ t ∈ l, t < cs.length) ∧ l.length < i) 0 0 b) (fun y b => 10 - y.toNat) ?_ N 0 0 ⟨0, rfl, by omega, by omega, fun l _ q => absurd q.2 (Nat.not_lt_zero _), .inl rfl⟩ (by omega)
  rintro rec y b ⟨i, rfl, hi, h1, h2, h3⟩ ih
  by_cases hlt : i < cs.length + 1
  · rw [ltD hlt, cond_true]
    obtain ⟨b2, e, q1, q2, q3⟩ := rec_m N hN cs h p i N 0 0 b (by omega) (by omega) (by omega) (by omega) (fun t ht => by simp [bits] at ht)
    have e' := e
    unfold mrec at e'
    simp only [letJ_eq] at e'
    rw [show ((0 : Nat) : Int) = 0 from rfl] at e'
    rw [e', Option.bind_some, nadd1 i (by omega)]
    refine ih _ _ ⟨i + 1, rfl, by omega, by omega, ?_, ?_⟩ (by omega)
    · rintro l hl ⟨l1, l2⟩
      by_cases hli : l.length < i
      · have := h2 l hl ⟨l1, hli⟩
        omega
      · exact q2 l hl ⟨by omega, fun t ht => ⟨Nat.zero_le _, l1 t ht⟩⟩
    · rcases q3 with q3 | q3
      · rw [q3]; exact h3
      · exact .inr q3
  · rw [show decide ((i : Int) < ((cs.length + 1 : Nat) : Int)) = false from decide_eq_false (by omega), cond_false]
    refine ⟨b, rfl, h1, ?_, h3⟩
    intro l hl l1
    refine h2 l hl ⟨l1, ?_⟩
    rcases asc_len l 0 cs.length hl (fun t ht => ⟨Nat.zero_le _, l1 t ht⟩) with q | q
    · omega
    · subst q; simp; omega
end Go.Proofs.Ytkpihepaaiofgaa
end
section
namespace Go.Proofs.Ytkpihepaaiofgaa
open Go.RowKit
set_option linter.unusedVariables false
set_option linter.unusedSimpArgs false
set_option maxRecDepth 10000
set_option maxHeartbeats 4000000

theorem at_p (p : T_V8_i64) (t : Nat) (h : t < 8) : p.l[Int.toNat (t : Int)]? = some (lft p t) := by
  have hx : p.l[t]? = some p.l[t] := List.getElem?_eq_getElem h
  rw [Int.toNat_natCast]
  unfold lft
  rw [hx]
  rfl

theorem bits_len (s : Nat) : (bits s).length ≤ 8 := by
  have := List.length_filter_le (fun t => s.testBit t) (List.range 8)
  simpa [bits] using this
theorem amtAt {nf nb : Nat} {c : Int} {L : T_api_Ledger} (h : GoodL nf nb c L) {cs : List T_coin_claim} (hc : GoodC L cs) {i : Nat} {B : T_api_Bill} (hB : L.Bills[i]? = some B) : amt cs i = B.Amount := by
  obtain ⟨x, e, g, _⟩ := hc.2 i B hB
  unfold amt
  rw [e]
  exact g
theorem lftAt {L : T_api_Ledger} {p : T_V8_i64} (hp : ∀ f : Nat, f < 8 → p.l[f]? = some ((L.Funds[f]?.map (·.Amount)).getD 0)) {f : Nat} (hf : f < 8) : lft p f = (L.Funds[f]?.map (·.Amount)).getD 0 := by
  unfold lft
  rw [hp f hf]
  rfl
end Go.Proofs.Ytkpihepaaiofgaa
end
section
namespace Go.Proofs.Ytkpihepaaiofgaa
open Go.RowKit
set_option linter.unusedVariables false
set_option linter.unusedSimpArgs false
set_option maxRecDepth 10000
set_option maxHeartbeats 4000000
attribute [local simp] ren ren1 AV.plain AV.plain1 AV.clean cleanL cleanI cleanBo cleanSt cleanII KL_bk_Drum KL_api_Fund KL_api_Bill KL_api_Ledger KL_coin_claim KL_V8_i64 KL_api_Span A_bk_Drum C_bk_Drum A_api_Fund C_api_Fund A_api_Bill C_api_Bill A_api_Ledger C_api_Ledger A_coin_claim C_coin_claim A_V8_i64 C_V8_i64 A_api_Span C_api_Span back back1 re re1 List.idxOf? List.findIdx? List.findIdx?.go KB_bk_Drum KB_api_Fund KB_api_Bill KB_api_Ledger KB_coin_claim KB_V8_i64 KB_api_Span fadeS fadeV
def v_br9_Sets (r : (List (List Int))) : AV := .sl (r.map (SV (AV.int .i64))) none
attribute [local simp] v_br9_Sets
def v_br9_Bits (r : Int) : AV := .int .i64 r
attribute [local simp] v_br9_Bits
def p_br9_within (N : Nat) (n_1 : Int) (low_2 : Int) (high_3 : Int) : Option (Bool) := (bif (decide (n_1 ≥ low_2)) then some (decide (n_1 ≤ high_3)) else some false)
def v_br9_within (r : Bool) : AV := .bool r
attribute [local simp] v_br9_within
theorem a_br9_within (n_1 : Int) (low_2 : Int) (high_3 : Int) : [.int .i64 n_1, .int .i64 low_2, .int .i64 high_3].mapM (ren []) = some [.int .i64 n_1, .int .i64 low_2, .int .i64 high_3] := by simp
theorem b_br9_within (r : Bool) (n n2 m : Nat) : back n n2 m (v_br9_within r) = some (v_br9_within r) := by simp
theorem d_br9_within (N : Nat) (n_1 : Int) (low_2 : Int) (high_3 : Int) (r : Bool) (h : p_br9_within N n_1 low_2 high_3 = some r) : Does Try.prog 63 [.int .i64 n_1, .int .i64 low_2, .int .i64 high_3] [] fun v c => v = v_br9_within r ∧ c = [] := by
  unfold p_br9_within at h
  refine Does.ofL comp63 _ _ rfl rfl ?_
  refine Ex.seq ?_
  refine regH 1 [] [0, 1, 2] [] (mkS 15 [(0, .int .i64 n_1), (1, .int .i64 low_2), (2, .int .i64 high_3)]) (⟨[], []⟩) (by kernel_rfl) trivial rfl ?_
  refine Ex.seq ?_
  rcases condI h with ⟨hc_4, h⟩ | ⟨hc_4, h⟩
  · refine regH 9 [(3, .eq (.bool true))] [6] [AV.bool (decide (n_1 ≥ low_2)) = AV.bool true] (mkS 15 [(6, .bool (decide (n_1 ≤ high_3)))]) (⟨[], []⟩) (by kernel_rfl) ⟨congrArg AV.bool hc_4, trivial⟩ rfl ?_
    refine Ex.ret ?_
    obtain rfl := Option.some.inj h
    exact ⟨.inr rfl, .bool (decide (n_1 ≤ high_3)), by kernel_rfl, by kernel_rfl, by kernel_rfl, by kernel_rfl⟩
  · refine regH 9 [(3, .eq (.bool false))] [6] [AV.bool (decide (n_1 ≥ low_2)) = AV.bool false] (mkS 15 [(6, .bool false)]) (⟨[], []⟩) (by kernel_rfl) ⟨congrArg AV.bool hc_4, trivial⟩ rfl ?_
    refine Ex.ret ?_
    obtain rfl := Option.some.inj h
    exact ⟨.inr rfl, .bool false, by kernel_rfl, by kernel_rfl, by kernel_rfl, by kernel_rfl⟩
def p_br9_Can (N : Nat) (f_1 : T_api_Fund) (b_2 : T_api_Bill) : Option (Bool) := (letJ (fun (is_3 : Bool) => (bif is_3 then ((p_br9_within N b_2.Day f_1.Day f_1.Until).bind fun r_20 => some r_20) else some false)) (fun k_4 => (loop2 (fun rec_9 (is_7 : Bool) (i_8 : Int) => (bif (decide (i_8 < ((f_1.Uses.length : Nat) : Int))) then (letJ (fun (is_13 : Bool) => (rec_9 is_13 (IntKind.i64.wrap (i_8 + 1)))) (fun k_14 => (bif is_7 then (k_14 true) else ((getI f_1.Uses i_8).bind fun x_18 => (k_14 (x_18 == b_2.Use)))))) else (k_4 is_7))) N false 0)))
def v_br9_Can (r : Bool) : AV := .bool r
attribute [local simp] v_br9_Can
theorem a_br9_Can (f_1 : T_api_Fund) (b_2 : T_api_Bill) : [(A_api_Fund f_1), (A_api_Bill b_2)].mapM (ren []) = some [(A_api_Fund f_1), (A_api_Bill b_2)] := by simp
theorem b_br9_Can (r : Bool) (n n2 m : Nat) : back n n2 m (v_br9_Can r) = some (v_br9_Can r) := by simp
theorem d_br9_Can (N : Nat) (f_1 : T_api_Fund) (b_2 : T_api_Bill) (r : Bool) (h : p_br9_Can N f_1 b_2 = some r) : Does Try.prog 38 [(A_api_Fund f_1), (A_api_Bill b_2)] [] fun v c => v = v_br9_Can r ∧ c = [] := by
  unfold p_br9_Can at h
  refine Does.ofL comp38 _ _ rfl rfl ?_
  refine Ex.seq ?_
  refine regH 3 [] [2, 3] [] (mkS 35 [(2, .ptr 0 0), (3, .ptr 1 0)]) (⟨[(C_api_Fund f_1), (C_api_Bill b_2)], []⟩) (by kernel_rfl) trivial rfl ?_
  refine Ex.seq ?_
  refine regH 1 [] [2, 3, 5] [] (mkS 35 [(2, .ptr 0 0), (3, .ptr 1 0), (5, .bool false)]) (⟨[(C_api_Fund f_1), (C_api_Bill b_2)], []⟩) (by kernel_rfl) trivial rfl ?_
  refine Ex.seq ?_
  refine Ex.seq ?_
  refine regH 1 [] [2, 3, 5, 6] [] (mkS 35 [(2, .ptr 0 0), (3, .ptr 1 0), (5, .bool false), (6, .int .i64 0)]) (⟨[(C_api_Fund f_1), (C_api_Bill b_2)], []⟩) (by kernel_rfl) trivial rfl ?_
  obtain ⟨K_5, hK_6, h⟩ := letE h
  refine Ex.blockJ (fun a S => ∃ (is_3 : Bool), K_5 is_3 = some r ∧ a = mkS 35 [(2, .ptr 0 0), (3, .ptr 1 0), (5, .bool is_3)] ∧ S = ⟨[(C_api_Fund f_1), (C_api_Bill b_2)], []⟩) ?_ ?_
  · obtain ⟨B_10, hB_11, h⟩ := loop2I h
    refine Ex.loopF (fun k a S => ∃ (is_7 : Bool), ∃ (i_8 : Int), loop2 B_10 k is_7 i_8 = some r ∧ a = mkS 35 [(2, .ptr 0 0), (3, .ptr 1 0), (5, .bool is_7), (6, .int .i64 i_8)] ∧ S = ⟨[(C_api_Fund f_1), (C_api_Bill b_2)], []⟩) N ⟨_, _, Forgets.refl _ _ _, false, 0, h, rfl, rfl⟩ ?_
    rintro k a S ⟨is_7, i_8, h, rfl, rfl⟩
    cases k with
    | zero => exact (loop2Z h).elim
    | succ k =>
      replace h := loop2S h hB_11
      refine Ex.seq ?_
      refine Ex.seq ?_
      refine regH 5 [(3, .eq (.int .i64 ((f_1.Uses.length : Nat) : Int)))] [2, 3, 5, 6, 11] [AV.int .i64 (((f_1.Uses.map (AV.int .i64)).length : Nat) : Int) = AV.int .i64 ((f_1.Uses.length : Nat) : Int)] (mkS 35 [(2, .ptr 0 0), (3, .ptr 1 0), (5, .bool is_7), (6, .int .i64 i_8), (11, .bool (decide (i_8 < ((f_1.Uses.length : Nat) : Int))))]) (⟨[(C_api_Fund f_1), (C_api_Bill b_2)], []⟩) (by kernel_rfl) ⟨lenM _ _, trivial⟩ rfl ?_
      rcases condI h with ⟨hc_12, h⟩ | ⟨hc_12, h⟩
      · refine Ex.condT _ rfl hc_12 ?_
        refine Ex.skip ?_
        refine Ex.seq ?_
        obtain ⟨K_15, hK_16, h⟩ := letE h
        refine Ex.blockJ (fun a S => ∃ (is_13 : Bool), K_15 is_13 = some r ∧ a = mkS 35 [(2, .ptr 0 0), (3, .ptr 1 0), (5, .bool is_13), (6, .int .i64 i_8)] ∧ S = ⟨[(C_api_Fund f_1), (C_api_Bill b_2)], []⟩) ?_ ?_
        · rcases condI h with ⟨hc_17, h⟩ | ⟨hc_17, h⟩
          · refine dregX (noClr_ok _) [(1, .eq (.bool true))] [] [2, 3, 5, 6] [AV.bool is_7 = AV.bool true] [] (mkS 35 [(2, .ptr 0 0), (3, .ptr 1 0), (5, .bool is_7), (6, .int .i64 i_8), (11, .bool (decide (i_8 < ((f_1.Uses.length : Nat) : Int)))), (14, .bool is_7), (15, .bool true), (16, .tup []), (17, .tup []), (18, .tup []), (19, .tup []), (20, .tup []), (21, .tup []), (22, .tup [])]) (mkS 35 [(2, .ptr 0 0), (3, .ptr 1 0), (5, .bool true), (6, .int .i64 i_8)]) (by kernel_rfl) (by kernel_rfl) ⟨congrArg AV.bool hc_17, trivial⟩ (by kernel_rfl) trivial ?_
            (try simp only [reduceCtorEq, AEx.ex.injEq, Nat.reduceEqDiff, if_true, if_false])
            exact ⟨_, _, Forgets.refl _ _ _, true, h, rfl, rfl⟩
          · obtain ⟨x_18, hx_18, h⟩ := Option.bind_eq_some_iff.1 h
            refine Ex.drawE (a1 := mkS 35 [(2, .ptr 0 0), (3, .ptr 1 0), (5, .bool is_7), (6, .int .i64 i_8), (11, .bool (decide (i_8 < ((f_1.Uses.length : Nat) : Int)))), (14, .bool is_7), (15, .bool false), (16, .ptr 0 3), (17, .sl (f_1.Uses.map (AV.int .i64)) none), (18, .int .i64 i_8), (19, .rop [.int .i64 x_18]), (20, .int .i64 x_18), (21, .ptr 1 1), (22, .int .i64 b_2.Use)]) (noClr_ok _) [] [] [] ?_ ?_
            · refine drS [0, 1] 9 [(1, .eq (.bool false)), (5, .rop [.int .i64 x_18])] [AV.bool is_7 = AV.bool false, LGet (f_1.Uses.map (AV.int .i64)) i_8 1 [.int .i64 x_18]] (mkS 35 [(2, .ptr 0 0), (3, .ptr 1 0), (5, .bool is_7), (6, .int .i64 i_8), (11, .bool (decide (i_8 < ((f_1.Uses.length : Nat) : Int)))), (14, .bool is_7), (15, .bool false), (16, .ptr 0 3), (17, .sl (f_1.Uses.map (AV.int .i64)) none), (18, .int .i64 i_8), (19, .rop [.int .i64 x_18]), (20, .int .i64 x_18), (21, .ptr 1 1), (22, .int .i64 b_2.Use)]) (by simp) (by kernel_rfl) ⟨congrArg AV.bool hc_17, LGet.of hx_18 rfl, trivial⟩ (by kernel_rfl) ?_
              exact DrO.nil rfl
            · dsimp only [List.getLastD_cons, List.getLastD_nil]
              refine runH 3 [] [2, 3, 5, 6] [] (mkS 35 [(2, .ptr 0 0), (3, .ptr 1 0), (5, .bool (x_18 == b_2.Use)), (6, .int .i64 i_8)]) (⟨[(C_api_Fund f_1), (C_api_Bill b_2)], []⟩) (by kernel_rfl) trivial ?_
              refine ExO.nil ?_
              (try simp only [reduceCtorEq, AEx.ex.injEq, Nat.reduceEqDiff, if_true, if_false])
              exact ⟨_, _, Forgets.refl _ _ _, (x_18 == b_2.Use), h, rfl, rfl⟩
        · rintro a S ⟨is_13, h, rfl, rfl⟩
          subst hK_16
          refine regH 3 [] [2, 3, 5, 6] [] (mkS 35 [(2, .ptr 0 0), (3, .ptr 1 0), (5, .bool is_13), (6, .int .i64 (IntKind.i64.wrap (i_8 + 1)))]) (⟨[(C_api_Fund f_1), (C_api_Bill b_2)], []⟩) (by kernel_rfl) trivial rfl ?_
          dsimp only
          exact ⟨_, _, Forgets.refl _ _ _, k, Nat.lt_succ_self k, is_13, (IntKind.i64.wrap (i_8 + 1)), h, rfl, rfl⟩
      · refine Ex.condF _ rfl hc_12 ?_
        refine Ex.exit ?_
        (try simp only [reduceCtorEq, AEx.ex.injEq, Nat.reduceEqDiff, if_true, if_false])
        exact ⟨_, _, forgetK [2, 3, 5], is_7, h, rfl, rfl⟩
  · rintro a S ⟨is_3, h, rfl, rfl⟩
    subst hK_6
    refine Ex.seq ?_
    rcases condI h with ⟨hc_19, h⟩ | ⟨hc_19, h⟩
    · obtain ⟨r_20, hr_20, h⟩ := Option.bind_eq_some_iff.1 h
      refine Ex.reg ?_
      refine runH 8 [(1, .eq (.bool true))] [26, 28, 30, 32] [AV.bool is_3 = AV.bool true] (mkS 35 [(26, .bool true), (28, .int .i64 b_2.Day), (30, .int .i64 f_1.Day), (32, .int .i64 f_1.Until)]) (⟨[(C_api_Fund f_1), (C_api_Bill b_2)], []⟩) (by kernel_rfl) ⟨congrArg AV.bool hc_19, trivial⟩ ?_
      refine ExO.callL [] [.int .i64 b_2.Day, .int .i64 f_1.Day, .int .i64 f_1.Until] rfl rfl (a_br9_within b_2.Day f_1.Day f_1.Until) rfl rfl (d_br9_within N b_2.Day f_1.Day f_1.Until r_20 hr_20) (b_br9_within _ _ _ _) rfl ?_
      refine runH 2 [] [4] [] (mkS 35 [(4, .bool r_20)]) (⟨[(C_api_Fund f_1), (C_api_Bill b_2)], []⟩) (by kernel_rfl) trivial ?_
      refine ExO.nil ?_
      refine Ex.ret ?_
      obtain rfl := Option.some.inj h
      exact ⟨.inr rfl, .bool r_20, by kernel_rfl, by kernel_rfl, by kernel_rfl, by kernel_rfl⟩
    · refine regH 11 [(1, .eq (.bool false))] [4] [AV.bool is_3 = AV.bool false] (mkS 35 [(4, .bool false)]) (⟨[(C_api_Fund f_1), (C_api_Bill b_2)], []⟩) (by kernel_rfl) ⟨congrArg AV.bool hc_19, trivial⟩ rfl ?_
      refine Ex.ret ?_
      obtain rfl := Option.some.inj h
      exact ⟨.inr rfl, .bool false, by kernel_rfl, by kernel_rfl, by kernel_rfl, by kernel_rfl⟩
def v_br9_Pays (r : Bool) : AV := .bool r
attribute [local simp] v_br9_Pays
def v_br9_Slack (r : Int) : AV := .int .i64 r
attribute [local simp] v_br9_Slack
def v_bl9_CoinShort (r : Bool) : AV := .bool r
attribute [local simp] v_bl9_CoinShort
end Go.Proofs.Ytkpihepaaiofgaa
end
section
namespace Go.Proofs.Ytkpihepaaiofgaa
open Go.RowKit
set_option linter.unusedVariables false
set_option linter.unusedSimpArgs false
set_option maxRecDepth 10000
set_option maxHeartbeats 4000000

def up (l : List Nat) : List Int := l.map fun (t : Nat) => (t : Int)

theorem canRef_p (N : Nat) (hN : 1000 < N) (c : Int) (F : T_api_Fund) (B : T_api_Bill) (hF : GoodFund c F) : p_br9_Can N F B = some (can F B) := by
  obtain ⟨h1, h2, h3, h4, h5, h6, h7, _⟩ := hF
  unfold p_br9_Can
  simp only [letJ_eq]
  refine invZ' F.Uses (fun x => x = some (can F B)) (fun i b => b = decide (B.Use ∈ F.Uses.take i)) (by omega) (by simp) (fun rec b hb => ?_) (fun rec i x b hx hi hb ih => ?_)
  · simp only [ltE, cond_false]
    rw [List.take_length] at hb
    unfold can p_br9_within
    by_cases hu : B.Use ∈ F.Uses
    · rw [hb, decide_eq_true hu, cond_true]
      by_cases c1 : B.Day ≥ F.Day
      · rw [decide_eq_true c1, cond_true, Option.bind_some]
        congr 1
        apply decide_eq_decide.2
        exact ⟨fun q => ⟨c1, q, hu⟩, fun q => q.2.1⟩
      · rw [decide_eq_false c1, cond_false, Option.bind_some, decide_eq_false (fun q => c1 q.1)]
    · rw [hb, decide_eq_false hu, cond_false, decide_eq_false (fun q => hu q.2.2)]
  · simp only [ltD hi, cond_true, getD_at hx, Option.bind_some, nadd1 i (by omega)]
    have ht : F.Uses.take (i + 1) = F.Uses.take i ++ [x] := by rw [List.take_add_one, hx]; rfl
    cases b with
    | true =>
      rw [cond_true]
      refine ih _ ?_
      have : B.Use ∈ F.Uses.take i := by simpa using hb
      rw [ht, decide_eq_true (List.mem_append_left _ this)]
    | false =>
      rw [cond_false]
      refine ih _ ?_
      have : B.Use ∉ F.Uses.take i := by simpa using hb
      rw [ht]
      by_cases hq : x = B.Use
      · subst hq; simp
      · have : (x == B.Use) = false := by simpa using hq
        rw [this]
        symm
        apply decide_eq_false
        intro hm
        rcases List.mem_append.1 hm with hm | hm
        · contradiction
        · exact hq (List.mem_singleton.1 hm).symm
theorem sum_range_ext (g : Nat → Int) (a : Nat) (hz : ∀ j, a ≤ j → g j = 0) : ∀ b, a ≤ b → ((List.range b).map g).sum = ((List.range a).map g).sum
  | 0, h => by
    have : a = 0 := by omega
    subst this; rfl
  | b + 1, h => by
    by_cases he : a = b + 1
    · rw [he]
    · rw [List.range_succ, List.map_append, List.sum_append, sum_range_ext g a hz b (by omega)]
      simp [hz b (by omega)]
theorem sum_succ (g : Nat → Int) (i : Nat) : ((List.range (i + 1)).map g).sum = ((List.range i).map g).sum + g i := by
  rw [List.range_succ, List.map_append, List.sum_append]
  simp

def lacks (cs : List T_coin_claim) (p : T_V8_i64) (s : Nat) (l : List Nat) : Bool := decide (lackV cs (addAll s l) p > 0)
def hit (s : Nat) : Option (List Nat) → Unit ⊕ Int
  | none => .inl ()
  | some l => .inr ((addAll s l : Nat) : Int)
end Go.Proofs.Ytkpihepaaiofgaa
end
section
namespace Go.Proofs.Ytkpihepaaiofgaa
open Go.RowKit
set_option linter.unusedVariables false
set_option linter.unusedSimpArgs false
set_option maxRecDepth 10000
set_option maxHeartbeats 4000000

theorem bits_asc (s : Nat) : (bits s).Pairwise (· < ·) := List.Pairwise.filter _ List.pairwise_lt_range
end Go.Proofs.Ytkpihepaaiofgaa
end
section
namespace Go.Proofs.Ytkpihepaaiofgaa
open Go.RowKit
set_option linter.unusedVariables false
set_option linter.unusedSimpArgs false
set_option maxRecDepth 10000
set_option maxHeartbeats 4000000

def S8 (Q : Nat → Bool) (g : Nat → Int) : Int := ((List.range 8).map fun t => if Q t then g t else 0).sum
theorem sum_upd (h h' : Nat → Int) (t : Nat) (off : ∀ f, f ≠ t → h' f = h f) : ∀ m, t < m → ((List.range m).map h').sum = ((List.range m).map h).sum + (h' t - h t)
  | 0, ht => absurd ht (Nat.not_lt_zero _)
  | m + 1, ht => by
    rw [sum_succ, sum_succ]
    by_cases he : t = m
    · subst he
      have e : ((List.range t).map h').sum = ((List.range t).map h).sum := by
        congr 1
        refine List.map_congr_left fun f hf => ?_
        rw [List.mem_range] at hf
        exact off f (by omega)
      rw [e]
      omega
    · rw [sum_upd h h' t off m (by omega), off m (by omega)]
      omega
theorem sum_shift (h : Nat → Int) (i : Nat) : ∀ m, ((List.range m).map fun t => h (t + i)).sum + ((List.range i).map h).sum = ((List.range (m + i)).map h).sum
  | 0 => by simp
  | m + 1 => by
    have ih := sum_shift h i m
    rw [sum_succ, show m + 1 + i = (m + i) + 1 by omega, sum_succ]
    omega
theorem S8_le {Q Q' : Nat → Bool} {g g' : Nat → Int} (h : ∀ f, f < 8 → (if Q f then g f else 0) ≤ (if Q' f then g' f else 0)) : S8 Q g ≤ S8 Q' g' := by
  refine sum_le _ _ _ fun f hf => h f ?_
  rwa [List.mem_range] at hf
theorem S8_eq {Q Q' : Nat → Bool} {g g' : Nat → Int} (h : ∀ f, f < 8 → (if Q f then g f else 0) = (if Q' f then g' f else 0)) : S8 Q g = S8 Q' g' := by
  unfold S8
  congr 1
  refine List.map_congr_left fun f hf => h f ?_
  rwa [List.mem_range] at hf
theorem S8_mono {Q Q' : Nat → Bool} {g : Nat → Int} (h : ∀ f, f < 8 → Q f = true → Q' f = true) (h0 : ∀ f, f < 8 → 0 ≤ g f) : S8 Q g ≤ S8 Q' g := by
  refine S8_le fun f hf => ?_
  have := h0 f hf
  cases h1 : Q f with
  | true => rw [h f hf h1]; simp
  | false => cases Q' f <;> simp <;> omega
theorem sum_z0 {α : Type} : ∀ l : List α, (l.map fun _ => (0 : Int)).sum = 0
  | [] => rfl
  | x :: l => by rw [List.map_cons, List.sum_cons, sum_z0 l]; rfl
theorem S8_none (g : Nat → Int) : S8 (fun _ => false) g = 0 := by
  have e : (fun t => if (false : Bool) = true then g t else 0) = fun _ => (0 : Int) := by funext t; simp
  unfold S8
  rw [e]
  exact sum_z0 _
theorem S8_mod (Q Q' : Nat → Bool) (g : Nat → Int) : S8 (fun f => Q f || Q' f) g + S8 (fun f => Q f && Q' f) g = S8 Q g + S8 Q' g := by
  unfold S8
  rw [← sum_add, ← sum_add]
  congr 1
  refine List.map_congr_left fun f _ => ?_
  cases h1 : Q f <;> cases h2 : Q' f <;> simp [h1, h2]
theorem S8_upd {Q : Nat → Bool} {g g' : Nat → Int} {t : Nat} (ht : t < 8) (off : ∀ f, f ≠ t → g' f = g f) : S8 Q g' = S8 Q g + (if Q t then g' t - g t else 0) := by
  unfold S8
  rw [sum_upd (fun f => if Q f then g f else 0) (fun f => if Q f then g' f else 0) t (fun f hf => by simp only [off f hf]) 8 ht]
  cases Q t <;> simp
theorem S8_ins {Q Q' : Nat → Bool} {g : Nat → Int} {t : Nat} (ht : t < 8) (off : ∀ f, f ≠ t → Q' f = Q f) : S8 Q' g = S8 Q g + ((if Q' t then g t else 0) - (if Q t then g t else 0)) := by
  unfold S8
  exact sum_upd (fun f => if Q f then g f else 0) (fun f => if Q' f then g f else 0) t (fun f hf => by simp only [off f hf]) 8 ht
theorem S8_bits (s : Nat) (g : Nat → Int) : ((bits s).map g).sum = S8 (fun t => s.testBit t) g := by
  unfold bits S8
  rw [sum_filter]
theorem S8_nonneg {Q : Nat → Bool} {g : Nat → Int} (h0 : ∀ f, f < 8 → 0 ≤ g f) : 0 ≤ S8 Q g := by
  rw [← S8_none g]
  exact S8_mono (fun f _ h => by cases h) h0

def pset (cs : List T_coin_claim) (T : Nat → Bool) (f : Nat) : Bool := (List.range 8).any fun t => T t && (pay cs t).testBit f
theorem pset_iff {cs : List T_coin_claim} {T : Nat → Bool} {f : Nat} : pset cs T f = true ↔ ∃ t, t < 8 ∧ T t = true ∧ (pay cs t).testBit f = true := by
  unfold pset
  simp [List.any_eq_true]
def A8 (cs : List T_coin_claim) (T : Nat → Bool) : Int := S8 T (amt cs)
def B8 (p : T_V8_i64) (Q : Nat → Bool) : Int := S8 Q (lft p)
def SmallC (cs : List T_coin_claim) : Prop := ∀ t, 0 ≤ amt cs t ∧ amt cs t ≤ 2000000
def SmallP (p : T_V8_i64) : Prop := ∀ f, 0 ≤ lft p f ∧ lft p f ≤ 2000000
theorem lackV_8 {cs : List T_coin_claim} {p : T_V8_i64} (ha : SmallC cs) (hl : SmallP p) (s : Nat) : lackV cs s p = A8 cs (fun t => s.testBit t) - B8 p (pset cs fun t => s.testBit t) ∧ A8 cs (fun t => s.testBit t) ≤ 16000000 := by
  have l1 := bits_len s
  have l2 := bits_len (orAll cs (bits s))
  have s1 := sum_bnd (amt cs) 2000000 (by omega) (bits s) (fun t _ => ha t)
  have s2 := sum_bnd (lft p) 2000000 (by omega) (bits (orAll cs (bits s))) (fun t _ => hl t)
  have e1 : A8 cs (fun t => s.testBit t) = ((bits s).map (amt cs)).sum := (S8_bits s _).symm
  have e2 : B8 p (pset cs fun t => s.testBit t) = ((bits (orAll cs (bits s))).map (lft p)).sum := by
    rw [S8_bits]
    refine S8_eq fun f hf => ?_
    have : pset cs (fun t => s.testBit t) f = (orAll cs (bits s)).testBit f := by
      apply Bool.eq_iff_iff.2
      rw [pset_iff]
      constructor
      · rintro ⟨t, h1, h2, h3⟩
        exact (orAll_bit cs _ 0 f).2 (.inr ⟨t, mem_bits.2 ⟨h1, h2⟩, h3⟩)
      · intro h
        rcases (orAll_bit cs _ 0 f).1 h with hb | ⟨t, ht, hb⟩
        · simp at hb
        · obtain ⟨t1, t2⟩ := mem_bits.1 ht
          exact ⟨t, t1, t2, hb⟩
    rw [this]
  rw [e1, e2]
  refine ⟨?_, by omega⟩
  unfold lackV
  rw [foldSum (amt cs) 2000000 (by omega) (bits s) 0 (fun t _ => by have := ha t; omega) (by omega) (by omega), foldSum (lft p) 2000000 (by omega) (bits (orAll cs (bits s))) 0 (fun t _ => by have := hl t; omega) (by omega) (by omega), w64 (by omega) (by omega)]
  omega
def From (cs : List T_coin_claim) (i : Nat) (T : Nat → Bool) : Prop := ∀ t, T t = true → i ≤ t ∧ t < cs.length
theorem amt_drop (cs : List T_coin_claim) (i t : Nat) : amt (cs.drop i) t = amt cs (t + i) := by
  unfold amt
  rw [List.getElem?_drop, Nat.add_comm]
theorem pay_drop (cs : List T_coin_claim) (i t : Nat) : pay (cs.drop i) t = pay cs (t + i) := by
  unfold pay
  rw [List.getElem?_drop, Nat.add_comm]
theorem A8_drop {cs : List T_coin_claim} (h8 : cs.length ≤ 8) {i : Nat} {T : Nat → Bool} (hT : From cs i T) : A8 (cs.drop i) (fun t => T (t + i)) = A8 cs T := by
  have e : ((List.range 8).map fun t => if T (t + i) then amt cs (t + i) else 0).sum + ((List.range i).map fun t => if T t then amt cs t else 0).sum = ((List.range (8 + i)).map fun t => if T t then amt cs t else 0).sum := sum_shift (fun t => if T t then amt cs t else 0) i 8
  have z : ((List.range i).map fun t => if T t then amt cs t else 0).sum = 0 := by
    have : ((List.range i).map fun t => if T t then amt cs t else 0) = (List.range i).map fun _ => (0 : Int) := by
      refine List.map_congr_left fun t ht => ?_
      rw [List.mem_range] at ht
      cases hq : T t with
      | false => rfl
      | true => have := hT t hq; omega
    rw [this]
    exact sum_z0 _
  have x : ((List.range (8 + i)).map fun t => if T t then amt cs t else 0).sum = ((List.range 8).map fun t => if T t then amt cs t else 0).sum := sum_range_ext (fun t => if T t then amt cs t else 0) 8 (fun t ht => by
    cases hq : T t with
    | false => simp [hq]
    | true => have := hT t hq; omega) (8 + i) (by omega)
  unfold A8 S8
  simp only [amt_drop]
  omega
theorem pset_drop {cs : List T_coin_claim} (h8 : cs.length ≤ 8) {i : Nat} {T : Nat → Bool} (hT : From cs i T) (f : Nat) : pset (cs.drop i) (fun t => T (t + i)) f = pset cs T f := by
  apply Bool.eq_iff_iff.2
  rw [pset_iff, pset_iff]
  constructor
  · rintro ⟨t, h1, h2, h3⟩
    rw [pay_drop] at h3
    have := hT _ h2
    exact ⟨t + i, by omega, h2, h3⟩
  · rintro ⟨t, h1, h2, h3⟩
    have := hT _ h2
    refine ⟨t - i, by omega, ?_, ?_⟩
    · simpa [show t - i + i = t by omega] using h2
    · rw [pay_drop, show t - i + i = t by omega]; exact h3
theorem B8_congr {p : T_V8_i64} {Q Q' : Nat → Bool} (h : ∀ f, Q f = Q' f) : B8 p Q = B8 p Q' := by
  have : Q = Q' := funext h
  rw [this]
theorem missing_8 (N : Nat) (hN : 1000 < N) (cs : List T_coin_claim) (h : OkC cs) (ha : SmallC cs) (i : Nat) (p : T_V8_i64) (hl : SmallP p) : ∃ m, p_coin_claims_missing N (cs.drop i) p = some m ∧ 0 ≤ m ∧ m ≤ 16000000 ∧ (∀ T, From cs i T → A8 cs T - B8 p (pset cs T) ≤ m) ∧ ∃ T, From cs i T ∧ A8 cs T - B8 p (pset cs T) = m := by
  have h8 := h.1
  have hok : OkC (cs.drop i) := ⟨by simp; omega, fun x hx => h.2 x (List.mem_of_mem_drop hx)⟩
  have had : SmallC (cs.drop i) := fun t => by rw [amt_drop]; exact ha _
  obtain ⟨m, e, h0, h1, h2⟩ := missing_p N hN (cs.drop i) hok p
  have key : ∀ T, From cs i T → A8 cs T - B8 p (pset cs T) ≤ m := fun T hT => by
    let l := (List.range (cs.drop i).length).filter fun t => T (t + i)
    have hq := h1 l (List.Pairwise.filter _ List.pairwise_lt_range) (fun t ht => by
      have := (List.mem_filter.1 ht).1
      rwa [List.mem_range] at this)
    have hb : ∀ t, (addAll 0 l).testBit t = T (t + i) := fun t => by
      rw [addAll_bit]
      simp only [Nat.zero_testBit, Bool.false_or]
      apply Bool.eq_iff_iff.2
      simp only [decide_eq_true_eq, l, List.mem_filter, List.mem_range, List.length_drop]
      constructor
      · exact fun q => q.2
      · intro q
        have := hT _ q
        exact ⟨by omega, q⟩
    rw [(lackV_8 had hl _).1] at hq
    have : (fun t => (addAll 0 l).testBit t) = fun t => T (t + i) := funext hb
    rw [this, A8_drop h8 hT, B8_congr (pset_drop h8 hT)] at hq
    exact hq
  have hnone : From cs i (fun _ => false) := fun t ht => by cases ht
  have zA : A8 cs (fun _ => false) = 0 := S8_none _
  have zP : ∀ f, pset cs (fun _ => false) f = false := fun f => by
    cases hq : pset cs (fun _ => false) f with
    | false => rfl
    | true => obtain ⟨t, _, ht, _⟩ := pset_iff.1 hq; cases ht
  have zB : B8 p (pset cs fun _ => false) = 0 := by
    rw [B8_congr zP]
    exact S8_none _
  rcases h2 with h2 | ⟨u, u1, u2, u3⟩
  · exact ⟨m, e, h0, by omega, key, fun _ => false, hnone, by omega⟩
  · let T : Nat → Bool := fun t => decide (i ≤ t) && u.testBit (t - i) && decide (t < cs.length)
    have hT : From cs i T := fun t ht => by
      simp only [T, Bool.and_eq_true, decide_eq_true_eq] at ht
      exact ⟨ht.1.1, ht.2⟩
    have hu : (fun t => u.testBit t) = fun t => T (t + i) := funext fun t => by
      apply Bool.eq_iff_iff.2
      simp only [T, Bool.and_eq_true, decide_eq_true_eq, Nat.add_sub_cancel]
      constructor
      · intro q
        have t8 : t < 8 := by
          by_cases h8 : t < 8
          · exact h8
          · have h2 : 2 ^ 8 ≤ 2 ^ t := Nat.pow_le_pow_right (by omega) (by omega)
            rw [Nat.testBit_lt_two_pow (by omega)] at q
            cases q
        have := u2 t (mem_bits.2 ⟨t8, q⟩)
        rw [List.length_drop] at this
        exact ⟨⟨by omega, q⟩, by omega⟩
      · exact fun q => q.1.2
    obtain ⟨v1, v2⟩ := lackV_8 had hl u
    have hB0 : 0 ≤ B8 p (pset (cs.drop i) fun t => u.testBit t) := S8_nonneg fun f _ => (hl f).1
    refine ⟨m, e, h0, by omega, key, T, hT, ?_⟩
    rw [hu, A8_drop h8 hT, B8_congr (pset_drop h8 hT)] at v1
    omega
end Go.Proofs.Ytkpihepaaiofgaa
end
section
namespace Go.Proofs.Ytkpihepaaiofgaa
open Go.RowKit
set_option linter.unusedVariables false
set_option linter.unusedSimpArgs false
set_option maxRecDepth 10000
set_option maxHeartbeats 4000000

theorem with_q (N : Nat) (p : T_V8_i64) (t : Nat) (x : Int) (h : t < 8) : ∃ z, p_coin_purse_with N p (t : Int) x = some z ∧ lft z t = x ∧ ∀ f, f ≠ t → lft z f = lft p f := by
  unfold p_coin_purse_with
  rw [show idxI (t : Int) 8 = some () by unfold idxI; rw [if_pos (by omega)], Option.bind_some, Int.toNat_natCast]
  have e : (T_V8_i64.ofl (p.l.set t x)).l = p.l.set t x := T_V8_i64.l_ofl _ (by rw [List.length_set]; rfl)
  refine ⟨_, rfl, ?_, fun f hf => ?_⟩
  · unfold lft
    rw [e, List.getElem?_set, if_pos rfl, if_pos (by rw [V8_len]; omega)]
    rfl
  · unfold lft
    rw [e, List.getElem?_set, if_neg (fun q => hf q.symm)]
theorem lft_out {p : T_V8_i64} {f : Nat} (h : 8 ≤ f) : lft p f = 0 := by
  unfold lft
  rw [List.getElem?_eq_none (by rw [V8_len]; omega)]
  rfl
def Feas (cs : List T_coin_claim) (i : Nat) (p : T_V8_i64) : Prop := ∀ T, From cs i T → A8 cs T ≤ B8 p (pset cs T)
def Tight (cs : List T_coin_claim) (i : Nat) (p : T_V8_i64) (f : Nat) : Prop := ∃ T Q, From cs i T ∧ Q f = true ∧ (∀ g, pset cs T g = true → Q g = true) ∧ B8 p Q ≤ A8 cs T
theorem pset_mono {cs : List T_coin_claim} {T T' : Nat → Bool} (h : ∀ t, T t = true → T' t = true) {f : Nat} (hf : pset cs T f = true) : pset cs T' f = true := by
  obtain ⟨t, h1, h2, h3⟩ := pset_iff.1 hf
  exact pset_iff.2 ⟨t, h1, h t h2, h3⟩
structure PayInv (cs : List T_coin_claim) (i : Nat) (p : T_V8_i64) (s : Nat) (l z : T_V8_i64) (d : Int) : Prop where
  s8 : s < 256
  sub : ∀ f, s.testBit f = true → (pay cs i).testBit f = true
  asc : ∀ f g, s.testBit g = true → (pay cs i).testBit f = true → s.testBit f = false → f < g
  eq : ∀ f, lft l f = lft p f - lft z f
  z0 : ∀ f, 0 ≤ lft z f
  l0 : ∀ f, 0 ≤ lft l f
  who : ∀ f, 0 < lft z f → (pay cs i).testBit f = true ∧ s.testBit f = false
  due : d = amt cs i - S8 (fun _ => true) (lft z)
  d0 : 0 ≤ d
  a : Feas cs (i + 1) l
  b : ∀ T, From cs (i + 1) T → A8 cs T + d ≤ B8 l (fun f => pset cs T f || s.testBit f)
  tight : ∀ f, (pay cs i).testBit f = true → s.testBit f = false → Tight cs (i + 1) l f ∨ (d = 0 ∧ ∀ g, f < g → lft z g = 0)
theorem A8_mod (cs : List T_coin_claim) (T T' : Nat → Bool) : A8 cs (fun t => T t || T' t) + A8 cs (fun t => T t && T' t) = A8 cs T + A8 cs T' := S8_mod T T' _
theorem step_p {cs : List T_coin_claim} {i : Nat} {p : T_V8_i64} {s t s2 : Nat} {l z l2 z2 w : T_V8_i64} {d m coins : Int} (h : PayInv cs i p s l z d) (ht8 : t < 8) (hb : bits s = t :: bits s2) (hs2 : s2 < 256) (hw0 : lft w t = 0) (hw : ∀ f, f ≠ t → lft w f = lft l f) (m0 : 0 ≤ m) (hm : ∀ T, From cs (i + 1) T → A8 cs T - B8 w (pset cs T) ≤ m) (hex : ∃ T, From cs (i + 1) T ∧ A8 cs T - B8 w (pset cs T) = m) (hc : coins = if lft l t - m < d then lft l t - m else d) (hl2 : lft l2 t = lft l t - coins) (hl2o : ∀ f, f ≠ t → lft l2 f = lft l f) (hz2 : lft z2 t = coins) (hz2o : ∀ f, f ≠ t → lft z2 f = lft z f) : PayInv cs i p s2 l2 z2 (d - coins) := by
  have htb : s.testBit t = true := (mem_bits.1 (show t ∈ bits s by rw [hb]; simp)).2
  -- the rest of the set
  have hs2b : ∀ f, s2.testBit f = true ↔ s.testBit f = true ∧ f ≠ t := by
    have big : ∀ q, q < 256 → ∀ f, q.testBit f = true → f < 8 := fun q hq f hf => by
      by_cases h8 : f < 8
      · exact h8
      · have h2 : 2 ^ 8 ≤ 2 ^ f := Nat.pow_le_pow_right (by omega) (by omega)
        rw [Nat.testBit_lt_two_pow (by omega)] at hf
        cases hf
    have hasc := bits_asc s
    rw [hb] at hasc
    obtain ⟨p1, p2⟩ := List.pairwise_cons.1 hasc
    intro f
    constructor
    · intro hf
      have hm : f ∈ bits s2 := mem_bits.2 ⟨big _ hs2 f hf, hf⟩
      have := p1 f hm
      exact ⟨(mem_bits.1 (show f ∈ bits s by rw [hb]; simp [hm])).2, by omega⟩
    · rintro ⟨hf, hne⟩
      have hm : f ∈ bits s := mem_bits.2 ⟨big _ h.s8 f hf, hf⟩
      rw [hb] at hm
      rcases List.mem_cons.1 hm with hm | hm
      · exact absurd hm hne
      · exact (mem_bits.1 hm).2
  have hs2t : s2.testBit t = false := by
    cases hq : s2.testBit t with
    | false => rfl
    | true => exact absurd rfl ((hs2b t).1 hq).2
  have hmin : ∀ g, s2.testBit g = true → t < g := fun g hg => by
    have hasc := bits_asc s
    rw [hb] at hasc
    have h1 := (hs2b g).1 hg
    have hm : g ∈ bits s := by
      by_cases h8 : g < 8
      · exact mem_bits.2 ⟨h8, h1.1⟩
      · have h2 : 2 ^ 8 ≤ 2 ^ g := Nat.pow_le_pow_right (by omega) (by omega)
        rw [Nat.testBit_lt_two_pow (by omega)] at hg
        cases hg
    rw [hb] at hm
    rcases List.mem_cons.1 hm with hm | hm
    · exact absurd hm h1.2
    · exact (List.pairwise_cons.1 hasc).1 g hm
  have hzt : lft z t = 0 := by
    have := h.z0 t
    by_cases hp : 0 < lft z t
    · have := (h.who t hp).2
      rw [htb] at this
      cases this
    · omega
  have hBw : ∀ Q : Nat → Bool, B8 w Q = B8 l Q - (if Q t then lft l t else 0) := fun Q => by
    have := S8_upd (Q := Q) (g := lft l) (g' := lft w) ht8 hw
    unfold B8
    rw [this, hw0]
    split <;> omega
  have hBl : ∀ Q : Nat → Bool, B8 l2 Q = B8 l Q - (if Q t then coins else 0) := fun Q => by
    have := S8_upd (Q := Q) (g := lft l) (g' := lft l2) ht8 hl2o
    unfold B8
    rw [this, hl2]
    split <;> omega
  have hlt0 := h.l0 t
  obtain ⟨T0, hT0, em⟩ := hex
  -- no less than nothing is taken
  have hge : 0 ≤ lft l t - m := by
    have := h.a T0 hT0
    rw [hBw] at em
    split at em <;> omega
  have hd0 := h.d0
  have c0 : 0 ≤ coins := by rw [hc]; split <;> omega
  have c1 : coins ≤ lft l t - m := by rw [hc]; split <;> omega
  have c2 : coins ≤ d := by rw [hc]; split <;> omega
  have hcmm : ¬ coins = d → coins = lft l t - m := fun hne => by
    by_cases q : lft l t - m < d
    · rw [hc, if_pos q]
    · exact absurd (by rw [hc, if_neg q]) hne
  have l20 : ∀ f, 0 ≤ lft l2 f := fun f => by
    by_cases hf : f = t
    · subst hf; omega
    · rw [hl2o f hf]; exact h.l0 f
  have ha2 : Feas cs (i + 1) l2 := fun T hT => by
    have q1 := h.a T hT
    have q2 := hm T hT
    rw [hBw] at q2
    rw [hBl]
    split
    · rename_i hp
      rw [if_pos hp] at q2
      omega
    · omega
  -- what holds if not all is paid
  have hV : B8 w (pset cs T0) = B8 l (fun f => pset cs T0 f && decide (f ≠ t)) := by
    refine S8_eq fun f hf => ?_
    by_cases hft : f = t
    · subst hft; simp [hw0]
    · rw [hw f hft]; simp [hft]
  refine ⟨hs2, fun f hf => h.sub f ((hs2b f).1 hf).1, ?_, ?_, ?_, l20, ?_, ?_, by omega, ha2, ?_, ?_⟩
  · intro f g hg hpf hsf
    by_cases hft : f = t
    · subst hft; exact hmin g hg
    · have : s.testBit f = false := by
        cases hq : s.testBit f with
        | false => rfl
        | true => rw [(hs2b f).2 ⟨hq, hft⟩] at hsf; cases hsf
      exact h.asc f g ((hs2b g).1 hg).1 hpf this
  · intro f
    by_cases hft : f = t
    · subst hft
      have := h.eq f
      omega
    · rw [hl2o f hft, hz2o f hft]; exact h.eq f
  · intro f
    by_cases hft : f = t
    · subst hft; omega
    · rw [hz2o f hft]; exact h.z0 f
  · intro f hf
    by_cases hft : f = t
    · subst hft; exact ⟨h.sub f htb, hs2t⟩
    · rw [hz2o f hft] at hf
      obtain ⟨q1, q2⟩ := h.who f hf
      refine ⟨q1, ?_⟩
      cases hq : s2.testBit f with
      | false => rfl
      | true => rw [((hs2b f).1 hq).1] at q2; cases q2
  · have := S8_upd (Q := fun _ => true) (g := lft z) (g' := lft z2) ht8 hz2o
    simp only [if_true] at this
    rw [this, h.due]
    omega
  · intro T hT
    by_cases hcd : coins = d
    · -- all is paid
      have q1 := ha2 T hT
      have q2 : B8 l2 (pset cs T) ≤ B8 l2 (fun f => pset cs T f || s2.testBit f) := S8_mono (fun f _ hf => by simp [hf]) fun f _ => l20 f
      omega
    · have hcm : coins = lft l t - m := hcmm hcd
      rw [hBl]
      cases hpt : pset cs T t with
      | true =>
        have q1 := h.b T hT
        have q2 : B8 l (fun f => pset cs T f || s.testBit f) = B8 l (fun f => pset cs T f || s2.testBit f) := by
          refine B8_congr fun f => ?_
          by_cases hft : f = t
          · subst hft; simp [hpt]
          · have : s.testBit f = s2.testBit f := by
              apply Bool.eq_iff_iff.2
              rw [hs2b f]
              exact ⟨fun q => ⟨q, hft⟩, fun q => q.1⟩
            rw [this]
        simp only [Bool.true_or, if_true]
        omega
      | false =>
        simp only [hs2t, Bool.or_self, Bool.false_eq_true, if_false]
        have hU : From cs (i + 1) (fun t => T t || T0 t) := fun u hu => by
          simp only [Bool.or_eq_true] at hu
          rcases hu with hu | hu
          · exact hT u hu
          · exact hT0 u hu
        have hI : From cs (i + 1) (fun t => T t && T0 t) := fun u hu => by
          simp only [Bool.and_eq_true] at hu
          exact hT u hu.1
        have q1 := h.b _ hU
        have q2 := h.a _ hI
        have q3 := A8_mod cs T T0
        let U : Nat → Bool := fun f => pset cs T f || s2.testBit f
        let V : Nat → Bool := fun f => pset cs T0 f && decide (f ≠ t)
        have q4 : B8 l (fun f => U f || V f) + B8 l (fun f => U f && V f) = B8 l U + B8 l V := S8_mod U V _
        have q5 : B8 l (pset cs fun t => T t && T0 t) ≤ B8 l (fun f => U f && V f) := by
          refine S8_mono (fun f _ hf => ?_) fun f _ => h.l0 f
          have f1 := pset_mono (T' := T) (fun t ht => by simp only [Bool.and_eq_true] at ht; exact ht.1) hf
          have f2 := pset_mono (T' := T0) (fun t ht => by simp only [Bool.and_eq_true] at ht; exact ht.2) hf
          have f3 : f ≠ t := fun q => by subst q; rw [hpt] at f1; cases f1
          simp [U, V, f1, f2, f3]
        have q6 : B8 l (fun f => pset cs (fun t => T t || T0 t) f || s.testBit f) ≤ B8 l (fun f => U f || V f) + lft l t := by
          have e := S8_ins (Q := fun f => U f || V f) (Q' := fun f => (U f || V f) || decide (f = t)) (g := lft l) ht8 (fun f hf => by simp [hf])
          have e2 : B8 l (fun f => pset cs (fun t => T t || T0 t) f || s.testBit f) ≤ S8 (fun f => (U f || V f) || decide (f = t)) (lft l) := by
            refine S8_mono (fun f _ hf => ?_) fun f _ => h.l0 f
            by_cases hft : f = t
            · simp [hft]
            · simp only [Bool.or_eq_true] at hf
              rcases hf with hf | hf
              · obtain ⟨u, u1, u2, u3⟩ := pset_iff.1 hf
                simp only [Bool.or_eq_true] at u2
                rcases u2 with u2 | u2
                · have : pset cs T f = true := pset_iff.2 ⟨u, u1, u2, u3⟩
                  simp [U, this]
                · have : pset cs T0 f = true := pset_iff.2 ⟨u, u1, u2, u3⟩
                  simp [V, this, hft]
              · have : s2.testBit f = true := (hs2b f).2 ⟨hf, hft⟩
                simp [U, this]
          have : (if (U t || V t || decide (t = t)) = true then lft l t else 0) - (if (U t || V t) = true then lft l t else 0) ≤ lft l t := by
            split <;> split <;> omega
          unfold B8 at *
          omega
        rw [hV] at em
        show A8 cs T + (d - coins) ≤ B8 l U - 0
        have em2 : A8 cs T0 - B8 l V = m := em
        omega
  · intro f hpf hsf
    by_cases hft : f = t
    · subst hft
      by_cases hcd : coins = d
      · right
        refine ⟨by omega, fun g hg => ?_⟩
        rw [hz2o g (by omega)]
        have := h.z0 g
        by_cases hp : 0 < lft z g
        · obtain ⟨w1, w2⟩ := h.who g hp
          have := h.asc g f htb w1 w2
          omega
        · omega
      · left
        have hcm : coins = lft l f - m := hcmm hcd
        refine ⟨T0, fun g => pset cs T0 g || decide (g = f), hT0, by simp, fun g hg => by simp [hg], ?_⟩
        rw [hBl]
        have e := S8_ins (Q := fun g => pset cs T0 g && decide (g ≠ f)) (Q' := fun g => pset cs T0 g || decide (g = f)) (g := lft l) ht8 (fun g hg => by simp [hg])
        simp at e
        rw [hV] at em
        simp only [decide_true, Bool.or_true, if_true]
        unfold B8 at *
        have em2 := em
        simp at em2
        omega
    · have hsf2 : s.testBit f = false := by
        cases hq : s.testBit f with
        | false => rfl
        | true => rw [(hs2b f).2 ⟨hq, hft⟩] at hsf; cases hsf
      rcases h.tight f hpf hsf2 with ⟨T, Q, q1, q2, q3, q4⟩ | ⟨q1, q2⟩
      · left
        refine ⟨T, Q, q1, q2, q3, ?_⟩
        rw [hBl]
        split <;> omega
      · right
        have hc0 : coins = 0 := by omega
        refine ⟨by omega, fun g hg => ?_⟩
        by_cases hgt : g = t
        · subst hgt; omega
        · rw [hz2o g hgt]; exact q2 g hg
end Go.Proofs.Ytkpihepaaiofgaa
end
section
namespace Go.Proofs.Ytkpihepaaiofgaa
open Go.RowKit
set_option linter.unusedVariables false
set_option linter.unusedSimpArgs false
set_option maxRecDepth 10000
set_option maxHeartbeats 4000000

structure Done (cs : List T_coin_claim) (i : Nat) (p paid rest : T_V8_i64) : Prop where
  eq : ∀ f, lft rest f = lft p f - lft paid f
  z0 : ∀ f, 0 ≤ lft paid f
  l0 : ∀ f, 0 ≤ lft rest f
  who : ∀ f, 0 < lft paid f → (pay cs i).testBit f = true
  all : S8 (fun _ => true) (lft paid) = amt cs i
  feas : Feas cs (i + 1) rest
  tight : ∀ f g, f < g → (pay cs i).testBit f = true → 0 < lft paid g → Tight cs (i + 1) rest f
theorem zero_l : ∀ f, lft (⟨0, 0, 0, 0, 0, 0, 0, 0⟩ : T_V8_i64) f = 0
  | 0 => rfl
  | 1 => rfl
  | 2 => rfl
  | 3 => rfl
  | 4 => rfl
  | 5 => rfl
  | 6 => rfl
  | 7 => rfl
  | f + 8 => lft_out (by omega)
theorem inv_start {cs : List T_coin_claim} (h : OkC cs) (ha : SmallC cs) {i : Nat} (hi : i < cs.length) {p : T_V8_i64} (hl : SmallP p) (hf : Feas cs i p) : PayInv cs i p (pay cs i) p ⟨0, 0, 0, 0, 0, 0, 0, 0⟩ (amt cs i) := by
  have h8 := h.1
  refine ⟨payAll h i, fun f hf => hf, fun f g _ h1 h2 => (by rw [h1] at h2; cases h2), fun f => by rw [zero_l]; omega, fun f => by rw [zero_l]; omega, fun f => (hl f).1, fun f hf => by rw [zero_l] at hf; omega, ?_, (ha i).1, fun T hT => hf T (fun t ht => by have := hT t ht; omega), ?_, fun f h1 h2 => by rw [h1] at h2; cases h2⟩
  · have : S8 (fun _ => true) (lft (⟨0, 0, 0, 0, 0, 0, 0, 0⟩ : T_V8_i64)) = S8 (fun _ => false) (lft (⟨0, 0, 0, 0, 0, 0, 0, 0⟩ : T_V8_i64)) := S8_eq fun f _ => by simp [zero_l]
    rw [this, S8_none]
    omega
  · intro T hT
    have hTi : T i = false := by
      cases hq : T i with
      | false => rfl
      | true => have := hT i hq; omega
    have hT' : From cs i (fun t => T t || decide (t = i)) := fun t ht => by
      simp only [Bool.or_eq_true, decide_eq_true_eq] at ht
      rcases ht with ht | ht
      · have := hT t ht; omega
      · omega
    have q1 := hf _ hT'
    have e1 : A8 cs (fun t => T t || decide (t = i)) = A8 cs T + amt cs i := by
      have e := S8_ins (Q := T) (Q' := fun t => T t || decide (t = i)) (g := amt cs) (show i < 8 by omega) (fun f hf => by simp [hf])
      unfold A8
      rw [e, hTi]
      simp
    have e2 : B8 p (pset cs fun t => T t || decide (t = i)) = B8 p (fun f => pset cs T f || (pay cs i).testBit f) := by
      refine B8_congr fun f => ?_
      apply Bool.eq_iff_iff.2
      rw [Bool.or_eq_true, pset_iff, pset_iff]
      constructor
      · rintro ⟨t, t1, t2, t3⟩
        simp only [Bool.or_eq_true, decide_eq_true_eq] at t2
        rcases t2 with t2 | t2
        · exact .inl ⟨t, t1, t2, t3⟩
        · subst t2; exact .inr t3
      · rintro (⟨t, t1, t2, t3⟩ | t3)
        · exact ⟨t, t1, by simp [t2], t3⟩
        · exact ⟨i, by omega, by simp, t3⟩
    rw [e1, e2] at q1
    exact q1
theorem inv_end {cs : List T_coin_claim} {i : Nat} {p l z : T_V8_i64} {d : Int} (h : PayInv cs i p 0 l z d) : Done cs i p z l := by
  have hnone : From cs (i + 1) (fun _ => false) := fun t ht => by cases ht
  have q := h.b _ hnone
  have zA : A8 cs (fun _ => false) = 0 := S8_none _
  have zB : B8 l (fun f => pset cs (fun _ => false) f || (0 : Nat).testBit f) = 0 := by
    have e : ∀ f, (pset cs (fun _ => false) f || (0 : Nat).testBit f) = false := fun f => by
      rw [Nat.zero_testBit, Bool.or_false]
      cases hq : pset cs (fun _ => false) f with
      | false => rfl
      | true => obtain ⟨t, _, ht, _⟩ := pset_iff.1 hq; cases ht
    rw [B8_congr e]
    exact S8_none _
  have hd0 := h.d0
  have hdue := h.due
  refine ⟨h.eq, h.z0, h.l0, fun f hf => (h.who f hf).1, by omega, h.a, fun f g hfg hpf hg => ?_⟩
  rcases h.tight f hpf (Nat.zero_testBit f) with q | ⟨_, q⟩
  · exact q
  · have := q g hfg
    omega
theorem payFirst_s (N : Nat) (hN : 1000 < N) (cs : List T_coin_claim) (h : OkC cs) (ha : SmallC cs) (i : Nat) (hi : i < cs.length) (p : T_V8_i64) (hl : SmallP p) (hf : Feas cs i p) : ∃ paid rest, p_coin_claims_payFirst N (cs.drop i) p = some (paid, rest) ∧ Done cs i p paid rest := by
  have h8 := h.1
  unfold p_coin_claims_payFirst
  have hxi : cs[i]? = some cs[i] := List.getElem?_eq_getElem hi
  have hx : (cs.drop i)[0]? = some cs[i] := by rw [List.getElem?_drop]; exact hxi
  have hg : getI (cs.drop i) 0 = some cs[i] := getD_at (i := 0) hx
  have hpart : partI (cs.drop i) 1 (((cs.drop i).length : Nat) : Int) = some (cs.drop (i + 1)) := by
    unfold partI
    rw [if_pos (by rw [List.length_drop]; omega), Int.toNat_natCast, List.take_length, show (1 : Int).toNat = 1 from rfl, List.drop_drop]
  obtain ⟨e1, e2⟩ := pay_p h hxi
  have e3 : cs[i].amount_ = amt cs i := by unfold amt; rw [hxi]; rfl
  simp only [hg, hpart, Option.bind_some, show ∀ x, p_coin_set_numbers N x = some x from fun _ => rfl, letJ_eq]
  rw [e1, e3]
  refine loop4_T (fun x => ∃ paid rest, x = some (paid, rest) ∧ Done cs i p paid rest) (fun r l z d => ∃ s : Nat, r = (s : Int) ∧ PayInv cs i p s l z d) (fun rest z1 z2 b => rest.toNat) ?_ N _ _ _ _ ⟨_, rfl, inv_start h ha hi hl hf⟩ (by omega)
  rintro rec rest l z d ⟨s, rfl, hinv⟩ ih
  have hs := hinv.s8
  by_cases h0 : s = 0
  · subst h0
    simp only [show (((0 : Nat) : Int) != 0) = false from rfl, cond_false]
    exact ⟨_, _, rfl, inv_end hinv⟩
  · obtain ⟨t, g1, g2, g3⟩ := tz_p N s h0 hs
    have ht : t < 8 := (mem_bits.1 (show t ∈ bits s by rw [g2]; simp)).1
    have hidx : idxI (t : Int) 8 = some () := by unfold idxI; rw [if_pos (by omega)]
    have hlow := low_lt s h0
    have hll : SmallP l := fun f => by
      have := hinv.eq f; have := hinv.z0 f; have := hinv.l0 f; have := (hl f).2
      omega
    rw [show (((s : Nat) : Int) != 0) = true by simp; omega, cond_true, g1, Option.bind_some]
    obtain ⟨w1, q, w1t, w1o⟩ := with_q N l t 0 ht
    rw [q, Option.bind_some]; clear q
    have hw1 : SmallP w1 := fun f => by
      by_cases hft : f = t
      · subst hft; omega
      · rw [w1o f hft]; exact hll f
    obtain ⟨m, q, m0, m1, m2, m3⟩ := missing_8 N hN cs h ha (i + 1) w1 hw1
    have hlt := hll t
    have hd0 := hinv.d0
    have hd1 : d ≤ 2000000 := by
      have := hinv.due
      have := (ha i).2
      have := S8_nonneg (Q := fun _ => true) (g := lft z) (fun f _ => hinv.z0 f)
      omega
    simp only [q, Option.bind_some, hidx, at_p l t ht]; clear q
    rw [w64 (x := lft l t - m) (by omega) (by omega)]
    generalize hcoins : (if lft l t - m < d then lft l t - m else d) = coins
    have hc1 : -16000000 ≤ coins := by rw [← hcoins]; split <;> omega
    have hc2 : coins ≤ 2000000 := by rw [← hcoins]; split <;> omega
    rw [w64 (x := d - coins) (by omega) (by omega), w64 (x := lft l t - coins) (by omega) (by omega)]
    obtain ⟨w2, q, w2t, w2o⟩ := with_q N z t coins ht
    simp only [q, Option.bind_some]; clear q
    obtain ⟨w3, q, w3t, w3o⟩ := with_q N l t (lft l t - coins) ht
    simp only [q, Option.bind_some, g3]; clear q
    exact ih _ _ _ _ ⟨_, rfl, step_p hinv ht g2 (by omega) w1t w1o m0 m2 m3 hcoins.symm w3t w3o w2t w2o⟩ (by omega)

def ent (w : List (List Int)) (j f : Nat) : Int := (w[j]?.bind fun x => x[f]?).getD 0
structure Paid (cs : List T_coin_claim) (p : T_V8_i64) (nf i : Nat) (w : List (List Int)) (l : T_V8_i64) : Prop where
  len : w.length = cs.length
  row : ∀ j, j < i → ∃ x, w[j]? = some x ∧ x.length = nf ∧ x.sum = amt cs j ∧ ∀ (f : Nat) v, x[f]? = some v → 0 ≤ v ∧ v ≤ 2000000 ∧ (0 < v → (pay cs j).testBit f = true)
  left : ∀ f, f < nf → lft l f = lft p f - ((List.range i).map fun j => ent w j f).sum
  l0 : ∀ f, 0 ≤ lft l f
  le : ∀ f, lft l f ≤ lft p f
  feas : Feas cs i l
  tight : ∀ j f g, j < i → f < g → g < nf → (pay cs j).testBit f = true → 0 < ent w j g → Tight cs i l f
theorem pre_l (p : T_V8_i64) : ∀ k, k ≤ 8 → pre p.l k = ((List.range k).map (lft p)).sum
  | 0, _ => rfl
  | k + 1, h => by
    have hx : p.l[k]? = some p.l[k] := List.getElem?_eq_getElem (by rw [V8_len]; omega)
    have : lft p k = p.l[k] := by unfold lft; rw [hx]; rfl
    rw [pre_succ p.l k _ hx, pre_l p k (by omega), sum_succ, this]
theorem S8_true (g : Nat → Int) : S8 (fun _ => true) g = ((List.range 8).map g).sum := by
  unfold S8
  congr 1
theorem S8_sub (Q : Nat → Bool) (g g' : Nat → Int) : S8 Q (fun f => g f - g' f) + S8 Q g' = S8 Q g := by
  unfold S8
  rw [← sum_add]
  congr 1
  refine List.map_congr_left fun f _ => ?_
  cases hq : Q f <;> simp [hq] <;> omega
theorem paid_step {cs : List T_coin_claim} (h : OkC cs) {p : T_V8_i64} (hl : SmallP p) {nf i : Nat} (hnf : nf ≤ 8) (hz : ∀ f, nf ≤ f → lft p f = 0) (hi : i < cs.length) {w : List (List Int)} {l paid rest : T_V8_i64} (hp : Paid cs p nf i w l) (hd : Done cs i l paid rest) : Paid cs p nf (i + 1) (w.set i (paid.l.take nf)) rest := by
  have hlen := hp.len
  have h8 := h.1
  have hx : (w.set i (paid.l.take nf))[i]? = some (paid.l.take nf) := by rw [List.getElem?_set, if_pos rfl, if_pos (by omega)]
  have hold : ∀ j, j ≠ i → (w.set i (paid.l.take nf))[j]? = w[j]? := fun j hj => by rw [List.getElem?_set, if_neg (fun q => hj q.symm)]
  have hentN : ∀ f, f < nf → ent (w.set i (paid.l.take nf)) i f = lft paid f := fun f hf => by
    unfold ent lft
    rw [hx, Option.bind_some, List.getElem?_take, if_pos hf]
  have hentO : ∀ j f, j ≠ i → ent (w.set i (paid.l.take nf)) j f = ent w j f := fun j f hj => by
    unfold ent
    rw [hold j hj]
  have hpz : ∀ f, nf ≤ f → lft paid f = 0 := fun f hf => by
    have := hd.eq f; have := hd.l0 f; have := hd.z0 f; have := hp.le f; have := hz f hf
    omega
  have hple : ∀ f, lft paid f ≤ 2000000 := fun f => by
    have := hd.eq f; have := hd.l0 f; have := hp.le f; have := (hl f).2
    omega
  refine ⟨by rw [List.length_set]; exact hlen, ?_, ?_, hd.l0, ?_, hd.feas, ?_⟩
  · intro j hj
    by_cases hji : j = i
    · subst hji
      refine ⟨_, hx, by rw [List.length_take, V8_len]; omega, ?_, ?_⟩
      · have e1 : (paid.l.take nf).sum = ((List.range nf).map (lft paid)).sum := pre_l paid nf hnf
        rw [e1, ← hd.all, S8_true, sum_range_ext (lft paid) nf hpz 8 hnf]
      · intro f v hv
        have hf : f < nf := by
          have := (List.getElem?_eq_some_iff.1 hv).1
          rw [List.length_take] at this
          omega
        rw [List.getElem?_take, if_pos hf] at hv
        have : lft paid f = v := by unfold lft; rw [hv]; rfl
        subst this
        exact ⟨hd.z0 f, hple f, hd.who f⟩
    · obtain ⟨x, x1, x2⟩ := hp.row j (by omega)
      exact ⟨x, by rw [hold j hji]; exact x1, x2⟩
  · intro f hf
    rw [sum_succ, hentN f hf, hd.eq f, hp.left f hf]
    have : ((List.range i).map fun j => ent (w.set i (paid.l.take nf)) j f).sum = ((List.range i).map fun j => ent w j f).sum := by
      congr 1
      refine List.map_congr_left fun j hj => ?_
      rw [List.mem_range] at hj
      exact hentO j f (by omega)
    rw [this]
    omega
  · intro f
    have := hd.eq f; have := hd.z0 f; have := hp.le f
    omega
  · intro j f g hj hfg hg hpf he
    by_cases hji : j = i
    · subst hji
      rw [hentN g hg] at he
      exact hd.tight f g hfg hpf he
    · rw [hentO j g hji] at he
      obtain ⟨T, Q, hT, hQ, hPQ, hB⟩ := hp.tight j f g (by omega) hfg hg hpf he
      have hBr : B8 rest Q + S8 Q (lft paid) = B8 l Q := by
        have e := S8_sub Q (lft l) (lft paid)
        have : S8 Q (lft rest) = S8 Q (fun f => lft l f - lft paid f) := S8_eq fun f _ => by rw [hd.eq f]
        unfold B8
        rw [this]
        exact e
      have hS0 : 0 ≤ S8 Q (lft paid) := S8_nonneg fun f _ => hd.z0 f
      cases hTi : T i with
      | true =>
        have hall : S8 Q (lft paid) = amt cs i := by
          rw [← hd.all]
          refine S8_eq fun f hf => ?_
          by_cases hp0 : 0 < lft paid f
          · rw [hPQ f (pset_iff.2 ⟨i, by omega, hTi, hd.who f hp0⟩)]
          · have : lft paid f = 0 := by have := hd.z0 f; omega
            simp [this]
        have e := S8_ins (Q := T) (Q' := fun t => T t && decide (t ≠ i)) (g := amt cs) (show i < 8 by omega) (fun f hf => by simp [hf])
        have e2 : A8 cs (fun t => T t && decide (t ≠ i)) = A8 cs T - amt cs i := by
          unfold A8
          rw [e, hTi]
          simp
          omega
        refine ⟨fun t => T t && decide (t ≠ i), Q, fun t ht => ?_, hQ, fun g hg => hPQ g (pset_mono (fun t ht => by simp only [Bool.and_eq_true] at ht; exact ht.1) hg), by omega⟩
        simp only [Bool.and_eq_true, decide_eq_true_eq] at ht
        have := hT t ht.1
        omega
      | false =>
        refine ⟨T, Q, fun t ht => ?_, hQ, hPQ, by omega⟩
        have := hT t ht
        have : t ≠ i := fun q => by subst q; rw [hTi] at ht; cases ht
        omega
theorem trace_s (N : Nat) (hN : 1000 < N) (nf nb : Nat) (c : Int) (hnf : nf ≤ 8) (hnb : nb ≤ 8) (hc0 : 0 ≤ c) (hc : c ≤ 1000000) (L : T_api_Ledger) (h : GoodL nf nb c L) : ∃ cs p, GoodC L cs ∧ (∀ f : Nat, f < 8 → p.l[f]? = some ((L.Funds[f]?.map (·.Amount)).getD 0)) ∧ SmallC cs ∧ SmallP p ∧ (p_coin_Trace N L = some ([], 4) ∨ ∃ w l, p_coin_Trace N L = some (w, 0) ∧ Paid cs p L.Funds.length cs.length w l) := by
  have g1 := h.nf; have g2 := h.nb
  obtain ⟨cs, e1, hcs⟩ := claimsOf_p N hN nf nb c hnf hnb L h
  obtain ⟨p, e2, hp⟩ := purseOf_p N hN L (by omega)
  have hok := hcs.ok (by omega)
  have hok1 := hok.1
  have ha : SmallC cs := fun t => by
    cases hB : L.Bills[t]? with
    | none =>
      have : cs[t]? = none := by
        rw [List.getElem?_eq_none_iff] at hB ⊢
        rw [hcs.1]
        exact hB
      unfold amt
      rw [this]
      simp
    | some B =>
      obtain ⟨_, _, _, _, b5, b6⟩ := h.bill B (List.mem_of_getElem? hB)
      rw [amtAt h hcs hB]
      omega
  have hl : SmallP p := fun t => by
    by_cases ht : t < 8
    · rw [lftAt hp ht]
      cases hF : L.Funds[t]? with
      | none => simp
      | some F =>
        obtain ⟨_, _, _, _, b5, b6, _⟩ := h.fund F (List.mem_of_getElem? hF)
        simp only [Option.map_some, Option.getD_some]
        omega
    · rw [lft_out (by omega)]
      omega
  have hz : ∀ f, L.Funds.length ≤ f → lft p f = 0 := fun f hf => by
    by_cases ht : f < 8
    · rw [lftAt hp ht, List.getElem?_eq_none hf]
      rfl
    · exact lft_out (by omega)
  obtain ⟨m, e3, m0, m1, m2, m3⟩ := missing_8 N hN cs hok ha 0 p hl
  rw [List.drop_zero] at e3
  refine ⟨cs, p, hcs, hp, ha, hl, ?_⟩
  unfold p_coin_Trace
  simp only [check_p N hN nf nb c hnf hnb hc L h, Option.bind_some, bne_self_eq_false, cond_false, e1, e2, e3]
  by_cases hpos : m > 0
  · rw [show decide (m > 0) = true from decide_eq_true hpos, cond_true]
    exact .inl rfl
  · rw [show decide (m > 0) = false from decide_eq_false hpos, cond_false]
    refine .inr ?_
    have mk1 : mkI ((cs.length : Nat) : Int) = some cs.length := by unfold mkI; rw [if_pos (by omega)]; simp
    have mk2 : mkI ((L.Funds.length : Nat) : Int) = some L.Funds.length := by unfold mkI; rw [if_pos (by omega)]; simp
    rw [mk1, Option.bind_some]
    simp only [letJ_eq]
    refine loop4_T (fun x => ∃ w l, x = some (w, 0) ∧ Paid cs p L.Funds.length cs.length w l) (fun y z (w : List (List Int)) (z2 : T_V8_i64) => ∃ i : Nat, y = (i : Int) ∧ i ≤ cs.length ∧ Paid cs p L.Funds.length i w z) (fun y z w z2 => 100 - y.toNat) ?_ N 0 _ _ _ ⟨0, rfl, by omega, ?_⟩ (by omega)
    · rintro rec y z w z2 ⟨i, rfl, hi, hpd⟩ ih
      have hw := hpd.len
      by_cases hlt : i < cs.length
      · have hpart : partI cs (i : Int) ((cs.length : Nat) : Int) = some (cs.drop i) := by
          unfold partI
          rw [if_pos (by omega)]
          simp
        have hlz : SmallP z := fun f => by
          have := hpd.l0 f; have := hpd.le f; have := (hl f).2
          omega
        obtain ⟨paid, rest, e, hd⟩ := payFirst_s N hN cs hok ha i hlt z hlz hpd.feas
        have hx : w[i]? = some w[i] := List.getElem?_eq_getElem (by omega)
        have hcp : copyI (List.replicate L.Funds.length 0) L.Funds.length paid.l 8 = some (paid.l.take L.Funds.length) := by
          unfold copyI
          rw [if_pos ⟨by simp, V8_len _⟩]
          have : (List.replicate L.Funds.length (0 : Int)).drop 8 = [] := List.drop_eq_nil_of_le (by rw [List.length_replicate]; omega)
          rw [this, List.append_nil]
        have hln : lenI (paid.l.take L.Funds.length) L.Funds.length = some () := by
          unfold lenI
          rw [if_pos (by rw [List.length_take, V8_len]; omega)]
        rw [ltD hlt, cond_true, hpart, Option.bind_some, e, Option.bind_some, mk2, Option.bind_some, show idxI (i : Int) cs.length = some () by unfold idxI; rw [if_pos (by omega)], Option.bind_some, Int.toNat_natCast, hx, Option.bind_some, Option.bind_some, hcp, Option.bind_some, hln, Option.bind_some, nadd1 i (by omega)]
        exact ih _ _ _ _ ⟨i + 1, rfl, by omega, paid_step hok hl (by omega) hz hlt hpd hd⟩ (by omega)
      · rw [show decide ((i : Int) < ((cs.length : Nat) : Int)) = false from decide_eq_false (by omega), cond_false]
        rw [show lenI w cs.length = some () by unfold lenI; rw [if_pos hw], Option.bind_some]
        have : i = cs.length := by omega
        subst this
        exact ⟨_, _, rfl, hpd⟩
    · refine ⟨by simp, fun j hj => by omega, fun f hf => by simp, fun f => (hl f).1, fun f => Int.le_refl _, fun T hT => ?_, fun j f g hj => by omega⟩
      have := m2 T hT
      omega
theorem tight_end {cs : List T_coin_claim} {l : T_V8_i64} (h0 : ∀ f, 0 ≤ lft l f) {f : Nat} (hf : f < 8) (h : Tight cs cs.length l f) : lft l f = 0 := by
  obtain ⟨T, Q, hT, hQ, _, hB⟩ := h
  have hTn : T = fun _ => false := funext fun t => by
    cases hq : T t with
    | false => rfl
    | true => have := hT t hq; omega
  subst hTn
  have zA : A8 cs (fun _ => false) = 0 := S8_none _
  have e := S8_ins (Q := fun _ => false) (Q' := fun g => decide (g = f)) (g := lft l) hf (fun g hg => by simp [hg])
  have e2 : S8 (fun g => decide (g = f)) (lft l) ≤ B8 l Q := S8_mono (fun g _ hg => by rw [decide_eq_true_eq] at hg; subst hg; exact hQ) fun g _ => h0 g
  rw [S8_none] at e
  simp at e
  have := h0 f
  omega
end Go.Proofs.Ytkpihepaaiofgaa
end
section
namespace Go.Proofs.Ytkpihepaaiofgaa
open Go.RowKit
set_option linter.unusedVariables false
set_option linter.unusedSimpArgs false
set_option maxRecDepth 10000
set_option maxHeartbeats 4000000
attribute [local simp] ren ren1 AV.plain AV.plain1 AV.clean cleanL cleanI cleanBo cleanSt cleanII KL_bk_Drum KL_api_Fund KL_api_Bill KL_api_Ledger KL_coin_claim KL_V8_i64 KL_api_Span A_bk_Drum C_bk_Drum A_api_Fund C_api_Fund A_api_Bill C_api_Bill A_api_Ledger C_api_Ledger A_coin_claim C_coin_claim A_V8_i64 C_V8_i64 A_api_Span C_api_Span back back1 fadeS fadeV List.idxOf? List.findIdx? List.findIdx?.go re re1 KB_bk_Drum KB_api_Fund KB_api_Bill KB_api_Ledger KB_coin_claim KB_V8_i64 KB_api_Span
def p_bl9_square (N : Nat) (l_1 : T_api_Ledger) (t_2 : (List (List Int))) : Option (Bool) := (letJ (fun (_ : Unit) => some (((t_2.length : Nat) : Int) == ((l_1.Bills.length : Nat) : Int))) (fun k_3 => (loop1 (fun rec_7 (i_6 : Int) => (bif (decide (i_6 < ((t_2.length : Nat) : Int))) then ((getI t_2 i_6).bind fun x_11 => (bif (((x_11.length : Nat) : Int) != ((l_1.Funds.length : Nat) : Int)) then some false else (rec_7 (IntKind.i64.wrap (i_6 + 1))))) else (k_3 ()))) N 0)))
def v_bl9_square (r : Bool) : AV := .bool r
attribute [local simp] v_bl9_square
theorem a_bl9_square (l_1 : T_api_Ledger) (t_2 : (List (List Int))) : [(A_api_Ledger l_1), .sl (t_2.map (SV (AV.int .i64))) none].mapM (ren []) = some [(A_api_Ledger l_1), .sl (t_2.map (SV (AV.int .i64))) none] := by simp
theorem b_bl9_square (r : Bool) (n n2 m : Nat) : back n n2 m (v_bl9_square r) = some (v_bl9_square r) := by simp
theorem d_bl9_square (N : Nat) (l_1 : T_api_Ledger) (t_2 : (List (List Int))) (r : Bool) (h : p_bl9_square N l_1 t_2 = some r) : Does Try.prog 36 [(A_api_Ledger l_1), .sl (t_2.map (SV (AV.int .i64))) none] [] fun v c => v = v_bl9_square r ∧ c = [] := by
  unfold p_bl9_square at h
  refine Does.ofL comp36 _ _ rfl rfl ?_
  refine Ex.seq ?_
  refine regH 2 [] [1, 2] [] (mkS 27 [(1, .sl (t_2.map (SV (AV.int .i64))) none), (2, .ptr 0 0)]) (⟨[(C_api_Ledger l_1)], []⟩) (by kernel_rfl) trivial rfl ?_
  refine Ex.seq ?_
  refine Ex.seq ?_
  refine regH 1 [] [1, 2, 5] [] (mkS 27 [(1, .sl (t_2.map (SV (AV.int .i64))) none), (2, .ptr 0 0), (5, .int .i64 0)]) (⟨[(C_api_Ledger l_1)], []⟩) (by kernel_rfl) trivial rfl ?_
  obtain ⟨K_4, hK_5, h⟩ := letE h
  refine Ex.blockJ (fun a S => K_4 () = some r ∧ a = mkS 27 [(1, .sl (t_2.map (SV (AV.int .i64))) none), (2, .ptr 0 0)] ∧ S = ⟨[(C_api_Ledger l_1)], []⟩) ?_ ?_
  · obtain ⟨B_8, hB_9, h⟩ := loop1I h
    refine Ex.loopF (fun k a S => ∃ (i_6 : Int), loop1 B_8 k i_6 = some r ∧ a = mkS 27 [(1, .sl (t_2.map (SV (AV.int .i64))) none), (2, .ptr 0 0), (5, .int .i64 i_6)] ∧ S = ⟨[(C_api_Ledger l_1)], []⟩) N ⟨_, _, Forgets.refl _ _ _, 0, h, rfl, rfl⟩ ?_
    rintro k a S ⟨i_6, h, rfl, rfl⟩
    cases k with
    | zero => exact (loop1Z h).elim
    | succ k =>
      replace h := loop1S h hB_9
      refine Ex.seq ?_
      refine Ex.seq ?_
      refine regH 4 [(2, .eq (.int .i64 ((t_2.length : Nat) : Int)))] [1, 2, 5, 9] [AV.int .i64 (((t_2.map (SV (AV.int .i64))).length : Nat) : Int) = AV.int .i64 ((t_2.length : Nat) : Int)] (mkS 27 [(1, .sl (t_2.map (SV (AV.int .i64))) none), (2, .ptr 0 0), (5, .int .i64 i_6), (9, .bool (decide (i_6 < ((t_2.length : Nat) : Int))))]) (⟨[(C_api_Ledger l_1)], []⟩) (by kernel_rfl) ⟨lenM _ _, trivial⟩ rfl ?_
      rcases condI h with ⟨hc_10, h⟩ | ⟨hc_10, h⟩
      · refine Ex.condT _ rfl hc_10 ?_
        refine Ex.skip ?_
        refine Ex.seq ?_
        refine Ex.blockK ?_
        refine Ex.seq ?_
        obtain ⟨x_11, hx_11, h⟩ := Option.bind_eq_some_iff.1 h
        refine Ex.drawE (a1 := mkS 27 [(1, .sl (t_2.map (SV (AV.int .i64))) none), (2, .ptr 0 0), (5, .int .i64 i_6), (9, .bool (decide (i_6 < ((t_2.length : Nat) : Int)))), (12, .sl (t_2.map (SV (AV.int .i64))) none), (13, .int .i64 i_6), (14, .rop [.sl (x_11.map (AV.int .i64)) none]), (15, .sl (x_11.map (AV.int .i64)) none), (16, .int .i64 ((x_11.length : Nat) : Int)), (17, .ptr 0 0), (18, .sl (l_1.Funds.map A_api_Fund) none), (19, .int .i64 ((l_1.Funds.length : Nat) : Int))]) (noClr_ok _) [] [] [] ?_ ?_
        · refine drS [0] 8 [(2, .rop [.sl (x_11.map (AV.int .i64)) none]), (4, .eq (.int .i64 ((x_11.length : Nat) : Int))), (7, .eq (.int .i64 ((l_1.Funds.length : Nat) : Int)))] [LGet (t_2.map (SV (AV.int .i64))) i_6 1 [.sl (x_11.map (AV.int .i64)) none], AV.int .i64 (((x_11.map (AV.int .i64)).length : Nat) : Int) = AV.int .i64 ((x_11.length : Nat) : Int), AV.int .i64 (((l_1.Funds.map A_api_Fund).length : Nat) : Int) = AV.int .i64 ((l_1.Funds.length : Nat) : Int)] (mkS 27 [(1, .sl (t_2.map (SV (AV.int .i64))) none), (2, .ptr 0 0), (5, .int .i64 i_6), (9, .bool (decide (i_6 < ((t_2.length : Nat) : Int)))), (12, .sl (t_2.map (SV (AV.int .i64))) none), (13, .int .i64 i_6), (14, .rop [.sl (x_11.map (AV.int .i64)) none]), (15, .sl (x_11.map (AV.int .i64)) none), (16, .int .i64 ((x_11.length : Nat) : Int)), (17, .ptr 0 0), (18, .sl (l_1.Funds.map A_api_Fund) none), (19, .int .i64 ((l_1.Funds.length : Nat) : Int))]) (by simp) (by kernel_rfl) ⟨LGet.of hx_11 rfl, lenM _ _, lenM _ _, trivial⟩ (by kernel_rfl) ?_
          exact DrO.nil rfl
        · dsimp only [List.getLastD_cons, List.getLastD_nil]
          refine runH 1 [] [1, 2, 5, 20] [] (mkS 27 [(1, .sl (t_2.map (SV (AV.int .i64))) none), (2, .ptr 0 0), (5, .int .i64 i_6), (20, .bool (((x_11.length : Nat) : Int) != ((l_1.Funds.length : Nat) : Int)))]) (⟨[(C_api_Ledger l_1)], []⟩) (by kernel_rfl) trivial ?_
          refine ExO.nil ?_
          rcases condI h with ⟨hc_12, h⟩ | ⟨hc_12, h⟩
          · refine Ex.condT _ rfl hc_12 ?_
            refine Ex.seq ?_
            refine regH 1 [] [4] [] (mkS 27 [(4, .bool false)]) (⟨[(C_api_Ledger l_1)], []⟩) (by kernel_rfl) trivial rfl ?_
            refine Ex.ret ?_
            obtain rfl := Option.some.inj h
            exact ⟨.inr rfl, .bool false, by kernel_rfl, by kernel_rfl, by kernel_rfl, by kernel_rfl⟩
          · refine Ex.condF _ rfl hc_12 ?_
            refine Ex.skip ?_
            refine regH 3 [] [1, 2, 5] [] (mkS 27 [(1, .sl (t_2.map (SV (AV.int .i64))) none), (2, .ptr 0 0), (5, .int .i64 (IntKind.i64.wrap (i_6 + 1)))]) (⟨[(C_api_Ledger l_1)], []⟩) (by kernel_rfl) trivial rfl ?_
            dsimp only
            exact ⟨_, _, Forgets.refl _ _ _, k, Nat.lt_succ_self k, (IntKind.i64.wrap (i_6 + 1)), h, rfl, rfl⟩
      · refine Ex.condF _ rfl hc_10 ?_
        refine Ex.exit ?_
        (try simp only [reduceCtorEq, AEx.ex.injEq, Nat.reduceEqDiff, if_true, if_false])
        exact ⟨_, _, forgetK [1, 2], h, rfl, rfl⟩
  · rintro a S ⟨h, rfl, rfl⟩
    subst hK_5
    refine Ex.seq ?_
    refine regH 7 [(1, .eq (.int .i64 ((t_2.length : Nat) : Int))), (4, .eq (.int .i64 ((l_1.Bills.length : Nat) : Int)))] [4] [AV.int .i64 (((t_2.map (SV (AV.int .i64))).length : Nat) : Int) = AV.int .i64 ((t_2.length : Nat) : Int), AV.int .i64 (((l_1.Bills.map A_api_Bill).length : Nat) : Int) = AV.int .i64 ((l_1.Bills.length : Nat) : Int)] (mkS 27 [(4, .bool (((t_2.length : Nat) : Int) == ((l_1.Bills.length : Nat) : Int)))]) (⟨[(C_api_Ledger l_1)], []⟩) (by kernel_rfl) ⟨lenM _ _, lenM _ _, trivial⟩ rfl ?_
    refine Ex.ret ?_
    obtain rfl := Option.some.inj h
    exact ⟨.inr rfl, .bool (((t_2.length : Nat) : Int) == ((l_1.Bills.length : Nat) : Int)), by kernel_rfl, by kernel_rfl, by kernel_rfl, by kernel_rfl⟩
def p_bl9_CoinPaid (N : Nat) (nums_1 : (List Int)) : Option (Bool) := ((p_bk_DrumOf N nums_1).bind fun r_2 => ((p_bk_Drum_Any N r_2 [10, 100, 100000]).bind fun r_3 => ((p_bk_LedgerOf N r_3.2 6 6 r_3.1).bind fun r_4 => ((p_coin_Trace N r_4.1).bind fun r_5 => (bif (r_5.2 != 0) then (bif (r_5.2 == 4) then ((p_bl9_awake N).bind fun r_8 => some r_8) else some false) else ((p_bl9_square N r_4.1 r_5.1).bind fun r_9 => (bif (!r_9) then some false else ((mkI ((r_4.1.Funds.length : Nat) : Int)).bind fun k_11 => (letJ (fun (w_12 : List Int) => (letJ (fun (w_26 : List Int) => (letJ (fun (_ : Unit) => (letJ (fun (_ : Unit) => ((p_bl9_awake N).bind fun r_124 => some r_124)) (fun k_84 => (loop1 (fun rec_88 (i_87 : Int) => (bif (decide (i_87 < ((r_5.1.length : Nat) : Int))) then (letJ (fun (_ : Unit) => (rec_88 (IntKind.i64.wrap (i_87 + 1)))) (fun k_92 => (loop1 (fun rec_96 (f_95 : Int) => ((getI r_5.1 i_87).bind fun x_99 => (bif (decide (f_95 < ((x_99.length : Nat) : Int))) then (letJ (fun (_ : Unit) => (rec_96 (IntKind.i64.wrap (f_95 + 1)))) (fun k_101 => (loop1 (fun rec_105 (later_104 : Int) => ((getI r_5.1 i_87).bind fun x_108 => (bif (decide (later_104 < ((x_108.length : Nat) : Int))) then (letJ (fun (y_110 : Bool) => (bif y_110 then some false else (rec_105 (IntKind.i64.wrap (later_104 + 1))))) (fun k_111 => ((getI r_5.1 i_87).bind fun x_114 => ((getI x_114 later_104).bind fun x_115 => (bif (decide (x_115 > 0)) then ((idxI f_95 k_11).bind fun u_117 => ((w_26[Int.toNat f_95]?).bind fun x_118 => (bif (decide (x_118 > 0)) then ((getI r_4.1.Funds f_95).bind fun x_120 => ((getI r_4.1.Bills i_87).bind fun x_121 => ((p_br9_Can N x_120 x_121).bind fun r_122 => (k_111 r_122)))) else (k_111 false)))) else (k_111 false)))))) else (k_101 ())))) N (IntKind.i64.wrap (f_95 + 1))))) else (k_92 ())))) N 0))) else (k_84 ()))) N 0)))) (fun k_73 => (loop1 (fun rec_77 (f_76 : Int) => (bif (decide (f_76 < ((k_11 : Nat) : Int))) then ((idxI f_76 k_11).bind fun u_81 => ((w_26[Int.toNat f_76]?).bind fun x_82 => (bif (decide (x_82 < 0)) then some false else (rec_77 (IntKind.i64.wrap (f_76 + 1)))))) else (k_73 ()))) N 0)))) (fun k_27 => (loop2 (fun rec_32 (i_30 : Int) (w_31 : List Int) => (bif (decide (i_30 < ((r_5.1.length : Nat) : Int))) then ((getI r_5.1 i_30).bind fun x_36 => ((p_bk_Sum N x_36).bind fun r_37 => ((getI r_4.1.Bills i_30).bind fun x_38 => (bif (r_37 != x_38.Amount) then some false else (letJ (fun (w_41 : List Int) => (rec_32 (IntKind.i64.wrap (i_30 + 1)) w_41)) (fun k_42 => (loop2 (fun rec_47 (f_45 : Int) (w_46 : List Int) => ((getI r_5.1 i_30).bind fun x_50 => (bif (decide (f_45 < ((x_50.length : Nat) : Int))) then ((idxI f_45 k_11).bind fun u_52 => ((w_46[Int.toNat f_45]?).bind fun x_53 => ((getI r_5.1 i_30).bind fun x_54 => ((getI x_54 f_45).bind fun x_55 => ((idxI f_45 k_11).bind fun u_56 => ((setI w_46 f_45 (fun (y_57 : Int) => (IntKind.i64.wrap (x_53 - x_55)))).bind fun z_58 => (letJ (fun (y_59 : Bool) => (bif y_59 then some false else (rec_47 (IntKind.i64.wrap (f_45 + 1)) z_58))) (fun k_60 => ((getI r_5.1 i_30).bind fun x_63 => ((getI x_63 f_45).bind fun x_64 => (bif (decide (x_64 < 0)) then (k_60 true) else ((getI r_5.1 i_30).bind fun x_66 => ((getI x_66 f_45).bind fun x_67 => (bif (decide (x_67 > 0)) then ((getI r_4.1.Funds f_45).bind fun x_69 => ((getI r_4.1.Bills i_30).bind fun x_70 => ((p_br9_Can N x_69 x_70).bind fun r_71 => (k_60 (!r_71))))) else (k_60 false))))))))))))))) else (k_42 w_46)))) N 0 w_31))))))) else (k_27 w_31))) N 0 w_12)))) (fun k_13 => (loop2 (fun rec_18 (f_16 : Int) (w_17 : List Int) => (bif (decide (f_16 < ((r_4.1.Funds.length : Nat) : Int))) then ((getI r_4.1.Funds f_16).bind fun x_22 => ((idxI f_16 k_11).bind fun u_23 => ((setI w_17 f_16 (fun (y_24 : Int) => x_22.Amount)).bind fun z_25 => (rec_18 (IntKind.i64.wrap (f_16 + 1)) z_25)))) else (k_13 w_17))) N 0 (List.replicate k_11 0))))))))))))
def v_bl9_CoinPaid (r : Bool) : AV := .bool r
attribute [local simp] v_bl9_CoinPaid
theorem d_bl9_CoinPaid (N : Nat) (nums_1 : (List Int)) (r : Bool) (h : p_bl9_CoinPaid N nums_1 = some r) : Does Try.prog 6 [.sl (nums_1.map (AV.int .i64)) none] [] fun v c => v = v_bl9_CoinPaid r ∧ c = [] := by
  unfold p_bl9_CoinPaid at h
  refine Does.ofL comp6 _ _ rfl rfl ?_
  refine Ex.seq ?_
  refine regH 1 [] [0] [] (mkS 198 [(0, .sl (nums_1.map (AV.int .i64)) none)]) (⟨[], []⟩) (by kernel_rfl) trivial rfl ?_
  refine Ex.seq ?_
  obtain ⟨r_2, hr_2, h⟩ := Option.bind_eq_some_iff.1 h
  refine Ex.reg ?_
  refine runH 1 [] [15] [] (mkS 198 [(15, .sl (nums_1.map (AV.int .i64)) none)]) (⟨[], []⟩) (by kernel_rfl) trivial ?_
  refine ExO.callL (v' := .ptr 0 0) [] [.sl (nums_1.map (AV.int .i64)) none] rfl rfl (a_bk_DrumOf nums_1) rfl rfl (d_bk_DrumOf N nums_1 r_2 hr_2) rfl (by simp) ?_
  refine runH 1 [] [3] [] (mkS 198 [(3, .ptr 0 0)]) (⟨[(C_bk_Drum r_2)], []⟩) (by kernel_rfl) trivial ?_
  refine ExO.nil ?_
  refine Ex.seq ?_
  obtain ⟨r_3, hr_3, h⟩ := Option.bind_eq_some_iff.1 h
  refine Ex.reg ?_
  refine runH 3 [] [17, 18, 19] [] (mkS 198 [(17, .ptr 0 0), (18, .ptr 0 0), (19, .sl (([10, 100, 100000] : List Int).map (AV.int .i64)) (some 0))]) (⟨[(C_bk_Drum r_2)], [(3, 1)]⟩) (by kernel_rfl) trivial ?_
  refine ExO.callL [0] [.ptr 0 0, .sl (([10, 100, 100000] : List Int).map (AV.int .i64)) (some 0)] rfl rfl (by simp; try rfl) rfl (by simp) (d_bk_Drum_Any N r_2 [10, 100, 100000] r_3 hr_3) (b_bk_Drum_Any _ _ _ _) (by simp) ?_
  obtain ⟨r_4, hr_4, h⟩ := Option.bind_eq_some_iff.1 h
  refine ExO.callL [0] [.ptr 0 0, .int .i64 6, .int .i64 6, .int .i64 r_3.1] rfl rfl (by simp; try rfl) rfl (by simp) (d_bk_LedgerOf N r_3.2 6 6 r_3.1 r_4 hr_4) (b_bk_LedgerOf _ _ _ _) (by simp) ?_
  refine runH 2 [] [4] [] (mkS 198 [(4, .ptr 1 0)]) (⟨[(C_bk_Drum r_4.2), (C_api_Ledger r_4.1)], [(3, 1)]⟩) (by kernel_rfl) trivial ?_
  refine ExO.nil ?_
  refine Ex.seq ?_
  obtain ⟨r_5, hr_5, h⟩ := Option.bind_eq_some_iff.1 h
  refine Ex.reg ?_
  refine runH 1 [] [4, 23] [] (mkS 198 [(4, .ptr 1 0), (23, (A_api_Ledger r_4.1))]) (⟨[(C_bk_Drum r_4.2), (C_api_Ledger r_4.1)], [(3, 1)]⟩) (by kernel_rfl) trivial ?_
  refine ExO.callL [] [(A_api_Ledger r_4.1)] rfl rfl (a_coin_Trace r_4.1) rfl rfl (d_coin_Trace N r_4.1 r_5 hr_5) (b_coin_Trace _ _ _ _) rfl ?_
  refine runH 5 [] [4, 5, 6] [] (mkS 198 [(4, .ptr 1 0), (5, .sl (r_5.1.map (SV (AV.int .i64))) none), (6, .int .i64 r_5.2)]) (⟨[(C_bk_Drum r_4.2), (C_api_Ledger r_4.1)], [(3, 1)]⟩) (by kernel_rfl) trivial ?_
  refine ExO.nil ?_
  refine Ex.seq ?_
  refine Ex.seq ?_
  refine regH 2 [] [4, 5, 6, 28] [] (mkS 198 [(4, .ptr 1 0), (5, .sl (r_5.1.map (SV (AV.int .i64))) none), (6, .int .i64 r_5.2), (28, .bool (r_5.2 != 0))]) (⟨[(C_bk_Drum r_4.2), (C_api_Ledger r_4.1)], [(3, 1)]⟩) (by kernel_rfl) trivial rfl ?_
  rcases condI h with ⟨hc_6, h⟩ | ⟨hc_6, h⟩
  · refine Ex.condT _ rfl hc_6 ?_
    refine Ex.seq ?_
    rcases condI h with ⟨hc_7, h⟩ | ⟨hc_7, h⟩
    · obtain ⟨r_8, hr_8, h⟩ := Option.bind_eq_some_iff.1 h
      refine Ex.reg ?_
      refine runH 3 [(2, .eq (.bool true))] [31] [AV.bool (r_5.2 == 4) = AV.bool true] (mkS 198 [(31, .bool true)]) (⟨[(C_bk_Drum r_4.2), (C_api_Ledger r_4.1)], [(3, 1)]⟩) (by kernel_rfl) ⟨congrArg AV.bool hc_7, trivial⟩ ?_
      refine ExO.callL [] [] rfl rfl (a_bl9_awake) rfl rfl (d_bl9_awake N r_8 hr_8) (b_bl9_awake _ _ _ _) rfl ?_
      refine runH 2 [] [2] [] (mkS 198 [(2, .bool r_8)]) (⟨[(C_bk_Drum r_4.2), (C_api_Ledger r_4.1)], [(3, 1)]⟩) (by kernel_rfl) trivial ?_
      refine ExO.nil ?_
      refine Ex.ret ?_
      obtain rfl := Option.some.inj h
      exact ⟨.inr rfl, .bool r_8, by kernel_rfl, by kernel_rfl, by kernel_rfl, by kernel_rfl⟩
    · refine regH 6 [(2, .eq (.bool false))] [2] [AV.bool (r_5.2 == 4) = AV.bool false] (mkS 198 [(2, .bool false)]) (⟨[(C_bk_Drum r_4.2), (C_api_Ledger r_4.1)], [(3, 1)]⟩) (by kernel_rfl) ⟨congrArg AV.bool hc_7, trivial⟩ rfl ?_
      refine Ex.ret ?_
      obtain rfl := Option.some.inj h
      exact ⟨.inr rfl, .bool false, by kernel_rfl, by kernel_rfl, by kernel_rfl, by kernel_rfl⟩
  · refine Ex.condF _ rfl hc_6 ?_
    refine Ex.skip ?_
    refine Ex.seq ?_
    refine Ex.seq ?_
    obtain ⟨r_9, hr_9, h⟩ := Option.bind_eq_some_iff.1 h
    refine Ex.reg ?_
    refine runH 2 [] [4, 5, 34, 35] [] (mkS 198 [(4, .ptr 1 0), (5, .sl (r_5.1.map (SV (AV.int .i64))) none), (34, (A_api_Ledger r_4.1)), (35, .sl (r_5.1.map (SV (AV.int .i64))) none)]) (⟨[(C_bk_Drum r_4.2), (C_api_Ledger r_4.1)], [(3, 1)]⟩) (by kernel_rfl) trivial ?_
    refine ExO.callL [] [(A_api_Ledger r_4.1), .sl (r_5.1.map (SV (AV.int .i64))) none] rfl rfl (a_bl9_square r_4.1 r_5.1) rfl rfl (d_bl9_square N r_4.1 r_5.1 r_9 hr_9) (b_bl9_square _ _ _ _) rfl ?_
    refine runH 1 [] [4, 5, 37] [] (mkS 198 [(4, .ptr 1 0), (5, .sl (r_5.1.map (SV (AV.int .i64))) none), (37, .bool (!r_9))]) (⟨[(C_bk_Drum r_4.2), (C_api_Ledger r_4.1)], [(3, 1)]⟩) (by kernel_rfl) trivial ?_
    refine ExO.nil ?_
    rcases condI h with ⟨hc_10, h⟩ | ⟨hc_10, h⟩
    · refine Ex.condT _ rfl hc_10 ?_
      refine Ex.seq ?_
      refine regH 1 [] [2] [] (mkS 198 [(2, .bool false)]) (⟨[(C_bk_Drum r_4.2), (C_api_Ledger r_4.1)], [(3, 1)]⟩) (by kernel_rfl) trivial rfl ?_
      refine Ex.ret ?_
      obtain rfl := Option.some.inj h
      exact ⟨.inr rfl, .bool false, by kernel_rfl, by kernel_rfl, by kernel_rfl, by kernel_rfl⟩
    · refine Ex.condF _ rfl hc_10 ?_
      refine Ex.skip ?_
      refine Ex.seq ?_
      obtain ⟨k_11, hk_11, h⟩ := Option.bind_eq_some_iff.1 h
      refine regH 5 [(2, .eq (.int .i64 ((r_4.1.Funds.length : Nat) : Int))), (3, .mk (flat ((List.replicate k_11 0).map (AV.int .i64))) k_11)] [4, 5, 7] [AV.int .i64 (((r_4.1.Funds.map A_api_Fund).length : Nat) : Int) = AV.int .i64 ((r_4.1.Funds.length : Nat) : Int), ((r_4.1.Funds.length : Nat) : Int) = ((k_11 : Nat) : Int) ∧ k_11 ≤ 65536 ∧ rep [.int .i64 0] k_11 = (flat ((List.replicate k_11 0).map (AV.int .i64)))] (mkS 198 [(4, .ptr 1 0), (5, .sl (r_5.1.map (SV (AV.int .i64))) none), (7, .ms 2 k_11 1)]) (⟨[(C_bk_Drum r_4.2), (C_api_Ledger r_4.1), (flat ((List.replicate k_11 0).map (AV.int .i64)))], [(3, 1)]⟩) (by kernel_rfl) ⟨lenM _ _, mk_of (f := (AV.int .i64)) 0 rfl hk_11, trivial⟩ rfl ?_
      refine Ex.seq ?_
      refine Ex.seq ?_
      refine regH 1 [] [4, 5, 7, 8] [] (mkS 198 [(4, .ptr 1 0), (5, .sl (r_5.1.map (SV (AV.int .i64))) none), (7, .ms 2 k_11 1), (8, .int .i64 0)]) (⟨[(C_bk_Drum r_4.2), (C_api_Ledger r_4.1), (flat ((List.replicate k_11 0).map (AV.int .i64)))], [(3, 1)]⟩) (by kernel_rfl) trivial rfl ?_
      obtain ⟨K_14, hK_15, h⟩ := letE h
      refine Ex.blockJ (fun a S => ∃ (w_12 : List Int), K_14 w_12 = some r ∧ a = mkS 198 [(4, .ptr 1 0), (5, .sl (r_5.1.map (SV (AV.int .i64))) none), (7, .ms 2 k_11 1)] ∧ S = ⟨[(C_bk_Drum r_4.2), (C_api_Ledger r_4.1), (flat (w_12.map (AV.int .i64)))], []⟩) ?_ ?_
      · obtain ⟨B_19, hB_20, h⟩ := loop2I h
        refine Ex.loopF (fun k a S => ∃ (f_16 : Int), ∃ (w_17 : List Int), loop2 B_19 k f_16 w_17 = some r ∧ a = mkS 198 [(4, .ptr 1 0), (5, .sl (r_5.1.map (SV (AV.int .i64))) none), (7, .ms 2 k_11 1), (8, .int .i64 f_16)] ∧ S = ⟨[(C_bk_Drum r_4.2), (C_api_Ledger r_4.1), (flat (w_17.map (AV.int .i64)))], []⟩) N ⟨_, _, forgetA (m := 198) 3 [] [(4, .ptr 1 0), (5, .sl (r_5.1.map (SV (AV.int .i64))) none), (7, .ms 2 k_11 1), (8, .int .i64 0)] [(C_bk_Drum r_4.2), (C_api_Ledger r_4.1), (flat ((List.replicate k_11 0).map (AV.int .i64)))] [] (by simp [setAll]) (by simp) ⟨rfl, (reN (cleanII _ _)), rfl, rfl, trivial⟩ (mapMC (show List.mapM (re 3 []) (C_bk_Drum r_4.2) = some (C_bk_Drum r_4.2) by simp) (mapMC (show List.mapM (re 3 []) (C_api_Ledger r_4.1) = some (C_api_Ledger r_4.1) by simp) (mapMC (flat_re (f := (AV.int .i64)) (fun _ => rfl) _ _ _) rfl))) rfl (by decide), 0, (List.replicate k_11 0), h, rfl, rfl⟩ ?_
        rintro k a S ⟨f_16, w_17, h, rfl, rfl⟩
        cases k with
        | zero => exact (loop2Z h).elim
        | succ k =>
          replace h := loop2S h hB_20
          refine Ex.seq ?_
          refine Ex.seq ?_
          refine regH 5 [(3, .eq (.int .i64 ((r_4.1.Funds.length : Nat) : Int)))] [4, 5, 7, 8, 46] [AV.int .i64 (((r_4.1.Funds.map A_api_Fund).length : Nat) : Int) = AV.int .i64 ((r_4.1.Funds.length : Nat) : Int)] (mkS 198 [(4, .ptr 1 0), (5, .sl (r_5.1.map (SV (AV.int .i64))) none), (7, .ms 2 k_11 1), (8, .int .i64 f_16), (46, .bool (decide (f_16 < ((r_4.1.Funds.length : Nat) : Int))))]) (⟨[(C_bk_Drum r_4.2), (C_api_Ledger r_4.1), (flat (w_17.map (AV.int .i64)))], []⟩) (by kernel_rfl) ⟨lenM _ _, trivial⟩ rfl ?_
          rcases condI h with ⟨hc_21, h⟩ | ⟨hc_21, h⟩
          · refine Ex.condT _ rfl hc_21 ?_
            refine Ex.skip ?_
            refine Ex.seq ?_
            refine Ex.blockK ?_
            obtain ⟨x_22, hx_22, h⟩ := Option.bind_eq_some_iff.1 h
            obtain ⟨u_23, hu_23, h⟩ := Option.bind_eq_some_iff.1 h
            obtain ⟨z_25, hz_25, h⟩ := Option.bind_eq_some_iff.1 h
            refine regH 10 [(5, .rop (C_api_Fund x_22)), (8, .adm), (9, .st (flat (z_25.map (AV.int .i64))))] [4, 5, 7, 8] [LGet (r_4.1.Funds.map A_api_Fund) f_16 4 (C_api_Fund x_22), 0 ≤ f_16 ∧ f_16 < ((k_11 : Nat) : Int), 0 + Int.toNat f_16 * 1 + 1 ≤ ((flat (w_17.map (AV.int .i64)))).length ∧ layAt (flat (w_17.map (AV.int .i64))) (0 + Int.toNat f_16 * 1) [.int .i64 x_22.Amount] = (flat (z_25.map (AV.int .i64)))] (mkS 198 [(4, .ptr 1 0), (5, .sl (r_5.1.map (SV (AV.int .i64))) none), (7, .ms 2 k_11 1), (8, .int .i64 f_16)]) (⟨[(C_bk_Drum r_4.2), (C_api_Ledger r_4.1), (flat (z_25.map (AV.int .i64)))], []⟩) (by kernel_rfl) ⟨LGet.of hx_22 rfl, idxI.of hu_23, stFl (f := (AV.int .i64)) (s := 1) _ 0 1 f_16 (fun (y_24 : Int) => x_22.Amount) _ (fun _ => rfl) hz_25 rfl (by decide) (by omega) (fun _ => rfl), trivial⟩ rfl ?_
            refine regH 3 [] [4, 5, 7, 8] [] (mkS 198 [(4, .ptr 1 0), (5, .sl (r_5.1.map (SV (AV.int .i64))) none), (7, .ms 2 k_11 1), (8, .int .i64 (IntKind.i64.wrap (f_16 + 1)))]) (⟨[(C_bk_Drum r_4.2), (C_api_Ledger r_4.1), (flat (z_25.map (AV.int .i64)))], []⟩) (by kernel_rfl) trivial rfl ?_
            dsimp only
            exact ⟨_, _, Forgets.refl _ _ _, k, Nat.lt_succ_self k, (IntKind.i64.wrap (f_16 + 1)), z_25, h, rfl, rfl⟩
          · refine Ex.condF _ rfl hc_21 ?_
            refine Ex.exit ?_
            (try simp only [reduceCtorEq, AEx.ex.injEq, Nat.reduceEqDiff, if_true, if_false])
            exact ⟨_, _, forgetK [4, 5, 7], w_17, h, rfl, rfl⟩
      · rintro a S ⟨w_12, h, rfl, rfl⟩
        subst hK_15
        refine Ex.seq ?_
        refine Ex.seq ?_
        refine regH 1 [] [4, 5, 7, 9] [] (mkS 198 [(4, .ptr 1 0), (5, .sl (r_5.1.map (SV (AV.int .i64))) none), (7, .ms 2 k_11 1), (9, .int .i64 0)]) (⟨[(C_bk_Drum r_4.2), (C_api_Ledger r_4.1), (flat (w_12.map (AV.int .i64)))], []⟩) (by kernel_rfl) trivial rfl ?_
        obtain ⟨K_28, hK_29, h⟩ := letE h
        refine Ex.blockJ (fun a S => ∃ (w_26 : List Int), K_28 w_26 = some r ∧ a = mkS 198 [(4, .ptr 1 0), (5, .sl (r_5.1.map (SV (AV.int .i64))) none), (7, .ms 2 k_11 1)] ∧ S = ⟨[(C_bk_Drum r_4.2), (C_api_Ledger r_4.1), (flat (w_26.map (AV.int .i64)))], []⟩) ?_ ?_
        · obtain ⟨B_33, hB_34, h⟩ := loop2I h
          refine Ex.loopF (fun k a S => ∃ (i_30 : Int), ∃ (w_31 : List Int), loop2 B_33 k i_30 w_31 = some r ∧ a = mkS 198 [(4, .ptr 1 0), (5, .sl (r_5.1.map (SV (AV.int .i64))) none), (7, .ms 2 k_11 1), (9, .int .i64 i_30)] ∧ S = ⟨[(C_bk_Drum r_4.2), (C_api_Ledger r_4.1), (flat (w_31.map (AV.int .i64)))], []⟩) N ⟨_, _, Forgets.refl _ _ _, 0, w_12, h, rfl, rfl⟩ ?_
          rintro k a S ⟨i_30, w_31, h, rfl, rfl⟩
          cases k with
          | zero => exact (loop2Z h).elim
          | succ k =>
            replace h := loop2S h hB_34
            refine Ex.seq ?_
            refine Ex.seq ?_
            refine regH 4 [(2, .eq (.int .i64 ((r_5.1.length : Nat) : Int)))] [4, 5, 7, 9, 61] [AV.int .i64 (((r_5.1.map (SV (AV.int .i64))).length : Nat) : Int) = AV.int .i64 ((r_5.1.length : Nat) : Int)] (mkS 198 [(4, .ptr 1 0), (5, .sl (r_5.1.map (SV (AV.int .i64))) none), (7, .ms 2 k_11 1), (9, .int .i64 i_30), (61, .bool (decide (i_30 < ((r_5.1.length : Nat) : Int))))]) (⟨[(C_bk_Drum r_4.2), (C_api_Ledger r_4.1), (flat (w_31.map (AV.int .i64)))], []⟩) (by kernel_rfl) ⟨lenM _ _, trivial⟩ rfl ?_
            rcases condI h with ⟨hc_35, h⟩ | ⟨hc_35, h⟩
            · refine Ex.condT _ rfl hc_35 ?_
              refine Ex.skip ?_
              refine Ex.seq ?_
              refine Ex.blockK ?_
              refine Ex.seq ?_
              refine Ex.seq ?_
              obtain ⟨x_36, hx_36, h⟩ := Option.bind_eq_some_iff.1 h
              obtain ⟨r_37, hr_37, h⟩ := Option.bind_eq_some_iff.1 h
              obtain ⟨x_38, hx_38, h⟩ := Option.bind_eq_some_iff.1 h
              have hT_39 : DoesA Try.prog [⟨37, [.sl (x_36.map (AV.int .i64)) none], [], (v_bk_Sum r_37), []⟩] ∧ ConsA [⟨37, [.sl (x_36.map (AV.int .i64)) none], [], (v_bk_Sum r_37), []⟩] := ⟨⟨(d_bk_Sum N x_36 r_37 hr_37), rfl, trivial⟩, ⟨trivial, trivial⟩⟩
              refine Ex.drawE (a1 := mkS 198 [(4, .ptr 1 0), (5, .sl (r_5.1.map (SV (AV.int .i64))) none), (7, .ms 2 k_11 1), (9, .int .i64 i_30), (61, .bool (decide (i_30 < ((r_5.1.length : Nat) : Int)))), (64, .sl (r_5.1.map (SV (AV.int .i64))) none), (65, .int .i64 i_30), (66, .rop [.sl (x_36.map (AV.int .i64)) none]), (67, .sl (x_36.map (AV.int .i64)) none), (68, .int .i64 r_37), (69, .ptr 1 1), (70, .sl (r_4.1.Bills.map A_api_Bill) none), (71, .int .i64 i_30), (72, .rop (C_api_Bill x_38)), (73, .rop [.int .i64 x_38.Amount]), (74, .int .i64 x_38.Amount)]) (tabO_ok hT_39.1) [] [] [] ?_ ?_
              · refine drS [0, 1, 2] 4 [(2, .rop [.sl (x_36.map (AV.int .i64)) none])] [LGet (r_5.1.map (SV (AV.int .i64))) i_30 1 [.sl (x_36.map (AV.int .i64)) none]] (mkS 198 [(4, .ptr 1 0), (5, .sl (r_5.1.map (SV (AV.int .i64))) none), (7, .ms 2 k_11 1), (9, .int .i64 i_30), (61, .bool (decide (i_30 < ((r_5.1.length : Nat) : Int)))), (64, .sl (r_5.1.map (SV (AV.int .i64))) none), (65, .int .i64 i_30), (66, .rop [.sl (x_36.map (AV.int .i64)) none]), (67, .sl (x_36.map (AV.int .i64)) none)]) (by simp) (by kernel_rfl) ⟨LGet.of hx_36 rfl, trivial⟩ (by kernel_rfl) ?_
                refine drC hT_39.2 0 _ [.sl (x_36.map (AV.int .i64)) none] (v_bk_Sum r_37) rfl rfl rfl rfl rfl (fun _ => rfl) rfl (by simp; try rfl) (fun _ => b_bk_Sum _ _ _ _) ?_
                refine drS [0, 1, 2] 6 [(3, .rop (C_api_Bill x_38))] [LGet (r_4.1.Bills.map A_api_Bill) i_30 3 (C_api_Bill x_38)] (mkS 198 [(4, .ptr 1 0), (5, .sl (r_5.1.map (SV (AV.int .i64))) none), (7, .ms 2 k_11 1), (9, .int .i64 i_30), (61, .bool (decide (i_30 < ((r_5.1.length : Nat) : Int)))), (64, .sl (r_5.1.map (SV (AV.int .i64))) none), (65, .int .i64 i_30), (66, .rop [.sl (x_36.map (AV.int .i64)) none]), (67, .sl (x_36.map (AV.int .i64)) none), (68, .int .i64 r_37), (69, .ptr 1 1), (70, .sl (r_4.1.Bills.map A_api_Bill) none), (71, .int .i64 i_30), (72, .rop (C_api_Bill x_38)), (73, .rop [.int .i64 x_38.Amount]), (74, .int .i64 x_38.Amount)]) (by simp) (by kernel_rfl) ⟨LGet.of hx_38 rfl, trivial⟩ (by kernel_rfl) ?_
                exact DrO.nil rfl
              · dsimp only [List.getLastD_cons, List.getLastD_nil]
                refine runH 1 [] [4, 5, 7, 9, 75] [] (mkS 198 [(4, .ptr 1 0), (5, .sl (r_5.1.map (SV (AV.int .i64))) none), (7, .ms 2 k_11 1), (9, .int .i64 i_30), (75, .bool (r_37 != x_38.Amount))]) (⟨[(C_bk_Drum r_4.2), (C_api_Ledger r_4.1), (flat (w_31.map (AV.int .i64)))], []⟩) (by kernel_rfl) trivial ?_
                refine ExO.nil ?_
                rcases condI h with ⟨hc_40, h⟩ | ⟨hc_40, h⟩
                · refine Ex.condT _ rfl hc_40 ?_
                  refine Ex.seq ?_
                  refine regH 1 [] [2] [] (mkS 198 [(2, .bool false)]) (⟨[(C_bk_Drum r_4.2), (C_api_Ledger r_4.1), (flat (w_31.map (AV.int .i64)))], []⟩) (by kernel_rfl) trivial rfl ?_
                  refine Ex.ret ?_
                  obtain rfl := Option.some.inj h
                  exact ⟨.inr rfl, .bool false, by kernel_rfl, by kernel_rfl, by kernel_rfl, by kernel_rfl⟩
                · refine Ex.condF _ rfl hc_40 ?_
                  refine Ex.skip ?_
                  refine Ex.seq ?_
                  refine regH 1 [] [4, 5, 7, 9, 10] [] (mkS 198 [(4, .ptr 1 0), (5, .sl (r_5.1.map (SV (AV.int .i64))) none), (7, .ms 2 k_11 1), (9, .int .i64 i_30), (10, .int .i64 0)]) (⟨[(C_bk_Drum r_4.2), (C_api_Ledger r_4.1), (flat (w_31.map (AV.int .i64)))], []⟩) (by kernel_rfl) trivial rfl ?_
                  obtain ⟨K_43, hK_44, h⟩ := letE h
                  refine Ex.blockJ (fun a S => ∃ (w_41 : List Int), K_43 w_41 = some r ∧ a = mkS 198 [(4, .ptr 1 0), (5, .sl (r_5.1.map (SV (AV.int .i64))) none), (7, .ms 2 k_11 1), (9, .int .i64 i_30)] ∧ S = ⟨[(C_bk_Drum r_4.2), (C_api_Ledger r_4.1), (flat (w_41.map (AV.int .i64)))], []⟩) ?_ ?_
                  · obtain ⟨B_48, hB_49, h⟩ := loop2I h
                    refine Ex.loopF (fun k a S => ∃ (f_45 : Int), ∃ (w_46 : List Int), loop2 B_48 k f_45 w_46 = some r ∧ a = mkS 198 [(4, .ptr 1 0), (5, .sl (r_5.1.map (SV (AV.int .i64))) none), (7, .ms 2 k_11 1), (9, .int .i64 i_30), (10, .int .i64 f_45)] ∧ S = ⟨[(C_bk_Drum r_4.2), (C_api_Ledger r_4.1), (flat (w_46.map (AV.int .i64)))], []⟩) N ⟨_, _, Forgets.refl _ _ _, 0, w_31, h, rfl, rfl⟩ ?_
                    rintro k a S ⟨f_45, w_46, h, rfl, rfl⟩
                    cases k with
                    | zero => exact (loop2Z h).elim
                    | succ k =>
                      replace h := loop2S h hB_49
                      refine Ex.seq ?_
                      refine Ex.seq ?_
                      obtain ⟨x_50, hx_50, h⟩ := Option.bind_eq_some_iff.1 h
                      refine regH 7 [(3, .rop [.sl (x_50.map (AV.int .i64)) none]), (5, .eq (.int .i64 ((x_50.length : Nat) : Int)))] [4, 5, 7, 9, 10, 82] [LGet (r_5.1.map (SV (AV.int .i64))) i_30 1 [.sl (x_50.map (AV.int .i64)) none], AV.int .i64 (((x_50.map (AV.int .i64)).length : Nat) : Int) = AV.int .i64 ((x_50.length : Nat) : Int)] (mkS 198 [(4, .ptr 1 0), (5, .sl (r_5.1.map (SV (AV.int .i64))) none), (7, .ms 2 k_11 1), (9, .int .i64 i_30), (10, .int .i64 f_45), (82, .bool (decide (f_45 < ((x_50.length : Nat) : Int))))]) (⟨[(C_bk_Drum r_4.2), (C_api_Ledger r_4.1), (flat (w_46.map (AV.int .i64)))], []⟩) (by kernel_rfl) ⟨LGet.of hx_50 rfl, lenM _ _, trivial⟩ rfl ?_
                      rcases condI h with ⟨hc_51, h⟩ | ⟨hc_51, h⟩
                      · refine Ex.condT _ rfl hc_51 ?_
                        refine Ex.skip ?_
                        refine Ex.seq ?_
                        refine Ex.blockK ?_
                        refine Ex.seq ?_
                        obtain ⟨u_52, hu_52, h⟩ := Option.bind_eq_some_iff.1 h
                        obtain ⟨x_53, hx_53, h⟩ := Option.bind_eq_some_iff.1 h
                        obtain ⟨x_54, hx_54, h⟩ := Option.bind_eq_some_iff.1 h
                        obtain ⟨x_55, hx_55, h⟩ := Option.bind_eq_some_iff.1 h
                        refine Ex.drawE (a1 := mkS 198 [(4, .ptr 1 0), (5, .sl (r_5.1.map (SV (AV.int .i64))) none), (7, .ms 2 k_11 1), (9, .int .i64 i_30), (10, .int .i64 f_45), (82, .bool (decide (f_45 < ((x_50.length : Nat) : Int)))), (85, .ms 2 k_11 1), (86, .int .i64 f_45), (87, .ms 2 k_11 1), (88, .int .i64 f_45), (89, .ptr 2 (0 + Int.toNat f_45 * 1)), (90, .int .i64 x_53), (91, .sl (r_5.1.map (SV (AV.int .i64))) none), (92, .int .i64 i_30), (93, .rop [.sl (x_54.map (AV.int .i64)) none]), (94, .sl (x_54.map (AV.int .i64)) none), (95, .int .i64 f_45), (96, .rop [.int .i64 x_55]), (97, .int .i64 x_55), (98, .int .i64 (IntKind.i64.wrap (x_53 - x_55)))]) (noClr_ok _) [] [] [] ?_ ?_
                        · refine drS [0, 1, 2] 14 [(4, .adm), (5, .ld (.int .i64 x_53)), (8, .rop [.sl (x_54.map (AV.int .i64)) none]), (11, .rop [.int .i64 x_55])] [0 ≤ f_45 ∧ f_45 < ((k_11 : Nat) : Int), takeCells (flat (w_46.map (AV.int .i64))) (0 + Int.toNat f_45 * 1) none = some (.int .i64 x_53), LGet (r_5.1.map (SV (AV.int .i64))) i_30 1 [.sl (x_54.map (AV.int .i64)) none], LGet (x_54.map (AV.int .i64)) f_45 1 [.int .i64 x_55]] (mkS 198 [(4, .ptr 1 0), (5, .sl (r_5.1.map (SV (AV.int .i64))) none), (7, .ms 2 k_11 1), (9, .int .i64 i_30), (10, .int .i64 f_45), (82, .bool (decide (f_45 < ((x_50.length : Nat) : Int)))), (85, .ms 2 k_11 1), (86, .int .i64 f_45), (87, .ms 2 k_11 1), (88, .int .i64 f_45), (89, .ptr 2 (0 + Int.toNat f_45 * 1)), (90, .int .i64 x_53), (91, .sl (r_5.1.map (SV (AV.int .i64))) none), (92, .int .i64 i_30), (93, .rop [.sl (x_54.map (AV.int .i64)) none]), (94, .sl (x_54.map (AV.int .i64)) none), (95, .int .i64 f_45), (96, .rop [.int .i64 x_55]), (97, .int .i64 x_55), (98, .int .i64 (IntKind.i64.wrap (x_53 - x_55)))]) (by simp) (by kernel_rfl) ⟨idxI.of hu_52, ldFl (f := (AV.int .i64)) (s := 1) w_46 _ 0 f_45 x_53 (.int .i64 x_53) (fun _ => rfl) hx_53 rfl (by omega), LGet.of hx_54 rfl, LGet.of hx_55 rfl, trivial⟩ (by kernel_rfl) ?_
                          exact DrO.nil rfl
                        · dsimp only [List.getLastD_cons, List.getLastD_nil]
                          obtain ⟨u_56, hu_56, h⟩ := Option.bind_eq_some_iff.1 h
                          obtain ⟨z_58, hz_58, h⟩ := Option.bind_eq_some_iff.1 h
                          refine runH 2 [(0, .adm), (1, .st (flat (z_58.map (AV.int .i64))))] [4, 5, 7, 9, 10] [0 ≤ f_45 ∧ f_45 < ((k_11 : Nat) : Int), 0 + Int.toNat f_45 * 1 + 1 ≤ ((flat (w_46.map (AV.int .i64)))).length ∧ layAt (flat (w_46.map (AV.int .i64))) (0 + Int.toNat f_45 * 1) [.int .i64 (IntKind.i64.wrap (x_53 - x_55))] = (flat (z_58.map (AV.int .i64)))] (mkS 198 [(4, .ptr 1 0), (5, .sl (r_5.1.map (SV (AV.int .i64))) none), (7, .ms 2 k_11 1), (9, .int .i64 i_30), (10, .int .i64 f_45)]) (⟨[(C_bk_Drum r_4.2), (C_api_Ledger r_4.1), (flat (z_58.map (AV.int .i64)))], []⟩) (by kernel_rfl) ⟨idxI.of hu_56, stFl (f := (AV.int .i64)) (s := 1) _ 0 1 f_45 (fun (y_57 : Int) => (IntKind.i64.wrap (x_53 - x_55))) _ (fun _ => rfl) hz_58 rfl (by decide) (by omega) (fun _ => rfl), trivial⟩ ?_
                          refine ExO.nil ?_
                          obtain ⟨K_61, hK_62, h⟩ := letE h
                          refine Ex.seqJ (fun a S => ∃ (y_59 : Bool), K_61 y_59 = some r ∧ a = mkS 198 [(4, .ptr 1 0), (5, .sl (r_5.1.map (SV (AV.int .i64))) none), (7, .ms 2 k_11 1), (9, .int .i64 i_30), (10, .int .i64 f_45), (131, .bool y_59)] ∧ S = ⟨[(C_bk_Drum r_4.2), (C_api_Ledger r_4.1), (flat (z_58.map (AV.int .i64)))], []⟩) ?_ ?_
                          · obtain ⟨x_63, hx_63, h⟩ := Option.bind_eq_some_iff.1 h
                            obtain ⟨x_64, hx_64, h⟩ := Option.bind_eq_some_iff.1 h
                            rcases condI h with ⟨hc_65, h⟩ | ⟨hc_65, h⟩
                            · refine dregX (noClr_ok _) [(2, .rop [.sl (x_63.map (AV.int .i64)) none]), (5, .rop [.int .i64 x_64]), (8, .eq (.bool true))] [] [4, 5, 7, 9, 10, 131] [LGet (r_5.1.map (SV (AV.int .i64))) i_30 1 [.sl (x_63.map (AV.int .i64)) none], LGet (x_63.map (AV.int .i64)) f_45 1 [.int .i64 x_64], AV.bool (decide (x_64 < 0)) = AV.bool true] [] (mkS 198 [(4, .ptr 1 0), (5, .sl (r_5.1.map (SV (AV.int .i64))) none), (7, .ms 2 k_11 1), (9, .int .i64 i_30), (10, .int .i64 f_45), (100, .sl (r_5.1.map (SV (AV.int .i64))) none), (101, .int .i64 i_30), (102, .rop [.sl (x_63.map (AV.int .i64)) none]), (103, .sl (x_63.map (AV.int .i64)) none), (104, .int .i64 f_45), (105, .rop [.int .i64 x_64]), (106, .int .i64 x_64), (107, .bool (decide (x_64 < 0))), (108, .bool true), (109, .tup []), (110, .tup []), (111, .tup []), (112, .tup []), (113, .tup []), (114, .tup []), (115, .tup []), (116, .tup []), (117, .tup []), (118, .tup []), (119, .tup []), (120, .tup []), (121, .tup []), (122, .tup []), (123, .tup []), (124, .tup []), (125, .tup []), (126, .tup []), (127, .tup [])]) (mkS 198 [(4, .ptr 1 0), (5, .sl (r_5.1.map (SV (AV.int .i64))) none), (7, .ms 2 k_11 1), (9, .int .i64 i_30), (10, .int .i64 f_45), (131, .bool true)]) (by kernel_rfl) (by kernel_rfl) ⟨LGet.of hx_63 rfl, LGet.of hx_64 rfl, congrArg AV.bool hc_65, trivial⟩ (by kernel_rfl) trivial ?_
                              (try simp only [reduceCtorEq, AEx.ex.injEq, Nat.reduceEqDiff, if_true, if_false])
                              exact ⟨_, _, Forgets.refl _ _ _, true, h, rfl, rfl⟩
                            · obtain ⟨x_66, hx_66, h⟩ := Option.bind_eq_some_iff.1 h
                              obtain ⟨x_67, hx_67, h⟩ := Option.bind_eq_some_iff.1 h
                              rcases condI h with ⟨hc_68, h⟩ | ⟨hc_68, h⟩
                              · obtain ⟨x_69, hx_69, h⟩ := Option.bind_eq_some_iff.1 h
                                obtain ⟨x_70, hx_70, h⟩ := Option.bind_eq_some_iff.1 h
                                refine Ex.drawE (a1 := mkS 198 [(4, .ptr 1 0), (5, .sl (r_5.1.map (SV (AV.int .i64))) none), (7, .ms 2 k_11 1), (9, .int .i64 i_30), (10, .int .i64 f_45), (100, .sl (r_5.1.map (SV (AV.int .i64))) none), (101, .int .i64 i_30), (102, .rop [.sl (x_63.map (AV.int .i64)) none]), (103, .sl (x_63.map (AV.int .i64)) none), (104, .int .i64 f_45), (105, .rop [.int .i64 x_64]), (106, .int .i64 x_64), (107, .bool (decide (x_64 < 0))), (108, .bool false), (109, .sl (r_5.1.map (SV (AV.int .i64))) none), (110, .int .i64 i_30), (111, .rop [.sl (x_66.map (AV.int .i64)) none]), (112, .sl (x_66.map (AV.int .i64)) none), (113, .int .i64 f_45), (114, .rop [.int .i64 x_67]), (115, .int .i64 x_67), (116, .bool (decide (x_67 > 0))), (117, .bool true), (118, .ptr 1 0), (119, .sl (r_4.1.Funds.map A_api_Fund) none), (120, .int .i64 f_45), (121, .rop (C_api_Fund x_69)), (122, (A_api_Fund x_69)), (123, .ptr 1 1), (124, .sl (r_4.1.Bills.map A_api_Bill) none), (125, .int .i64 i_30), (126, .rop (C_api_Bill x_70)), (127, (A_api_Bill x_70))]) (noClr_ok _) [] [] [] ?_ ?_
                                · refine drS [0, 1, 2] 28 [(2, .rop [.sl (x_63.map (AV.int .i64)) none]), (5, .rop [.int .i64 x_64]), (8, .eq (.bool false)), (11, .rop [.sl (x_66.map (AV.int .i64)) none]), (14, .rop [.int .i64 x_67]), (17, .eq (.bool true)), (21, .rop (C_api_Fund x_69)), (26, .rop (C_api_Bill x_70))] [LGet (r_5.1.map (SV (AV.int .i64))) i_30 1 [.sl (x_63.map (AV.int .i64)) none], LGet (x_63.map (AV.int .i64)) f_45 1 [.int .i64 x_64], AV.bool (decide (x_64 < 0)) = AV.bool false, LGet (r_5.1.map (SV (AV.int .i64))) i_30 1 [.sl (x_66.map (AV.int .i64)) none], LGet (x_66.map (AV.int .i64)) f_45 1 [.int .i64 x_67], AV.bool (decide (x_67 > 0)) = AV.bool true, LGet (r_4.1.Funds.map A_api_Fund) f_45 4 (C_api_Fund x_69), LGet (r_4.1.Bills.map A_api_Bill) i_30 3 (C_api_Bill x_70)] (mkS 198 [(4, .ptr 1 0), (5, .sl (r_5.1.map (SV (AV.int .i64))) none), (7, .ms 2 k_11 1), (9, .int .i64 i_30), (10, .int .i64 f_45), (100, .sl (r_5.1.map (SV (AV.int .i64))) none), (101, .int .i64 i_30), (102, .rop [.sl (x_63.map (AV.int .i64)) none]), (103, .sl (x_63.map (AV.int .i64)) none), (104, .int .i64 f_45), (105, .rop [.int .i64 x_64]), (106, .int .i64 x_64), (107, .bool (decide (x_64 < 0))), (108, .bool false), (109, .sl (r_5.1.map (SV (AV.int .i64))) none), (110, .int .i64 i_30), (111, .rop [.sl (x_66.map (AV.int .i64)) none]), (112, .sl (x_66.map (AV.int .i64)) none), (113, .int .i64 f_45), (114, .rop [.int .i64 x_67]), (115, .int .i64 x_67), (116, .bool (decide (x_67 > 0))), (117, .bool true), (118, .ptr 1 0), (119, .sl (r_4.1.Funds.map A_api_Fund) none), (120, .int .i64 f_45), (121, .rop (C_api_Fund x_69)), (122, (A_api_Fund x_69)), (123, .ptr 1 1), (124, .sl (r_4.1.Bills.map A_api_Bill) none), (125, .int .i64 i_30), (126, .rop (C_api_Bill x_70)), (127, (A_api_Bill x_70))]) (by simp) (by kernel_rfl) ⟨LGet.of hx_63 rfl, LGet.of hx_64 rfl, congrArg AV.bool hc_65, LGet.of hx_66 rfl, LGet.of hx_67 rfl, congrArg AV.bool hc_68, LGet.of hx_69 rfl, LGet.of hx_70 rfl, trivial⟩ (by kernel_rfl) ?_
                                  exact DrO.nil rfl
                                · dsimp only [List.getLastD_cons, List.getLastD_nil]
                                  obtain ⟨r_71, hr_71, h⟩ := Option.bind_eq_some_iff.1 h
                                  refine ExO.callL [] [(A_api_Fund x_69), (A_api_Bill x_70)] rfl rfl (a_br9_Can x_69 x_70) rfl rfl (d_br9_Can N x_69 x_70 r_71 hr_71) (b_br9_Can _ _ _ _) rfl ?_
                                  refine runH 3 [] [4, 5, 7, 9, 10, 131] [] (mkS 198 [(4, .ptr 1 0), (5, .sl (r_5.1.map (SV (AV.int .i64))) none), (7, .ms 2 k_11 1), (9, .int .i64 i_30), (10, .int .i64 f_45), (131, .bool (!r_71))]) (⟨[(C_bk_Drum r_4.2), (C_api_Ledger r_4.1), (flat (z_58.map (AV.int .i64)))], []⟩) (by kernel_rfl) trivial ?_
                                  refine ExO.nil ?_
                                  (try simp only [reduceCtorEq, AEx.ex.injEq, Nat.reduceEqDiff, if_true, if_false])
                                  exact ⟨_, _, Forgets.refl _ _ _, (!r_71), h, rfl, rfl⟩
                              · refine dregX (noClr_ok _) [(2, .rop [.sl (x_63.map (AV.int .i64)) none]), (5, .rop [.int .i64 x_64]), (8, .eq (.bool false)), (11, .rop [.sl (x_66.map (AV.int .i64)) none]), (14, .rop [.int .i64 x_67]), (17, .eq (.bool false))] [] [4, 5, 7, 9, 10, 131] [LGet (r_5.1.map (SV (AV.int .i64))) i_30 1 [.sl (x_63.map (AV.int .i64)) none], LGet (x_63.map (AV.int .i64)) f_45 1 [.int .i64 x_64], AV.bool (decide (x_64 < 0)) = AV.bool false, LGet (r_5.1.map (SV (AV.int .i64))) i_30 1 [.sl (x_66.map (AV.int .i64)) none], LGet (x_66.map (AV.int .i64)) f_45 1 [.int .i64 x_67], AV.bool (decide (x_67 > 0)) = AV.bool false] [] (mkS 198 [(4, .ptr 1 0), (5, .sl (r_5.1.map (SV (AV.int .i64))) none), (7, .ms 2 k_11 1), (9, .int .i64 i_30), (10, .int .i64 f_45), (100, .sl (r_5.1.map (SV (AV.int .i64))) none), (101, .int .i64 i_30), (102, .rop [.sl (x_63.map (AV.int .i64)) none]), (103, .sl (x_63.map (AV.int .i64)) none), (104, .int .i64 f_45), (105, .rop [.int .i64 x_64]), (106, .int .i64 x_64), (107, .bool (decide (x_64 < 0))), (108, .bool false), (109, .sl (r_5.1.map (SV (AV.int .i64))) none), (110, .int .i64 i_30), (111, .rop [.sl (x_66.map (AV.int .i64)) none]), (112, .sl (x_66.map (AV.int .i64)) none), (113, .int .i64 f_45), (114, .rop [.int .i64 x_67]), (115, .int .i64 x_67), (116, .bool (decide (x_67 > 0))), (117, .bool false), (118, .tup []), (119, .tup []), (120, .tup []), (121, .tup []), (122, .tup []), (123, .tup []), (124, .tup []), (125, .tup []), (126, .tup []), (127, .tup [])]) (mkS 198 [(4, .ptr 1 0), (5, .sl (r_5.1.map (SV (AV.int .i64))) none), (7, .ms 2 k_11 1), (9, .int .i64 i_30), (10, .int .i64 f_45), (131, .bool false)]) (by kernel_rfl) (by kernel_rfl) ⟨LGet.of hx_63 rfl, LGet.of hx_64 rfl, congrArg AV.bool hc_65, LGet.of hx_66 rfl, LGet.of hx_67 rfl, congrArg AV.bool hc_68, trivial⟩ (by kernel_rfl) trivial ?_
                                (try simp only [reduceCtorEq, AEx.ex.injEq, Nat.reduceEqDiff, if_true, if_false])
                                exact ⟨_, _, Forgets.refl _ _ _, false, h, rfl, rfl⟩
                          · rintro a S ⟨y_59, h, rfl, rfl⟩
                            subst hK_62
                            rcases condI h with ⟨hc_72, h⟩ | ⟨hc_72, h⟩
                            · refine Ex.condT _ rfl hc_72 ?_
                              refine Ex.seq ?_
                              refine regH 1 [] [2] [] (mkS 198 [(2, .bool false)]) (⟨[(C_bk_Drum r_4.2), (C_api_Ledger r_4.1), (flat (z_58.map (AV.int .i64)))], []⟩) (by kernel_rfl) trivial rfl ?_
                              refine Ex.ret ?_
                              obtain rfl := Option.some.inj h
                              exact ⟨.inr rfl, .bool false, by kernel_rfl, by kernel_rfl, by kernel_rfl, by kernel_rfl⟩
                            · refine Ex.condF _ rfl hc_72 ?_
                              refine Ex.skip ?_
                              refine regH 3 [] [4, 5, 7, 9, 10] [] (mkS 198 [(4, .ptr 1 0), (5, .sl (r_5.1.map (SV (AV.int .i64))) none), (7, .ms 2 k_11 1), (9, .int .i64 i_30), (10, .int .i64 (IntKind.i64.wrap (f_45 + 1)))]) (⟨[(C_bk_Drum r_4.2), (C_api_Ledger r_4.1), (flat (z_58.map (AV.int .i64)))], []⟩) (by kernel_rfl) trivial rfl ?_
                              dsimp only
                              exact ⟨_, _, Forgets.refl _ _ _, k, Nat.lt_succ_self k, (IntKind.i64.wrap (f_45 + 1)), z_58, h, rfl, rfl⟩
                      · refine Ex.condF _ rfl hc_51 ?_
                        refine Ex.exit ?_
                        (try simp only [reduceCtorEq, AEx.ex.injEq, Nat.reduceEqDiff, if_true, if_false])
                        exact ⟨_, _, forgetK [4, 5, 7, 9], w_46, h, rfl, rfl⟩
                  · rintro a S ⟨w_41, h, rfl, rfl⟩
                    subst hK_44
                    refine regH 3 [] [4, 5, 7, 9] [] (mkS 198 [(4, .ptr 1 0), (5, .sl (r_5.1.map (SV (AV.int .i64))) none), (7, .ms 2 k_11 1), (9, .int .i64 (IntKind.i64.wrap (i_30 + 1)))]) (⟨[(C_bk_Drum r_4.2), (C_api_Ledger r_4.1), (flat (w_41.map (AV.int .i64)))], []⟩) (by kernel_rfl) trivial rfl ?_
                    dsimp only
                    exact ⟨_, _, Forgets.refl _ _ _, k, Nat.lt_succ_self k, (IntKind.i64.wrap (i_30 + 1)), w_41, h, rfl, rfl⟩
            · refine Ex.condF _ rfl hc_35 ?_
              refine Ex.exit ?_
              (try simp only [reduceCtorEq, AEx.ex.injEq, Nat.reduceEqDiff, if_true, if_false])
              exact ⟨_, _, forgetK [4, 5, 7], w_31, h, rfl, rfl⟩
        · rintro a S ⟨w_26, h, rfl, rfl⟩
          subst hK_29
          refine Ex.seq ?_
          refine Ex.seq ?_
          refine regH 1 [] [4, 5, 7, 11] [] (mkS 198 [(4, .ptr 1 0), (5, .sl (r_5.1.map (SV (AV.int .i64))) none), (7, .ms 2 k_11 1), (11, .int .i64 0)]) (⟨[(C_bk_Drum r_4.2), (C_api_Ledger r_4.1), (flat (w_26.map (AV.int .i64)))], []⟩) (by kernel_rfl) trivial rfl ?_
          obtain ⟨K_74, hK_75, h⟩ := letE h
          refine Ex.blockJ (fun a S => K_74 () = some r ∧ a = mkS 198 [(4, .ptr 1 0), (5, .sl (r_5.1.map (SV (AV.int .i64))) none), (7, .ms 2 k_11 1)] ∧ S = ⟨[(C_bk_Drum r_4.2), (C_api_Ledger r_4.1), (flat (w_26.map (AV.int .i64)))], []⟩) ?_ ?_
          · obtain ⟨B_78, hB_79, h⟩ := loop1I h
            refine Ex.loopF (fun k a S => ∃ (f_76 : Int), loop1 B_78 k f_76 = some r ∧ a = mkS 198 [(4, .ptr 1 0), (5, .sl (r_5.1.map (SV (AV.int .i64))) none), (7, .ms 2 k_11 1), (11, .int .i64 f_76)] ∧ S = ⟨[(C_bk_Drum r_4.2), (C_api_Ledger r_4.1), (flat (w_26.map (AV.int .i64)))], []⟩) N ⟨_, _, Forgets.refl _ _ _, 0, h, rfl, rfl⟩ ?_
            rintro k a S ⟨f_76, h, rfl, rfl⟩
            cases k with
            | zero => exact (loop1Z h).elim
            | succ k =>
              replace h := loop1S h hB_79
              refine Ex.seq ?_
              refine Ex.seq ?_
              refine regH 4 [] [4, 5, 7, 11, 135] [] (mkS 198 [(4, .ptr 1 0), (5, .sl (r_5.1.map (SV (AV.int .i64))) none), (7, .ms 2 k_11 1), (11, .int .i64 f_76), (135, .bool (decide (f_76 < ((k_11 : Nat) : Int))))]) (⟨[(C_bk_Drum r_4.2), (C_api_Ledger r_4.1), (flat (w_26.map (AV.int .i64)))], []⟩) (by kernel_rfl) trivial rfl ?_
              rcases condI h with ⟨hc_80, h⟩ | ⟨hc_80, h⟩
              · refine Ex.condT _ rfl hc_80 ?_
                refine Ex.skip ?_
                refine Ex.seq ?_
                refine Ex.blockK ?_
                refine Ex.seq ?_
                obtain ⟨u_81, hu_81, h⟩ := Option.bind_eq_some_iff.1 h
                obtain ⟨x_82, hx_82, h⟩ := Option.bind_eq_some_iff.1 h
                refine regH 5 [(2, .adm), (3, .ld (.int .i64 x_82))] [4, 5, 7, 11, 142] [0 ≤ f_76 ∧ f_76 < ((k_11 : Nat) : Int), takeCells (flat (w_26.map (AV.int .i64))) (0 + Int.toNat f_76 * 1) none = some (.int .i64 x_82)] (mkS 198 [(4, .ptr 1 0), (5, .sl (r_5.1.map (SV (AV.int .i64))) none), (7, .ms 2 k_11 1), (11, .int .i64 f_76), (142, .bool (decide (x_82 < 0)))]) (⟨[(C_bk_Drum r_4.2), (C_api_Ledger r_4.1), (flat (w_26.map (AV.int .i64)))], []⟩) (by kernel_rfl) ⟨idxI.of hu_81, ldFl (f := (AV.int .i64)) (s := 1) w_26 _ 0 f_76 x_82 (.int .i64 x_82) (fun _ => rfl) hx_82 rfl (by omega), trivial⟩ rfl ?_
                rcases condI h with ⟨hc_83, h⟩ | ⟨hc_83, h⟩
                · refine Ex.condT _ rfl hc_83 ?_
                  refine Ex.seq ?_
                  refine regH 1 [] [2] [] (mkS 198 [(2, .bool false)]) (⟨[(C_bk_Drum r_4.2), (C_api_Ledger r_4.1), (flat (w_26.map (AV.int .i64)))], []⟩) (by kernel_rfl) trivial rfl ?_
                  refine Ex.ret ?_
                  obtain rfl := Option.some.inj h
                  exact ⟨.inr rfl, .bool false, by kernel_rfl, by kernel_rfl, by kernel_rfl, by kernel_rfl⟩
                · refine Ex.condF _ rfl hc_83 ?_
                  refine Ex.skip ?_
                  refine regH 3 [] [4, 5, 7, 11] [] (mkS 198 [(4, .ptr 1 0), (5, .sl (r_5.1.map (SV (AV.int .i64))) none), (7, .ms 2 k_11 1), (11, .int .i64 (IntKind.i64.wrap (f_76 + 1)))]) (⟨[(C_bk_Drum r_4.2), (C_api_Ledger r_4.1), (flat (w_26.map (AV.int .i64)))], []⟩) (by kernel_rfl) trivial rfl ?_
                  dsimp only
                  exact ⟨_, _, Forgets.refl _ _ _, k, Nat.lt_succ_self k, (IntKind.i64.wrap (f_76 + 1)), h, rfl, rfl⟩
              · refine Ex.condF _ rfl hc_80 ?_
                refine Ex.exit ?_
                (try simp only [reduceCtorEq, AEx.ex.injEq, Nat.reduceEqDiff, if_true, if_false])
                exact ⟨_, _, forgetK [4, 5, 7], h, rfl, rfl⟩
          · rintro a S ⟨h, rfl, rfl⟩
            subst hK_75
            refine Ex.seq ?_
            refine Ex.seq ?_
            refine regH 1 [] [4, 5, 7, 12] [] (mkS 198 [(4, .ptr 1 0), (5, .sl (r_5.1.map (SV (AV.int .i64))) none), (7, .ms 2 k_11 1), (12, .int .i64 0)]) (⟨[(C_bk_Drum r_4.2), (C_api_Ledger r_4.1), (flat (w_26.map (AV.int .i64)))], []⟩) (by kernel_rfl) trivial rfl ?_
            obtain ⟨K_85, hK_86, h⟩ := letE h
            refine Ex.blockJ (fun a S => K_85 () = some r ∧ a = mkS 198 [] ∧ S = ⟨[], []⟩) ?_ ?_
            · obtain ⟨B_89, hB_90, h⟩ := loop1I h
              refine Ex.loopF (fun k a S => ∃ (i_87 : Int), loop1 B_89 k i_87 = some r ∧ a = mkS 198 [(4, .ptr 1 0), (5, .sl (r_5.1.map (SV (AV.int .i64))) none), (7, .ms 2 k_11 1), (12, .int .i64 i_87)] ∧ S = ⟨[(C_bk_Drum r_4.2), (C_api_Ledger r_4.1), (flat (w_26.map (AV.int .i64)))], []⟩) N ⟨_, _, Forgets.refl _ _ _, 0, h, rfl, rfl⟩ ?_
              rintro k a S ⟨i_87, h, rfl, rfl⟩
              cases k with
              | zero => exact (loop1Z h).elim
              | succ k =>
                replace h := loop1S h hB_90
                refine Ex.seq ?_
                refine Ex.seq ?_
                refine regH 4 [(2, .eq (.int .i64 ((r_5.1.length : Nat) : Int)))] [4, 5, 7, 12, 146] [AV.int .i64 (((r_5.1.map (SV (AV.int .i64))).length : Nat) : Int) = AV.int .i64 ((r_5.1.length : Nat) : Int)] (mkS 198 [(4, .ptr 1 0), (5, .sl (r_5.1.map (SV (AV.int .i64))) none), (7, .ms 2 k_11 1), (12, .int .i64 i_87), (146, .bool (decide (i_87 < ((r_5.1.length : Nat) : Int))))]) (⟨[(C_bk_Drum r_4.2), (C_api_Ledger r_4.1), (flat (w_26.map (AV.int .i64)))], []⟩) (by kernel_rfl) ⟨lenM _ _, trivial⟩ rfl ?_
                rcases condI h with ⟨hc_91, h⟩ | ⟨hc_91, h⟩
                · refine Ex.condT _ rfl hc_91 ?_
                  refine Ex.skip ?_
                  refine Ex.seq ?_
                  refine Ex.blockK ?_
                  refine Ex.seq ?_
                  refine regH 1 [] [4, 5, 7, 12, 13] [] (mkS 198 [(4, .ptr 1 0), (5, .sl (r_5.1.map (SV (AV.int .i64))) none), (7, .ms 2 k_11 1), (12, .int .i64 i_87), (13, .int .i64 0)]) (⟨[(C_bk_Drum r_4.2), (C_api_Ledger r_4.1), (flat (w_26.map (AV.int .i64)))], []⟩) (by kernel_rfl) trivial rfl ?_
                  obtain ⟨K_93, hK_94, h⟩ := letE h
                  refine Ex.blockJ (fun a S => K_93 () = some r ∧ a = mkS 198 [(4, .ptr 1 0), (5, .sl (r_5.1.map (SV (AV.int .i64))) none), (7, .ms 2 k_11 1), (12, .int .i64 i_87)] ∧ S = ⟨[(C_bk_Drum r_4.2), (C_api_Ledger r_4.1), (flat (w_26.map (AV.int .i64)))], []⟩) ?_ ?_
                  · obtain ⟨B_97, hB_98, h⟩ := loop1I h
                    refine Ex.loopF (fun k a S => ∃ (f_95 : Int), loop1 B_97 k f_95 = some r ∧ a = mkS 198 [(4, .ptr 1 0), (5, .sl (r_5.1.map (SV (AV.int .i64))) none), (7, .ms 2 k_11 1), (12, .int .i64 i_87), (13, .int .i64 f_95)] ∧ S = ⟨[(C_bk_Drum r_4.2), (C_api_Ledger r_4.1), (flat (w_26.map (AV.int .i64)))], []⟩) N ⟨_, _, Forgets.refl _ _ _, 0, h, rfl, rfl⟩ ?_
                    rintro k a S ⟨f_95, h, rfl, rfl⟩
                    cases k with
                    | zero => exact (loop1Z h).elim
                    | succ k =>
                      replace h := loop1S h hB_98
                      refine Ex.seq ?_
                      refine Ex.seq ?_
                      obtain ⟨x_99, hx_99, h⟩ := Option.bind_eq_some_iff.1 h
                      refine regH 7 [(3, .rop [.sl (x_99.map (AV.int .i64)) none]), (5, .eq (.int .i64 ((x_99.length : Nat) : Int)))] [4, 5, 7, 12, 13, 155] [LGet (r_5.1.map (SV (AV.int .i64))) i_87 1 [.sl (x_99.map (AV.int .i64)) none], AV.int .i64 (((x_99.map (AV.int .i64)).length : Nat) : Int) = AV.int .i64 ((x_99.length : Nat) : Int)] (mkS 198 [(4, .ptr 1 0), (5, .sl (r_5.1.map (SV (AV.int .i64))) none), (7, .ms 2 k_11 1), (12, .int .i64 i_87), (13, .int .i64 f_95), (155, .bool (decide (f_95 < ((x_99.length : Nat) : Int))))]) (⟨[(C_bk_Drum r_4.2), (C_api_Ledger r_4.1), (flat (w_26.map (AV.int .i64)))], []⟩) (by kernel_rfl) ⟨LGet.of hx_99 rfl, lenM _ _, trivial⟩ rfl ?_
                      rcases condI h with ⟨hc_100, h⟩ | ⟨hc_100, h⟩
                      · refine Ex.condT _ rfl hc_100 ?_
                        refine Ex.skip ?_
                        refine Ex.seq ?_
                        refine Ex.blockK ?_
                        refine Ex.seq ?_
                        refine regH 3 [] [4, 5, 7, 12, 13, 14] [] (mkS 198 [(4, .ptr 1 0), (5, .sl (r_5.1.map (SV (AV.int .i64))) none), (7, .ms 2 k_11 1), (12, .int .i64 i_87), (13, .int .i64 f_95), (14, .int .i64 (IntKind.i64.wrap (f_95 + 1)))]) (⟨[(C_bk_Drum r_4.2), (C_api_Ledger r_4.1), (flat (w_26.map (AV.int .i64)))], []⟩) (by kernel_rfl) trivial rfl ?_
                        obtain ⟨K_102, hK_103, h⟩ := letE h
                        refine Ex.blockJ (fun a S => K_102 () = some r ∧ a = mkS 198 [(4, .ptr 1 0), (5, .sl (r_5.1.map (SV (AV.int .i64))) none), (7, .ms 2 k_11 1), (12, .int .i64 i_87), (13, .int .i64 f_95)] ∧ S = ⟨[(C_bk_Drum r_4.2), (C_api_Ledger r_4.1), (flat (w_26.map (AV.int .i64)))], []⟩) ?_ ?_
                        · obtain ⟨B_106, hB_107, h⟩ := loop1I h
                          refine Ex.loopF (fun k a S => ∃ (later_104 : Int), loop1 B_106 k later_104 = some r ∧ a = mkS 198 [(4, .ptr 1 0), (5, .sl (r_5.1.map (SV (AV.int .i64))) none), (7, .ms 2 k_11 1), (12, .int .i64 i_87), (13, .int .i64 f_95), (14, .int .i64 later_104)] ∧ S = ⟨[(C_bk_Drum r_4.2), (C_api_Ledger r_4.1), (flat (w_26.map (AV.int .i64)))], []⟩) N ⟨_, _, Forgets.refl _ _ _, (IntKind.i64.wrap (f_95 + 1)), h, rfl, rfl⟩ ?_
                          rintro k a S ⟨later_104, h, rfl, rfl⟩
                          cases k with
                          | zero => exact (loop1Z h).elim
                          | succ k =>
                            replace h := loop1S h hB_107
                            refine Ex.seq ?_
                            refine Ex.seq ?_
                            obtain ⟨x_108, hx_108, h⟩ := Option.bind_eq_some_iff.1 h
                            refine regH 7 [(3, .rop [.sl (x_108.map (AV.int .i64)) none]), (5, .eq (.int .i64 ((x_108.length : Nat) : Int)))] [4, 5, 7, 12, 13, 14, 166] [LGet (r_5.1.map (SV (AV.int .i64))) i_87 1 [.sl (x_108.map (AV.int .i64)) none], AV.int .i64 (((x_108.map (AV.int .i64)).length : Nat) : Int) = AV.int .i64 ((x_108.length : Nat) : Int)] (mkS 198 [(4, .ptr 1 0), (5, .sl (r_5.1.map (SV (AV.int .i64))) none), (7, .ms 2 k_11 1), (12, .int .i64 i_87), (13, .int .i64 f_95), (14, .int .i64 later_104), (166, .bool (decide (later_104 < ((x_108.length : Nat) : Int))))]) (⟨[(C_bk_Drum r_4.2), (C_api_Ledger r_4.1), (flat (w_26.map (AV.int .i64)))], []⟩) (by kernel_rfl) ⟨LGet.of hx_108 rfl, lenM _ _, trivial⟩ rfl ?_
                            rcases condI h with ⟨hc_109, h⟩ | ⟨hc_109, h⟩
                            · refine Ex.condT _ rfl hc_109 ?_
                              refine Ex.skip ?_
                              refine Ex.seq ?_
                              refine Ex.blockK ?_
                              obtain ⟨K_112, hK_113, h⟩ := letE h
                              refine Ex.seqJ (fun a S => ∃ (y_110 : Bool), K_112 y_110 = some r ∧ a = mkS 198 [(4, .ptr 1 0), (5, .sl (r_5.1.map (SV (AV.int .i64))) none), (7, .ms 2 k_11 1), (12, .int .i64 i_87), (13, .int .i64 f_95), (14, .int .i64 later_104), (196, .bool y_110)] ∧ S = ⟨[(C_bk_Drum r_4.2), (C_api_Ledger r_4.1), (flat (w_26.map (AV.int .i64)))], []⟩) ?_ ?_
                              · obtain ⟨x_114, hx_114, h⟩ := Option.bind_eq_some_iff.1 h
                                obtain ⟨x_115, hx_115, h⟩ := Option.bind_eq_some_iff.1 h
                                rcases condI h with ⟨hc_116, h⟩ | ⟨hc_116, h⟩
                                · obtain ⟨u_117, hu_117, h⟩ := Option.bind_eq_some_iff.1 h
                                  obtain ⟨x_118, hx_118, h⟩ := Option.bind_eq_some_iff.1 h
                                  rcases condI h with ⟨hc_119, h⟩ | ⟨hc_119, h⟩
                                  · obtain ⟨x_120, hx_120, h⟩ := Option.bind_eq_some_iff.1 h
                                    obtain ⟨x_121, hx_121, h⟩ := Option.bind_eq_some_iff.1 h
                                    refine Ex.drawE (a1 := mkS 198 [(4, .ptr 1 0), (5, .sl (r_5.1.map (SV (AV.int .i64))) none), (7, .ms 2 k_11 1), (12, .int .i64 i_87), (13, .int .i64 f_95), (14, .int .i64 later_104), (166, .bool (decide (later_104 < ((x_108.length : Nat) : Int)))), (169, .sl (r_5.1.map (SV (AV.int .i64))) none), (170, .int .i64 i_87), (171, .rop [.sl (x_114.map (AV.int .i64)) none]), (172, .sl (x_114.map (AV.int .i64)) none), (173, .int .i64 later_104), (174, .rop [.int .i64 x_115]), (175, .int .i64 x_115), (176, .bool (decide (x_115 > 0))), (177, .bool true), (178, .ms 2 k_11 1), (179, .int .i64 f_95), (180, .ptr 2 (0 + Int.toNat f_95 * 1)), (181, .int .i64 x_118), (182, .bool (decide (x_118 > 0))), (183, .bool (decide (x_118 > 0))), (184, .bool true), (185, .ptr 1 0), (186, .sl (r_4.1.Funds.map A_api_Fund) none), (187, .int .i64 f_95), (188, .rop (C_api_Fund x_120)), (189, (A_api_Fund x_120)), (190, .ptr 1 1), (191, .sl (r_4.1.Bills.map A_api_Bill) none), (192, .int .i64 i_87), (193, .rop (C_api_Bill x_121)), (194, (A_api_Bill x_121))]) (noClr_ok _) [] [] [] ?_ ?_
                                    · refine drS [0, 1, 2] 26 [(2, .rop [.sl (x_114.map (AV.int .i64)) none]), (5, .rop [.int .i64 x_115]), (8, .eq (.bool true)), (11, .adm), (12, .ld (.int .i64 x_118)), (15, .eq (.bool true)), (19, .rop (C_api_Fund x_120)), (24, .rop (C_api_Bill x_121))] [LGet (r_5.1.map (SV (AV.int .i64))) i_87 1 [.sl (x_114.map (AV.int .i64)) none], LGet (x_114.map (AV.int .i64)) later_104 1 [.int .i64 x_115], AV.bool (decide (x_115 > 0)) = AV.bool true, 0 ≤ f_95 ∧ f_95 < ((k_11 : Nat) : Int), takeCells (flat (w_26.map (AV.int .i64))) (0 + Int.toNat f_95 * 1) none = some (.int .i64 x_118), AV.bool (decide (x_118 > 0)) = AV.bool true, LGet (r_4.1.Funds.map A_api_Fund) f_95 4 (C_api_Fund x_120), LGet (r_4.1.Bills.map A_api_Bill) i_87 3 (C_api_Bill x_121)] (mkS 198 [(4, .ptr 1 0), (5, .sl (r_5.1.map (SV (AV.int .i64))) none), (7, .ms 2 k_11 1), (12, .int .i64 i_87), (13, .int .i64 f_95), (14, .int .i64 later_104), (166, .bool (decide (later_104 < ((x_108.length : Nat) : Int)))), (169, .sl (r_5.1.map (SV (AV.int .i64))) none), (170, .int .i64 i_87), (171, .rop [.sl (x_114.map (AV.int .i64)) none]), (172, .sl (x_114.map (AV.int .i64)) none), (173, .int .i64 later_104), (174, .rop [.int .i64 x_115]), (175, .int .i64 x_115), (176, .bool (decide (x_115 > 0))), (177, .bool true), (178, .ms 2 k_11 1), (179, .int .i64 f_95), (180, .ptr 2 (0 + Int.toNat f_95 * 1)), (181, .int .i64 x_118), (182, .bool (decide (x_118 > 0))), (183, .bool (decide (x_118 > 0))), (184, .bool true), (185, .ptr 1 0), (186, .sl (r_4.1.Funds.map A_api_Fund) none), (187, .int .i64 f_95), (188, .rop (C_api_Fund x_120)), (189, (A_api_Fund x_120)), (190, .ptr 1 1), (191, .sl (r_4.1.Bills.map A_api_Bill) none), (192, .int .i64 i_87), (193, .rop (C_api_Bill x_121)), (194, (A_api_Bill x_121))]) (by simp) (by kernel_rfl) ⟨LGet.of hx_114 rfl, LGet.of hx_115 rfl, congrArg AV.bool hc_116, idxI.of hu_117, ldFl (f := (AV.int .i64)) (s := 1) w_26 _ 0 f_95 x_118 (.int .i64 x_118) (fun _ => rfl) hx_118 rfl (by omega), congrArg AV.bool hc_119, LGet.of hx_120 rfl, LGet.of hx_121 rfl, trivial⟩ (by kernel_rfl) ?_
                                      exact DrO.nil rfl
                                    · dsimp only [List.getLastD_cons, List.getLastD_nil]
                                      obtain ⟨r_122, hr_122, h⟩ := Option.bind_eq_some_iff.1 h
                                      refine ExO.callL [] [(A_api_Fund x_120), (A_api_Bill x_121)] rfl rfl (a_br9_Can x_120 x_121) rfl rfl (d_br9_Can N x_120 x_121 r_122 hr_122) (b_br9_Can _ _ _ _) rfl ?_
                                      refine runH 1 [] [4, 5, 7, 12, 13, 14, 196] [] (mkS 198 [(4, .ptr 1 0), (5, .sl (r_5.1.map (SV (AV.int .i64))) none), (7, .ms 2 k_11 1), (12, .int .i64 i_87), (13, .int .i64 f_95), (14, .int .i64 later_104), (196, .bool r_122)]) (⟨[(C_bk_Drum r_4.2), (C_api_Ledger r_4.1), (flat (w_26.map (AV.int .i64)))], []⟩) (by kernel_rfl) trivial ?_
                                      refine ExO.nil ?_
                                      (try simp only [reduceCtorEq, AEx.ex.injEq, Nat.reduceEqDiff, if_true, if_false])
                                      exact ⟨_, _, Forgets.refl _ _ _, r_122, h, rfl, rfl⟩
                                  · refine dregX (noClr_ok _) [(2, .rop [.sl (x_114.map (AV.int .i64)) none]), (5, .rop [.int .i64 x_115]), (8, .eq (.bool true)), (11, .adm), (12, .ld (.int .i64 x_118)), (15, .eq (.bool false))] [] [4, 5, 7, 12, 13, 14, 196] [LGet (r_5.1.map (SV (AV.int .i64))) i_87 1 [.sl (x_114.map (AV.int .i64)) none], LGet (x_114.map (AV.int .i64)) later_104 1 [.int .i64 x_115], AV.bool (decide (x_115 > 0)) = AV.bool true, 0 ≤ f_95 ∧ f_95 < ((k_11 : Nat) : Int), takeCells (flat (w_26.map (AV.int .i64))) (0 + Int.toNat f_95 * 1) none = some (.int .i64 x_118), AV.bool (decide (x_118 > 0)) = AV.bool false] [] (mkS 198 [(4, .ptr 1 0), (5, .sl (r_5.1.map (SV (AV.int .i64))) none), (7, .ms 2 k_11 1), (12, .int .i64 i_87), (13, .int .i64 f_95), (14, .int .i64 later_104), (166, .bool (decide (later_104 < ((x_108.length : Nat) : Int)))), (169, .sl (r_5.1.map (SV (AV.int .i64))) none), (170, .int .i64 i_87), (171, .rop [.sl (x_114.map (AV.int .i64)) none]), (172, .sl (x_114.map (AV.int .i64)) none), (173, .int .i64 later_104), (174, .rop [.int .i64 x_115]), (175, .int .i64 x_115), (176, .bool (decide (x_115 > 0))), (177, .bool true), (178, .ms 2 k_11 1), (179, .int .i64 f_95), (180, .ptr 2 (0 + Int.toNat f_95 * 1)), (181, .int .i64 x_118), (182, .bool (decide (x_118 > 0))), (183, .bool (decide (x_118 > 0))), (184, .bool false), (185, .tup []), (186, .tup []), (187, .tup []), (188, .tup []), (189, .tup []), (190, .tup []), (191, .tup []), (192, .tup []), (193, .tup []), (194, .tup [])]) (mkS 198 [(4, .ptr 1 0), (5, .sl (r_5.1.map (SV (AV.int .i64))) none), (7, .ms 2 k_11 1), (12, .int .i64 i_87), (13, .int .i64 f_95), (14, .int .i64 later_104), (196, .bool false)]) (by kernel_rfl) (by kernel_rfl) ⟨LGet.of hx_114 rfl, LGet.of hx_115 rfl, congrArg AV.bool hc_116, idxI.of hu_117, ldFl (f := (AV.int .i64)) (s := 1) w_26 _ 0 f_95 x_118 (.int .i64 x_118) (fun _ => rfl) hx_118 rfl (by omega), congrArg AV.bool hc_119, trivial⟩ (by kernel_rfl) trivial ?_
                                    (try simp only [reduceCtorEq, AEx.ex.injEq, Nat.reduceEqDiff, if_true, if_false])
                                    exact ⟨_, _, Forgets.refl _ _ _, false, h, rfl, rfl⟩
                                · refine dregX (noClr_ok _) [(2, .rop [.sl (x_114.map (AV.int .i64)) none]), (5, .rop [.int .i64 x_115]), (8, .eq (.bool false))] [] [4, 5, 7, 12, 13, 14, 196] [LGet (r_5.1.map (SV (AV.int .i64))) i_87 1 [.sl (x_114.map (AV.int .i64)) none], LGet (x_114.map (AV.int .i64)) later_104 1 [.int .i64 x_115], AV.bool (decide (x_115 > 0)) = AV.bool false] [] (mkS 198 [(4, .ptr 1 0), (5, .sl (r_5.1.map (SV (AV.int .i64))) none), (7, .ms 2 k_11 1), (12, .int .i64 i_87), (13, .int .i64 f_95), (14, .int .i64 later_104), (166, .bool (decide (later_104 < ((x_108.length : Nat) : Int)))), (169, .sl (r_5.1.map (SV (AV.int .i64))) none), (170, .int .i64 i_87), (171, .rop [.sl (x_114.map (AV.int .i64)) none]), (172, .sl (x_114.map (AV.int .i64)) none), (173, .int .i64 later_104), (174, .rop [.int .i64 x_115]), (175, .int .i64 x_115), (176, .bool (decide (x_115 > 0))), (177, .bool false), (178, .tup []), (179, .tup []), (180, .tup []), (181, .tup []), (182, .tup []), (183, .bool false), (184, .bool false), (185, .tup []), (186, .tup []), (187, .tup []), (188, .tup []), (189, .tup []), (190, .tup []), (191, .tup []), (192, .tup []), (193, .tup []), (194, .tup [])]) (mkS 198 [(4, .ptr 1 0), (5, .sl (r_5.1.map (SV (AV.int .i64))) none), (7, .ms 2 k_11 1), (12, .int .i64 i_87), (13, .int .i64 f_95), (14, .int .i64 later_104), (196, .bool false)]) (by kernel_rfl) (by kernel_rfl) ⟨LGet.of hx_114 rfl, LGet.of hx_115 rfl, congrArg AV.bool hc_116, trivial⟩ (by kernel_rfl) trivial ?_
                                  (try simp only [reduceCtorEq, AEx.ex.injEq, Nat.reduceEqDiff, if_true, if_false])
                                  exact ⟨_, _, Forgets.refl _ _ _, false, h, rfl, rfl⟩
                              · rintro a S ⟨y_110, h, rfl, rfl⟩
                                subst hK_113
                                rcases condI h with ⟨hc_123, h⟩ | ⟨hc_123, h⟩
                                · refine Ex.condT _ rfl hc_123 ?_
                                  refine Ex.seq ?_
                                  refine regH 1 [] [2] [] (mkS 198 [(2, .bool false)]) (⟨[(C_bk_Drum r_4.2), (C_api_Ledger r_4.1), (flat (w_26.map (AV.int .i64)))], []⟩) (by kernel_rfl) trivial rfl ?_
                                  refine Ex.ret ?_
                                  obtain rfl := Option.some.inj h
                                  exact ⟨.inr rfl, .bool false, by kernel_rfl, by kernel_rfl, by kernel_rfl, by kernel_rfl⟩
                                · refine Ex.condF _ rfl hc_123 ?_
                                  refine Ex.skip ?_
                                  refine regH 3 [] [4, 5, 7, 12, 13, 14] [] (mkS 198 [(4, .ptr 1 0), (5, .sl (r_5.1.map (SV (AV.int .i64))) none), (7, .ms 2 k_11 1), (12, .int .i64 i_87), (13, .int .i64 f_95), (14, .int .i64 (IntKind.i64.wrap (later_104 + 1)))]) (⟨[(C_bk_Drum r_4.2), (C_api_Ledger r_4.1), (flat (w_26.map (AV.int .i64)))], []⟩) (by kernel_rfl) trivial rfl ?_
                                  dsimp only
                                  exact ⟨_, _, Forgets.refl _ _ _, k, Nat.lt_succ_self k, (IntKind.i64.wrap (later_104 + 1)), h, rfl, rfl⟩
                            · refine Ex.condF _ rfl hc_109 ?_
                              refine Ex.exit ?_
                              (try simp only [reduceCtorEq, AEx.ex.injEq, Nat.reduceEqDiff, if_true, if_false])
                              exact ⟨_, _, forgetK [4, 5, 7, 12, 13], h, rfl, rfl⟩
                        · rintro a S ⟨h, rfl, rfl⟩
                          subst hK_103
                          refine regH 3 [] [4, 5, 7, 12, 13] [] (mkS 198 [(4, .ptr 1 0), (5, .sl (r_5.1.map (SV (AV.int .i64))) none), (7, .ms 2 k_11 1), (12, .int .i64 i_87), (13, .int .i64 (IntKind.i64.wrap (f_95 + 1)))]) (⟨[(C_bk_Drum r_4.2), (C_api_Ledger r_4.1), (flat (w_26.map (AV.int .i64)))], []⟩) (by kernel_rfl) trivial rfl ?_
                          dsimp only
                          exact ⟨_, _, Forgets.refl _ _ _, k, Nat.lt_succ_self k, (IntKind.i64.wrap (f_95 + 1)), h, rfl, rfl⟩
                      · refine Ex.condF _ rfl hc_100 ?_
                        refine Ex.exit ?_
                        (try simp only [reduceCtorEq, AEx.ex.injEq, Nat.reduceEqDiff, if_true, if_false])
                        exact ⟨_, _, forgetK [4, 5, 7, 12], h, rfl, rfl⟩
                  · rintro a S ⟨h, rfl, rfl⟩
                    subst hK_94
                    refine regH 3 [] [4, 5, 7, 12] [] (mkS 198 [(4, .ptr 1 0), (5, .sl (r_5.1.map (SV (AV.int .i64))) none), (7, .ms 2 k_11 1), (12, .int .i64 (IntKind.i64.wrap (i_87 + 1)))]) (⟨[(C_bk_Drum r_4.2), (C_api_Ledger r_4.1), (flat (w_26.map (AV.int .i64)))], []⟩) (by kernel_rfl) trivial rfl ?_
                    dsimp only
                    exact ⟨_, _, Forgets.refl _ _ _, k, Nat.lt_succ_self k, (IntKind.i64.wrap (i_87 + 1)), h, rfl, rfl⟩
                · refine Ex.condF _ rfl hc_91 ?_
                  refine Ex.exit ?_
                  (try simp only [reduceCtorEq, AEx.ex.injEq, Nat.reduceEqDiff, if_true, if_false])
                  exact ⟨_, _, forgetA (m := 198) 0 [] [] [] [] (by simp [setAll]) (by simp) trivial (by simp) rfl (by decide), h, rfl, rfl⟩
            · rintro a S ⟨h, rfl, rfl⟩
              subst hK_86
              refine Ex.seq ?_
              obtain ⟨r_124, hr_124, h⟩ := Option.bind_eq_some_iff.1 h
              refine Ex.reg ?_
              refine ExO.callL [] [] rfl rfl (a_bl9_awake) rfl rfl (d_bl9_awake N r_124 hr_124) (b_bl9_awake _ _ _ _) rfl ?_
              refine runH 1 [] [2] [] (mkS 198 [(2, .bool r_124)]) (⟨[], []⟩) (by kernel_rfl) trivial ?_
              refine ExO.nil ?_
              refine Ex.ret ?_
              obtain rfl := Option.some.inj h
              exact ⟨.inr rfl, .bool r_124, by kernel_rfl, by kernel_rfl, by kernel_rfl, by kernel_rfl⟩
end Go.Proofs.Ytkpihepaaiofgaa
end
section
namespace Go.Proofs.Ytkpihepaaiofgaa
open Go.RowKit
set_option linter.unusedVariables false
set_option linter.unusedSimpArgs false
set_option maxRecDepth 10000
set_option maxHeartbeats 4000000

theorem sum_k (N : Nat) (hN : 1000 < N) (x : List Int) (hx : x.length ≤ 8) (hv : ∀ v ∈ x, 0 ≤ v ∧ v ≤ 2000000) : p_bk_Sum N x = some x.sum := by
  unfold p_bk_Sum
  simp only [letJ_eq]
  rw [foldZ' x (fun b v => IntKind.i64.wrap (b + v)) (fun b => some b) (by omega) (fun rec b => by simp only [ltE, cond_false]) (fun rec i v b hvx hi => by simp only [ltD hi, cond_true, getD_at hvx, Option.bind_some, nadd1 i (by omega)])]
  rw [foldSum (fun v : Int => v) 2000000 (by omega) x 0 (fun v hvm => by have := hv v hvm; omega) (by omega) (by omega)]
  simp
theorem setI_p (l : List Int) (i : Nat) (v : Int) (h : i < l.length) : setI l (i : Int) (fun (y : Int) => v) = some (l.set i v) := by
  have hx : l[i]? = some l[i] := List.getElem?_eq_getElem h
  unfold setI
  rw [Int.toNat_natCast, hx]
  rfl
theorem ent_at {w : List (List Int)} {j f : Nat} {x : List Int} {v : Int} (h1 : w[j]? = some x) (h2 : x[f]? = some v) : ent w j f = v := by
  unfold ent
  rw [h1, Option.bind_some, h2]
  rfl
theorem paid_law (N : Nat) (hN : 9223372036854775808 + 1000 < N) (zs : List Int) (hz : zs.length < 9223372036854775808) (haw : p_bl9_awake N = some true) : p_bl9_CoinPaid N zs = some true := by
  have hN1 : 1000 < N := by omega
  unfold p_bl9_CoinPaid
  obtain ⟨d, e⟩ := drumOf_p N zs (by omega) hz
  rw [e, Option.bind_some]; clear e
  obtain ⟨c, d1, e, hcm⟩ := any_p N d [10, 100, 100000] (by simp) (by simp)
  rw [e, Option.bind_some]; clear e
  have hcm : c = 10 ∨ c = 100 ∨ c = 100000 := by simpa using hcm
  dsimp only
  obtain ⟨L, d2, e, h⟩ := ledgerOf_p N hN1 d1 6 6 c (by omega) (by omega) (by omega) (by omega)
  rw [show p_bk_LedgerOf N d1 6 6 c = some (L, d2) from e, Option.bind_some]; clear e
  dsimp only
  have g1 := h.nf; have g2 := h.nb
  obtain ⟨cs, p, hcs, hp, ha, hl, htr⟩ := trace_s N hN1 6 6 c (by omega) (by omega) (by omega) (by omega) L h
  have hcl := hcs.1
  rcases htr with e | ⟨w, l, e, hpd⟩
  · rw [e, Option.bind_some]
    simp only [show (((4 : Int) != 0) : Bool) = true from rfl, cond_true, beq_self_eq_true, haw, Option.bind_some]
  rw [e, Option.bind_some]; clear e
  have hwl := hpd.len
  generalize hnf : L.Funds.length = nf at *
  have mk2 : mkI ((nf : Nat) : Int) = some nf := by unfold mkI; rw [if_pos (by omega)]; simp
  -- rows
  have hrow : ∀ i, i < w.length → ∃ x, w[i]? = some x ∧ x.length = nf ∧ x.sum = amt cs i ∧ ∀ (f : Nat) v, x[f]? = some v → 0 ≤ v ∧ v ≤ 2000000 ∧ (0 < v → (pay cs i).testBit f = true) := fun i hi => hpd.row i (by omega)
  have hsq : p_bl9_square N L w = some true := by
    unfold p_bl9_square
    simp only [letJ_eq]
    refine st1 w.length _ (some true) ?_ ?_ N 0 (by omega) (by omega)
    · intro rec
      simp only [ltE, cond_false]
      rw [hwl, hcl]
      simp
    · intro rec i hi
      obtain ⟨x, x1, x2, _⟩ := hrow i hi
      simp only [ltD hi, cond_true, getD_at x1, Option.bind_some, x2, hnf, bne_self_eq_false, cond_false, nadd1 i (by omega)]
  have hentB : ∀ j f, 0 ≤ ent w j f ∧ ent w j f ≤ 2000000 := fun j f => by
    by_cases hj : j < w.length
    · obtain ⟨x, x1, x2, _, x4⟩ := hrow j hj
      cases hv : x[f]? with
      | none =>
        have : ent w j f = 0 := by unfold ent; rw [x1, Option.bind_some, hv]; rfl
        omega
      | some v =>
        rw [ent_at x1 hv]
        have := x4 f v hv
        exact ⟨this.1, this.2.1⟩
    · have : ent w j f = 0 := by
        unfold ent
        rw [List.getElem?_eq_none (by omega)]
        rfl
      omega
  have hsumB : ∀ i f, i ≤ 8 → 0 ≤ ((List.range i).map fun j => ent w j f).sum ∧ ((List.range i).map fun j => ent w j f).sum ≤ 16000000 := fun i f hi => by
    have := sum_bnd (fun j => ent w j f) 2000000 (by omega) (List.range i) (fun j _ => hentB j f)
    rw [List.length_range] at this
    omega
  have hcan : ∀ (i f : Nat) (B : T_api_Bill) (F : T_api_Fund), L.Bills[i]? = some B → L.Funds[f]? = some F → ((pay cs i).testBit f = true ↔ can F B = true) := fun i f B F hB hF => by
    obtain ⟨x, e, _, q, x1, x2, x3⟩ := hcs.2 i B hB
    have : pay cs i = q := by unfold pay; rw [e]; simp [x1]
    rw [this, x3 f]
    constructor
    · rintro ⟨F', e1, e2⟩
      rw [hF] at e1
      injection e1 with e1
      rw [e1]
      exact e2
    · intro q
      exact ⟨F, hF, q⟩
  have hfund : ∀ f, f < nf → ∃ F, L.Funds[f]? = some F ∧ lft p f = F.Amount ∧ GoodFund c F := fun f hf => by
    have hF : L.Funds[f]? = some L.Funds[f] := List.getElem?_eq_getElem (by omega)
    refine ⟨_, hF, ?_, h.fund _ (List.getElem_mem _)⟩
    rw [lftAt hp (by omega), hF]
    rfl
  have hbill : ∀ i, i < w.length → ∃ B, L.Bills[i]? = some B ∧ amt cs i = B.Amount := fun i hi => by
    have hB : L.Bills[i]? = some L.Bills[i] := List.getElem?_eq_getElem (by omega)
    exact ⟨_, hB, amtAt h hcs hB⟩
  simp only [bne_self_eq_false, cond_false, hsq, Option.bind_some, Bool.not_true, hnf, mk2, letJ_eq]
  -- what the funds have
  have hnfL : nf = L.Funds.length := hnf.symm
  refine loop2_T (fun x => x = some true) (fun f v => ∃ k : Nat, f = (k : Int) ∧ k ≤ nf ∧ v.length = nf ∧ ∀ g : Nat, g < k → v[g]? = some (lft p g)) (fun f v => 100 - f.toNat) ?_ N 0 _ ⟨0, rfl, by omega, by simp, fun g hg => by omega⟩ (by omega)
  rintro rec f v ⟨k, rfl, hk, hv1, hv2⟩ ih
  by_cases hkn : k < nf
  · obtain ⟨F, hF, hFA, _⟩ := hfund k hkn
    simp only [ltD hkn, cond_true, getD_at hF, Option.bind_some, show idxI ((k : Nat) : Int) nf = some () by unfold idxI; rw [if_pos (by omega)], setI_p v k F.Amount (by omega), nadd1 k (by omega)]
    refine ih _ _ ⟨k + 1, rfl, by omega, by simp [hv1], fun g hg => ?_⟩ (by omega)
    rw [List.getElem?_set]
    by_cases hgk : k = g
    · subst hgk
      rw [if_pos rfl, if_pos (by omega), hFA]
    · rw [if_neg hgk]
      exact hv2 g (by omega)
  · have hkk : k = nf := by omega
    subst hkk
    rw [ltE, cond_false]
    -- the rows, one after the other
    refine loop2_T (fun x => x = some true) (fun i v => ∃ j : Nat, i = (j : Int) ∧ j ≤ w.length ∧ v.length = k ∧ ∀ g : Nat, g < k → v[g]? = some (lft p g - ((List.range j).map fun j => ent w j g).sum)) (fun i v => 100 - i.toNat) ?_ N 0 _ ⟨0, rfl, by omega, hv1, fun g hg => by simpa using hv2 g hg⟩ (by omega)
    rintro rec2 i v2 ⟨j, rfl, hj, hw1, hw2⟩ ih2
    by_cases hjw : j < w.length
    · obtain ⟨x, x1, x2, x3, x4⟩ := hrow j hjw
      obtain ⟨B, hB, hBA⟩ := hbill j hjw
      have hxm : ∀ v ∈ x, 0 ≤ v ∧ v ≤ 2000000 := fun v hv => by
        obtain ⟨f, hf⟩ := List.mem_iff_getElem?.1 hv
        have := x4 f v hf
        exact ⟨this.1, this.2.1⟩
      simp only [ltD hjw, cond_true, getD_at x1, Option.bind_some, sum_k N hN1 x (by omega) hxm, getD_at hB, x3, hBA, bne_self_eq_false, cond_false]
      refine loop2_T (fun x => x = some true) (fun f v => ∃ q : Nat, f = (q : Int) ∧ q ≤ k ∧ v.length = k ∧ ∀ g : Nat, g < k → v[g]? = some (lft p g - ((List.range j).map fun j => ent w j g).sum - if g < q then ent w j g else 0)) (fun f v => 100 - f.toNat) ?_ N 0 _ ⟨0, rfl, by omega, hw1, fun g hg => by simpa using hw2 g hg⟩ (by omega)
      rintro rec3 f3 v3 ⟨q, rfl, hq, hu1, hu2⟩ ih3
      by_cases hqk : q < k
      · have hxq : x[q]? = some x[q] := List.getElem?_eq_getElem (by omega)
        have hxe : ent w j q = x[q] := ent_at x1 hxq
        obtain ⟨y0, y1, y2⟩ := x4 q _ hxq
        obtain ⟨F, hF, hFA, hgF⟩ := hfund q hqk
        have hu := hu2 q hqk
        rw [if_neg (Nat.lt_irrefl q)] at hu
        have hs := hsumB j q (by omega)
        have hlq := hl q
        simp only [x2, ltD hqk, cond_true, show idxI ((q : Nat) : Int) k = some () by unfold idxI; rw [if_pos (by omega)], Option.bind_some, Int.toNat_natCast, hu, getD_at hxq]
        rw [w64 (by omega) (by omega), setI_p v3 q _ (by omega), Option.bind_some, show decide (x[q] < 0) = false from decide_eq_false (by omega), cond_false, nadd1 q (by omega)]
        have hgo := ih3 ((q + 1 : Nat) : Int) (v3.set q (lft p q - ((List.range j).map fun j => ent w j q).sum - 0 - x[q])) ⟨q + 1, rfl, by omega, by simp [hu1], fun g hg => by
          rw [List.getElem?_set]
          by_cases hgq : q = g
          · subst hgq
            rw [if_pos rfl, if_pos (by omega), if_pos (by omega), hxe]
            congr 1
            omega
          · rw [if_neg hgq, hu2 g hg]
            by_cases hgl : g < q
            · rw [if_pos hgl, if_pos (by omega)]
            · rw [if_neg hgl, if_neg (by omega)]⟩ (by omega)
        by_cases hpos : x[q] > 0
        · rw [show decide (x[q] > 0) = true from decide_eq_true hpos, cond_true, getD_at hF, Option.bind_some, canRef_p N hN1 c F B hgF, Option.bind_some, (hcan j q B F hB hF).1 (y2 hpos)]
          simp only [Bool.not_true, cond_false]
          exact hgo
        · rw [show decide (x[q] > 0) = false from decide_eq_false hpos, cond_false]
          exact hgo
      · have hqq : q = k := by omega
        subst hqq
        simp only [x2, ltE, cond_false, nadd1 j (by omega)]
        refine ih2 _ _ ⟨j + 1, rfl, by omega, hu1, fun g hg => ?_⟩ (by omega)
        rw [hu2 g hg, if_pos hg, sum_succ]
        congr 1
        omega
    · have hjj : j = cs.length := by omega
      rw [show decide ((j : Int) < ((w.length : Nat) : Int)) = false from decide_eq_false (by omega), cond_false]
      have hfin : ∀ g : Nat, g < k → v2[g]? = some (lft l g) := fun g hg => by
        rw [hw2 g hg, hpd.left g hg, hjj]
      -- no fund gives more than it has
      refine loop1_T (fun x => x = some true) (fun f => ∃ q : Nat, f = (q : Int) ∧ q ≤ k) (fun f => 100 - f.toNat) ?_ N 0 ⟨0, rfl, by omega⟩ (by omega)
      rintro rec3 f3 ⟨q, rfl, hq⟩ ih3
      by_cases hqk : q < k
      · have := hpd.l0 q
        simp only [ltD hqk, cond_true, show idxI ((q : Nat) : Int) k = some () by unfold idxI; rw [if_pos (by omega)], Option.bind_some, Int.toNat_natCast, hfin q hqk, nadd1 q (by omega)]
        rw [show decide (lft l q < 0) = false from decide_eq_false (by omega), cond_false]
        exact ih3 _ ⟨q + 1, rfl, by omega⟩ (by omega)
      · rw [show decide ((q : Int) < ((k : Nat) : Int)) = false from decide_eq_false (by omega), cond_false]
        -- no coin can be moved ahead
        refine loop1_T (fun x => x = some true) (fun i => ∃ j : Nat, i = (j : Int) ∧ j ≤ w.length) (fun i => 100 - i.toNat) ?_ N 0 ⟨0, rfl, by omega⟩ (by omega)
        rintro rec4 i4 ⟨a, rfl, haw2⟩ ih4
        by_cases hal : a < w.length
        · obtain ⟨x, x1, x2, x3, x4⟩ := hrow a hal
          obtain ⟨B, hB, hBA⟩ := hbill a hal
          have hgo4 := ih4 ((a + 1 : Nat) : Int) ⟨a + 1, rfl, by omega⟩ (by omega)
          simp only [ltD hal, cond_true, getD_at x1, Option.bind_some, x2, nadd1 a (by omega)]
          refine loop1_T (fun x => x = some true) (fun i => ∃ j : Nat, i = (j : Int) ∧ j ≤ k) (fun i => 100 - i.toNat) ?_ N 0 ⟨0, rfl, by omega⟩ (by omega)
          rintro rec5 i5 ⟨b, rfl, hb⟩ ih5
          by_cases hbk : b < k
          · have hgo5 := ih5 ((b + 1 : Nat) : Int) ⟨b + 1, rfl, by omega⟩ (by omega)
            obtain ⟨F, hF, hFA, hgF⟩ := hfund b hbk
            simp only [ltD hbk, cond_true, nadd1 b (by omega)]
            refine loop1_T (fun x => x = some true) (fun i => ∃ j : Nat, i = (j : Int) ∧ j ≤ k ∧ b < j) (fun i => 100 - i.toNat) ?_ N _ ⟨b + 1, rfl, by omega, by omega⟩ (by omega)
            rintro rec6 i6 ⟨g, rfl, hgk, hbg⟩ ih6
            by_cases hgl : g < k
            · have hxg : x[g]? = some x[g] := List.getElem?_eq_getElem (by omega)
              have hxe : ent w a g = x[g] := ent_at x1 hxg
              have hgo6 := ih6 ((g + 1 : Nat) : Int) ⟨g + 1, rfl, by omega, by omega⟩ (by omega)
              simp only [ltD hgl, cond_true, getD_at hxg, Option.bind_some, nadd1 g (by omega), show idxI ((b : Nat) : Int) k = some () by unfold idxI; rw [if_pos (by omega)], Int.toNat_natCast, hfin b hbk, getD_at hF, getD_at hB, canRef_p N hN1 c F B hgF]
              by_cases hpos : x[g] > 0
              · rw [show decide (x[g] > 0) = true from decide_eq_true hpos, cond_true]
                by_cases hlb : lft l b > 0
                · rw [show decide (lft l b > 0) = true from decide_eq_true hlb, cond_true]
                  cases hq2 : can F B with
                  | true =>
                    have hpb := (hcan a b B F hB hF).2 hq2
                    have ht := hpd.tight a b g (by omega) hbg hgl hpb (by omega)
                    have := tight_end hpd.l0 (by omega) ht
                    omega
                  | false =>
                    rw [cond_false]
                    exact hgo6
                · rw [show decide (lft l b > 0) = false from decide_eq_false hlb, cond_false]
                  exact hgo6
              · rw [show decide (x[g] > 0) = false from decide_eq_false hpos, cond_false]
                exact hgo6
            · rw [show decide ((g : Int) < ((k : Nat) : Int)) = false from decide_eq_false (by omega), cond_false]
              exact hgo5
          · rw [show decide ((b : Int) < ((k : Nat) : Int)) = false from decide_eq_false (by omega), cond_false]
            exact hgo4
        · rw [show decide ((a : Int) < ((w.length : Nat) : Int)) = false from decide_eq_false (by omega), cond_false, haw]
          rfl
theorem awake_d : p_bl9_awake 18446744073709551616 = some true := by kernel_rfl
theorem paid_m (zs : List Int) (h : zs.length < 9223372036854775808) : Does Try.prog 6 [.sl (zs.map (AV.int .i64)) none] [] fun v _ => v = .bool true :=
  (d_bl9_CoinPaid 18446744073709551616 zs true (paid_law _ (by omega) zs h awake_d)).mono fun v c h => h.1
end Go.Proofs.Ytkpihepaaiofgaa
end
section
namespace Go.Proofs.Ytkpihepaaiofgaa
open Go.RowKit Go.ChangeShapes Go.WideShapes Go.ChangeAt
set_option linter.unusedVariables false
set_option linter.unusedSimpArgs false

def nums (zs : List Int) : AV := .sl (zs.map fun z => .int .i64 z) none
theorem prog_own : ownKnob Try.prog.godebug = none := by kernel_rfl
theorem prog_laid : laidOutB Try.prog = true := by kernel_rfl

namespace coinPaid
set_option maxRecDepth 100000 in
theorem lifted (hM : ∀ zs : List Int, (∀ z ∈ zs, (Lit.int .i64 z).wf = true) → zs.length ≤ maxLen → Does Try.prog 6 [nums zs] [] fun v _ => v = .bool true) (os : Os) (started : os.Started) (H : Type) (enc : TypeId × Value → H) :
    ReturnsInHanded {} Try.checked os 6 .any (Rows.coinPaidSpec.pre6 enc Try.prog Try.f6 Rows.coinPaidRow.domain false) (Rows.coinPaidSpec.post enc Try.prog Try.f6 false true false false) := by
  refine returnsInHanded_of_change (C := Try.checked) prog_own started (by kernel_rfl) Try.func6
    (ChangeSpec.witness6 (enc := enc) (C := Try.checked) false ⟨#[], #[.slice none 0 0], []⟩ 8 (by kernel_rfl) (by kernel_rfl) (by kernel_rfl) (by kernel_rfl)) ?_
  intro W base args ds gs before hval0 hW hcnd _
  have hval : ∀ (j : Nat) t v, Try.f6.params[j]? = some t → args[j]? = some v → Value.okWide Try.prog W .any base t v := hval0
  have hW' := hW
  obtain ⟨p, q, hA0, hV, rfl, hfz, hnd⟩ := hW
  have hA : DataW.TrodAll enc Try.prog W 0 (fun _ => true) true Try.f6.params.toList args.toList ds p := hA0
  rw [Try.params6] at hA hval
  obtain ⟨v0, vs0, d0, ds0, p0, q0, hargs, rfl, rfl, h0, r0⟩ := trodAll_cons hA
  obtain ⟨rfl, rfl, rfl⟩ := trodAll_nil r0
  obtain rfl : args = #[v0] := by cases args; simp_all
  obtain ⟨rfl, rfl⟩ := trodVars_none hV
  obtain ⟨a0, len0, cap0, rfl⟩ := okWide_slice Try.underlying28 (hval 0 28 v0 rfl rfl)
  have k0 := h0
  have lt0 : ∀ x ∈ p0, x.block < W.heap.size := by obtain ⟨m, hm⟩ := k0; exact DataW.trod_lt m _ _ _ hm
  obtain ⟨zs, hwf, hlen, hvr⟩ := ints_vr Try.underlying28 Try.underlying3 (by kernel_rfl) h0
  clear hA0 hval0
  refine ((hM zs hwf hlen).law (us := #[.slice a0 len0 cap0]) ⟨rfl, fun i x u hx hu => ?_⟩).mono fun e W' ⟨he, bel⟩ => ?_
  · cases i with
    | zero => simp at hx hu; subst hx; subst hu; exact hvr
    | succ i => simp at hx
  subst he
  exact ⟨_, rfl, _, _, _, [], _, [], hW', trodAll_mk1 (shut_bool Try.underlying4 _), (trodAll_cons_mk (Below.trod prog_laid (by kernel_rfl) (of_decide_eq_true (by kernel_rfl)) k0 bel lt0) trodAll_mk0), rfl, bel.frame _, fun h => by cases h⟩

theorem frame (hM : ∀ zs : List Int, (∀ z ∈ zs, (Lit.int .i64 z).wf = true) → zs.length ≤ maxLen → Does Try.prog 6 [nums zs] [] fun v _ => v = .bool true) : Rows.CoinPaidSaid :=
  OpenClaim.holds_of_wide 6 Try.f6 rfl rfl rfl rfl rfl rfl rfl ⟨rfl, rfl, rfl, rfl, rfl⟩ rfl rfl rfl rfl rfl (by kernel_rfl) Try.func6 (by kernel_rfl)
    (of_decide_eq_true (by kernel_rfl)) (by unfold Func.isWrapper; first | (rw [if_pos (by decide +kernel)]; kernel_rfl) | (rw [if_neg (by decide +kernel)]; exact ⟨rfl, rfl⟩))
    (fun os started H enc _ => lifted hM os started H enc)
end coinPaid
end Go.Proofs.Ytkpihepaaiofgaa
end
