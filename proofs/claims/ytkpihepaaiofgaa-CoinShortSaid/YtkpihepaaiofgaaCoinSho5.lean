/- Part 6 of what the law needs: own work, put together. -/
import Derived.ProofKit
import Derived.Test.YtkpihepaaiofgaaRows
import Derived.Test.YtkpihepaaiofgaaCoinSho4
section
namespace Go.Proofs.Ytkpihepaaiofgaa
open Go.RowKit
set_option linter.unusedVariables false
set_option linter.unusedSimpArgs false
set_option maxRecDepth 10000
set_option maxHeartbeats 4000000

theorem w64 {x : Int} (h0 : -9223372036854775808 ≤ x) (h1 : x < 9223372036854775808) : IntKind.i64.wrap x = x := by
  simp [IntKind.wrap, IntKind.bits, IntKind.signed]
  omega
theorem wu64 (x : Int) : 0 ≤ IntKind.u64.wrap x ∧ IntKind.u64.wrap x < 2 ^ 64 := by
  have e : IntKind.u64.wrap x = x % 2 ^ 64 := rfl
  omega
theorem wu64_id {x : Int} (h0 : 0 ≤ x) (h1 : x < 2 ^ 64) : IntKind.u64.wrap x = x := by
  have e : IntKind.u64.wrap x = x % 2 ^ 64 := rfl
  omega

section
variable {ρ : Type} {A B C : Type}
theorem loop1_T {body : (A → Option ρ) → A → Option ρ} (T : Option ρ → Prop) (P : A → Prop) (μ : A → Nat) (h : ∀ rec a, P a → (∀ a', P a' → μ a' < μ a → T (rec a')) → T (body rec a)) : ∀ (N : Nat) (a : A), P a → μ a < N → T (loop1 body N a)
  | 0, a, _, hm => absurd hm (Nat.not_lt_zero _)
  | n + 1, a, hp, hm => h (loop1 body n) a hp fun a' hp' hm' => loop1_T T P μ h n a' hp' (by omega)
theorem loop2_T {body : (A → B → Option ρ) → A → B → Option ρ} (T : Option ρ → Prop) (P : A → B → Prop) (μ : A → B → Nat) (h : ∀ rec a b, P a b → (∀ a' b', P a' b' → μ a' b' < μ a b → T (rec a' b')) → T (body rec a b)) : ∀ (N : Nat) (a : A) (b : B), P a b → μ a b < N → T (loop2 body N a b)
  | 0, a, b, _, hm => absurd hm (Nat.not_lt_zero _)
  | n + 1, a, b, hp, hm => h (loop2 body n) a b hp fun a' b' hp' hm' => loop2_T T P μ h n a' b' hp' (by omega)
theorem loop3_T {body : (A → B → C → Option ρ) → A → B → C → Option ρ} (T : Option ρ → Prop) (P : A → B → C → Prop) (μ : A → B → C → Nat) (h : ∀ rec a b c, P a b c → (∀ a' b' c', P a' b' c' → μ a' b' c' < μ a b c → T (rec a' b' c')) → T (body rec a b c)) : ∀ (N : Nat) (a : A) (b : B) (c : C), P a b c → μ a b c < N → T (loop3 body N a b c)
  | 0, a, b, c, _, hm => absurd hm (Nat.not_lt_zero _)
  | n + 1, a, b, c, hp, hm => h (loop3 body n) a b c hp fun a' b' c' hp' hm' => loop3_T T P μ h n a' b' c' hp' (by omega)
end
theorem getI_nat {α : Type} (l : List α) (i : Nat) : getI l (i : Int) = l[i]? := by simp [getI]
theorem getI_lt {α : Type} {l : List α} {i : Int} (h0 : 0 ≤ i) (h1 : i < (l.length : Int)) : ∃ x, getI l i = some x ∧ l[i.toNat]? = some x ∧ x ∈ l := by
  have hlt : i.toNat < l.length := by omega
  refine ⟨l[i.toNat], ?_, List.getElem?_eq_getElem hlt, List.getElem_mem hlt⟩
  simp only [getI, h0, if_true]
  exact List.getElem?_eq_getElem hlt
theorem pushI_ok {α : Type} {l m : List α} (h : l.length + m.length ≤ 65536) : pushI l m = some (l ++ m) := if_pos h
theorem letJ_eq {κ ρ : Type} (K : κ) (f : κ → Option ρ) : letJ K f = f K := rfl

theorem hit_p (N : Nat) (d : T_bk_Drum) : ∃ y d', p_bk_Drum_hit N d = some (y, d') ∧ 0 ≤ y ∧ y < 2 ^ 64 := by
  refine ⟨_, _, rfl, ?_⟩
  exact wu64 _
theorem roll_p (N : Nat) (d : T_bk_Drum) (n : Int) (hn : n < 9223372036854775808) : ∃ r d', p_bk_Drum_Roll N d n = some (r, d') ∧ 0 ≤ r ∧ (n < 2 → r = 0) ∧ (2 ≤ n → r < n) := by
  unfold p_bk_Drum_Roll
  by_cases h2 : n < 2
  · simp only [h2, decide_true, cond_true]
    exact ⟨0, d, rfl, by omega, fun _ => rfl, fun h => by omega⟩
  · simp only [h2, decide_false, cond_false]
    obtain ⟨y, d', hy, h0, h1⟩ := hit_p N d
    have hu : IntKind.u64.wrap n = n := wu64_id (by omega) (by omega)
    have hnz : n ≠ 0 := by omega
    rw [hy, hu]
    simp only [Option.bind_some, nzI, hnz, if_false]
    have hsh : Int.fdiv y ((2 : Int) ^ (min (Int.toNat 1) (IntKind.bits .u64))) = y / 2 := by
      have : (2 : Int) ^ (min (Int.toNat 1) (IntKind.bits .u64)) = 2 := rfl
      rw [this, Int.fdiv_eq_ediv_of_nonneg _ (by omega)]
    rw [hsh]
    have hd0 : 0 ≤ y / 2 := by omega
    have hm : Int.tmod (y / 2) n = (y / 2) % n := Int.tmod_eq_emod_of_nonneg hd0
    have hm0 : 0 ≤ (y / 2) % n := Int.emod_nonneg _ hnz
    have hm1 : (y / 2) % n < n := Int.emod_lt_of_pos _ (by omega)
    rw [hm, w64 (x := y / 2 % n) (by omega) (by omega)]
    exact ⟨_, d', rfl, hm0, fun h => False.elim h, fun _ => hm1⟩
theorem any_p (N : Nat) (d : T_bk_Drum) (l : List Int) (hl : l ≠ []) (hlen : l.length < 1000) : ∃ r d', p_bk_Drum_Any N d l = some (r, d') ∧ r ∈ l := by
  unfold p_bk_Drum_Any
  have hpos : 0 < l.length := List.length_pos_iff.2 hl
  have hb : (((l.length : Nat) : Int) == 0) = false := by simp; omega
  rw [hb, cond_false]
  obtain ⟨r, d', h1, h2, h3, h4⟩ := roll_p N d ((l.length : Nat) : Int) (by omega)
  rw [h1]
  simp only [Option.bind_some]
  have hr : r < (l.length : Int) := by
    by_cases h : (l.length : Int) < 2
    · rw [h3 h]; omega
    · exact h4 (by omega)
  obtain ⟨x, e1, _, e3⟩ := getI_lt h2 hr
  rw [e1]
  exact ⟨x, d', rfl, e3⟩
theorem mid_p (N : Nat) (d : T_bk_Drum) (lo hi : Int) (h0 : -4611686018427387904 ≤ lo) (h1 : lo ≤ 4611686018427387903) (h2 : -4611686018427387904 ≤ hi) (h3 : hi ≤ 4611686018427387902) : ∃ r d', p_bk_Drum_Mid N d lo hi = some (r, d') ∧ lo ≤ r ∧ (lo ≤ hi → r ≤ hi) ∧ (hi < lo → r = lo) := by
  unfold p_bk_Drum_Mid
  rw [w64 (x := hi - lo) (by omega) (by omega)]
  by_cases hc : hi - lo + 1 < 9223372036854775808
  · rw [w64 (x := hi - lo + 1) (by omega) hc]
    obtain ⟨r, d', e1, e2, e3, e4⟩ := roll_p N d (hi - lo + 1) hc
    rw [e1]
    simp only [Option.bind_some]
    have hr : r ≤ hi - lo ∨ r = 0 := by
      by_cases h : hi - lo + 1 < 2
      · exact .inr (e3 h)
      · have := e4 (by omega); exact .inl (by omega)
    rw [w64 (by omega) (by omega)]
    exact ⟨_, d', rfl, by omega, fun h => by omega, fun h => by
      have := e3 (by omega)
      omega⟩
  · omega
theorem drumOf_step (N : Nat) (l : List Int) (rec : Int → Int → Option T_bk_Drum) (i q : Int) (h : i < 9223372036854775807) (h0 : 0 ≤ i) (ih : ∀ b', ∃ d, rec (i + 1) b' = some d) : ∃ d, ((p_bk_Drum_hit N (⟨q⟩ : T_bk_Drum)).bind fun r_14 => (rec (IntKind.i64.wrap (i + 1)) r_14.2.beat_)) = some d := by
  obtain ⟨y, d', g1, _, _⟩ := hit_p N ⟨q⟩
  rw [g1, w64 (x := i + 1) (by omega) (by omega)]
  exact ih _
theorem drumOf_p (N : Nat) (l : List Int) (hN : l.length < N) (hl : l.length < 9223372036854775808) : ∃ d, p_bk_DrumOf N l = some d := by
  unfold p_bk_DrumOf
  rw [letJ_eq]
  refine loop2_T (fun x => ∃ d, x = some d) (fun i b => 0 ≤ i ∧ i ≤ (l.length : Int)) (fun i b => l.length - i.toNat) ?_ N 0 _ ⟨by omega, by omega⟩ (by simpa using hN)
  rintro rec i b ⟨h0, h1⟩ ih
  by_cases hc : i < (l.length : Int)
  · rw [show decide (i < ((l.length : Nat) : Int)) = true from decide_eq_true hc, cond_true]
    obtain ⟨x, e1, _, _⟩ := getI_lt h0 hc
    rw [e1, Option.bind_some, Option.bind_some]
    exact drumOf_step N l rec i _ (by omega) h0 fun b' => ih _ _ ⟨by omega, by omega⟩ (by omega)
  · rw [show decide (i < ((l.length : Nat) : Int)) = false from decide_eq_false hc, cond_false]
    exact ⟨_, rfl⟩
section
variable {A B ρ : Type}
theorem st1 (n : Nat) (body : (Int → Option ρ) → Int → Option ρ) (r : Option ρ) (hend : ∀ rec, body rec (n : Int) = r) (hstep : ∀ rec (i : Nat), i < n → body rec (i : Int) = rec ((i + 1 : Nat) : Int)) : ∀ (N i : Nat), i ≤ n → n - i < N → loop1 body N (i : Int) = r
  | 0, i, _, h => absurd h (Nat.not_lt_zero _)
  | N + 1, i, hle, hN => by
    show body (loop1 body N) (i : Int) = _
    by_cases hlt : i < n
    · rw [hstep _ i hlt]; exact st1 n body r hend hstep N (i + 1) (by omega) (by omega)
    · have : i = n := by omega
      subst this
      exact hend _
theorem st2 (n : Nat) (st : Nat → A) (body : (Int → A → Option ρ) → Int → A → Option ρ) (r : Option ρ) (hend : ∀ rec, body rec (n : Int) (st n) = r) (hstep : ∀ rec (i : Nat), i < n → body rec (i : Int) (st i) = rec ((i + 1 : Nat) : Int) (st (i + 1))) : ∀ (N i : Nat), i ≤ n → n - i < N → loop2 body N (i : Int) (st i) = r
  | 0, i, _, h => absurd h (Nat.not_lt_zero _)
  | N + 1, i, hle, hN => by
    show body (loop2 body N) (i : Int) (st i) = _
    by_cases hlt : i < n
    · rw [hstep _ i hlt]; exact st2 n st body r hend hstep N (i + 1) (by omega) (by omega)
    · have : i = n := by omega
      subst this
      exact hend _
theorem st2z (n : Nat) (st : Nat → A) {body : (Int → A → Option ρ) → Int → A → Option ρ} {r : Option ρ} {a : A} {N : Nat} (ha : a = st 0) (hN : n < N) (hend : ∀ rec, body rec (n : Int) (st n) = r) (hstep : ∀ rec (i : Nat), i < n → body rec (i : Int) (st i) = rec ((i + 1 : Nat) : Int) (st (i + 1))) : loop2 body N 0 a = r := by
  subst ha; exact st2 n st body r hend hstep N 0 (Nat.zero_le _) (by omega)
end
theorem nadd1 (i : Nat) (h : i < 4611686018427387904) : IntKind.i64.wrap ((i : Int) + 1) = ((i + 1 : Nat) : Int) := by
  rw [w64 (x := (i : Int) + 1) (by omega) (by omega)]
  omega
theorem ltD {i n : Nat} (h : i < n) : decide ((i : Int) < ((n : Nat) : Int)) = true := decide_eq_true (by omega)
theorem ltE (n : Nat) : decide (((n : Nat) : Int) < ((n : Nat) : Int)) = false := decide_eq_false (by omega)
theorem getD_ok {α : Type} [Inhabited α] {l : List α} {i : Nat} (h : i < l.length) : getI l (i : Int) = some (l[i]?.getD default) := by
  rw [getI_nat, List.getElem?_eq_getElem h]
  rfl

theorem rare_p (N : Nat) (d : T_bk_Drum) (n : Int) (hn : n < 9223372036854775808) : ∃ b d', p_bk_Drum_Rare N d n = some (b, d') := by
  unfold p_bk_Drum_Rare
  obtain ⟨r, d', e, _⟩ := roll_p N d n hn
  rw [e]
  exact ⟨_, _, rfl⟩
theorem roll_le (N : Nat) (d : T_bk_Drum) (n : Int) (h1 : 1 ≤ n) (hn : n < 9223372036854775808) : ∃ r d', p_bk_Drum_Roll N d n = some (r, d') ∧ 0 ≤ r ∧ r < n := by
  obtain ⟨r, d', e, h0, h2, h3⟩ := roll_p N d n hn
  refine ⟨r, d', e, h0, ?_⟩
  by_cases h : n < 2
  · rw [h2 h]; omega
  · exact h3 (by omega)
theorem eqInts_t (N : Nat) (l : List Int) (h : l.length < N) (h2 : l.length < 4611686018427387904) : p_bk_EqInts N l l = some true := by
  unfold p_bk_EqInts
  simp only [letJ_eq, bne_self_eq_false, cond_false]
  refine st1 l.length _ (some true) ?_ ?_ N 0 (by omega) (by omega)
  · intro rec
    simp only [ltE, cond_false]
  · intro rec i hi
    simp only [ltD hi, cond_true, getD_ok hi, Option.bind_some, bne_self_eq_false, cond_false, nadd1 i (by omega)]

def pre (l : List Int) (i : Nat) : Int := (l.take i).sum
theorem getD_at {α : Type} [Inhabited α] {l : List α} {i : Nat} {x : α} (h : l[i]? = some x) : getI l (i : Int) = some x := by
  rw [getI_nat, h]
end Go.Proofs.Ytkpihepaaiofgaa
end
section
namespace Go.Proofs.Ytkpihepaaiofgaa
open Go.RowKit
set_option linter.unusedVariables false
set_option linter.unusedSimpArgs false
set_option maxRecDepth 10000
set_option maxHeartbeats 4000000

def bits (s : Nat) : List Nat := (List.range 8).filter fun t => s.testBit t
theorem mem_bits {s t : Nat} : t ∈ bits s ↔ t < 8 ∧ s.testBit t = true := by simp [bits]
def tzOk (s : Nat) : Bool := match p_math_bits_TrailingZeros8 0 (s : Int), bits s with
  | some t, x :: r => decide (t = (x : Int)) && (r == bits (s &&& (s - 1))) && decide ((IntKind.u8.wrap (((BitVec.ofInt (IntKind.bits .u8) (s : Int) &&& BitVec.ofInt (IntKind.bits .u8) (IntKind.u8.wrap ((s : Int) - 1))).toNat : Nat) : Int)) = ((s &&& (s - 1) : Nat) : Int))
  | _, _ => false
theorem tz_all : (List.range 256).all (fun s => s == 0 || tzOk s) = true := by kernel_rfl
theorem tz_p (N s : Nat) (h0 : s ≠ 0) (h : s < 256) : ∃ t : Nat, p_math_bits_TrailingZeros8 N (s : Int) = some (t : Int) ∧ bits s = t :: bits (s &&& (s - 1)) ∧ IntKind.u8.wrap (((BitVec.ofInt (IntKind.bits .u8) (s : Int) &&& BitVec.ofInt (IntKind.bits .u8) (IntKind.u8.wrap ((s : Int) - 1))).toNat : Nat) : Int) = ((s &&& (s - 1) : Nat) : Int) := by
  have h1 := List.all_eq_true.1 tz_all s (by simpa using h)
  have h2 : tzOk s = true := by
    rcases Bool.or_eq_true _ _ ▸ h1 with h3 | h3
    · exact absurd (by simpa using h3) h0
    · exact h3
  have hN : p_math_bits_TrailingZeros8 N (s : Int) = p_math_bits_TrailingZeros8 0 (s : Int) := rfl
  rw [hN]
  unfold tzOk at h2
  split at h2
  · rename_i t x r e1 e2
    simp only [Bool.and_eq_true, decide_eq_true_eq, beq_iff_eq] at h2
    obtain ⟨⟨h3, h4⟩, h5⟩ := h2
    exact ⟨x, by rw [e1, h3], by rw [e2, h4], h5⟩
  · cases h2
theorem low_lt (s : Nat) (h0 : s ≠ 0) : s &&& (s - 1) < s := by
  have := Nat.and_le_right (n := s) (m := s - 1)
  omega
theorem wu8 {x : Int} (h0 : 0 ≤ x) (h1 : x < 256) : IntKind.u8.wrap x = x := by
  have e : IntKind.u8.wrap x = x % 2 ^ 8 := rfl
  omega
theorem or_p (a b : Nat) (ha : a < 256) (hb : b < 256) : IntKind.u8.wrap (((BitVec.ofInt (IntKind.bits .u8) (a : Int) ||| BitVec.ofInt (IntKind.bits .u8) (b : Int)).toNat : Nat) : Int) = ((a ||| b : Nat) : Int) := by
  have e : (BitVec.ofInt 8 (a : Int) ||| BitVec.ofInt 8 (b : Int)).toNat = a ||| b := by
    rw [BitVec.toNat_or, BitVec.ofInt_natCast, BitVec.ofInt_natCast, BitVec.toNat_ofNat, BitVec.toNat_ofNat, Nat.mod_eq_of_lt (by omega), Nat.mod_eq_of_lt (by omega)]
  have hlt : a ||| b < 2 ^ 8 := Nat.or_lt_two_pow (by omega) (by omega)
  show IntKind.u8.wrap (((BitVec.ofInt 8 (a : Int) ||| BitVec.ofInt 8 (b : Int)).toNat : Nat) : Int) = _
  rw [e, wu8 (by omega) (by omega)]
theorem pow_all : (List.range 8).all (fun n => decide (IntKind.u8.wrap (1 * ((2 : Int) ^ (min (Int.toNat (n : Int)) (IntKind.bits .u8)))) = ((2 ^ n : Nat) : Int))) = true := by kernel_rfl
theorem pow_lt8 {n : Nat} (h : n < 8) : 2 ^ n < 256 := Nat.pow_lt_pow_right (a := 2) (by omega) h
theorem add_p (N s n : Nat) (hs : s < 256) (hn : n < 8) : p_coin_set_add N (s : Int) (n : Int) = some ((s ||| 2 ^ n : Nat) : Int) := by
  unfold p_coin_set_add
  have h1 := List.all_eq_true.1 pow_all n (by simpa using hn)
  simp only [decide_eq_true_eq] at h1
  have h2 : nnI (n : Int) = some () := by unfold nnI; rw [if_neg (by omega)]
  rw [h2, h1]
  simp only [Option.bind_some]
  rw [or_p s (2 ^ n) hs (pow_lt8 hn)]
theorem add_lt {s n : Nat} (hs : s < 256) (hn : n < 8) : s ||| 2 ^ n < 256 := Nat.or_lt_two_pow (n := 8) (by omega) (pow_lt8 hn)
def addAll (b : Nat) (l : List Nat) : Nat := l.foldl (fun s t => s ||| 2 ^ t) b
theorem addAll_lt : ∀ (l : List Nat) (b : Nat), b < 256 → (∀ t ∈ l, t < 8) → addAll b l < 256
  | [], b, h, _ => h
  | t :: l, b, h, hl => addAll_lt l _ (add_lt h (hl t (by simp))) fun u hu => hl u (by simp [hu])
theorem addAll_bit : ∀ (l : List Nat) (b t : Nat), (addAll b l).testBit t = (b.testBit t || decide (t ∈ l))
  | [], b, t => by simp [addAll]
  | u :: l, b, t => by
    have := addAll_bit l (b ||| 2 ^ u) t
    show (addAll (b ||| 2 ^ u) l).testBit t = _
    rw [this, Nat.testBit_or, Nat.testBit_two_pow, Bool.or_assoc]
    congr 1
    by_cases h : u = t
    · subst h; simp
    · have : t ≠ u := fun e => h e.symm
      simp [h, this]

section
variable {α A B C D ρ : Type}
theorem loop4_T {body : (A → B → C → D → Option ρ) → A → B → C → D → Option ρ} (T : Option ρ → Prop) (P : A → B → C → D → Prop) (μ : A → B → C → D → Nat) (h : ∀ rec a b c d, P a b c d → (∀ a' b' c' d', P a' b' c' d' → μ a' b' c' d' < μ a b c d → T (rec a' b' c' d')) → T (body rec a b c d)) : ∀ (N : Nat) (a : A) (b : B) (c : C) (d : D), P a b c d → μ a b c d < N → T (loop4 body N a b c d)
  | 0, a, b, c, d, _, hm => absurd hm (Nat.not_lt_zero _)
  | n + 1, a, b, c, d, hp, hm => h (loop4 body n) a b c d hp fun a' b' c' d' hp' hm' => loop4_T T P μ h n a' b' c' d' hp' (by omega)
theorem invL (l : List α) (T : Option ρ → Prop) (I : Nat → B → Prop) {body : (Int → B → Option ρ) → Int → B → Option ρ} (hend : ∀ rec b, I l.length b → T (body rec (l.length : Int) b)) (hstep : ∀ rec (i : Nat) x b, l[i]? = some x → i < l.length → I i b → (∀ b', I (i + 1) b' → T (rec ((i + 1 : Nat) : Int) b')) → T (body rec (i : Int) b)) : ∀ (N i : Nat) (b : B), i ≤ l.length → l.length - i < N → I i b → T (loop2 body N (i : Int) b)
  | 0, i, b, _, h, _ => absurd h (Nat.not_lt_zero _)
  | N + 1, i, b, hle, hN, hI => by
    show T (body (loop2 body N) (i : Int) b)
    by_cases hlt : i < l.length
    · exact hstep _ i l[i] b (List.getElem?_eq_getElem hlt) hlt hI fun b' hb' => invL l T I hend hstep N (i + 1) b' (by omega) (by omega) hb'
    · have : i = l.length := by omega
      subst this
      exact hend _ b hI
theorem invL' (l : List α) (T : Option ρ → Prop) (I : Nat → B → Prop) {body : (B → Int → Option ρ) → B → Int → Option ρ} (hend : ∀ rec b, I l.length b → T (body rec b (l.length : Int))) (hstep : ∀ rec (i : Nat) x b, l[i]? = some x → i < l.length → I i b → (∀ b', I (i + 1) b' → T (rec b' ((i + 1 : Nat) : Int))) → T (body rec b (i : Int))) : ∀ (N i : Nat) (b : B), i ≤ l.length → l.length - i < N → I i b → T (loop2 body N b (i : Int))
  | 0, i, b, _, h, _ => absurd h (Nat.not_lt_zero _)
  | N + 1, i, b, hle, hN, hI => by
    show T (body (loop2 body N) b (i : Int))
    by_cases hlt : i < l.length
    · exact hstep _ i l[i] b (List.getElem?_eq_getElem hlt) hlt hI fun b' hb' => invL' l T I hend hstep N (i + 1) b' (by omega) (by omega) hb'
    · have : i = l.length := by omega
      subst this
      exact hend _ b hI
theorem invZ (l : List α) (T : Option ρ → Prop) (I : Nat → B → Prop) {body : (Int → B → Option ρ) → Int → B → Option ρ} {N : Nat} {b : B} (hN : l.length < N) (hI : I 0 b) (hend : ∀ rec b, I l.length b → T (body rec (l.length : Int) b)) (hstep : ∀ rec (i : Nat) x b, l[i]? = some x → i < l.length → I i b → (∀ b', I (i + 1) b' → T (rec ((i + 1 : Nat) : Int) b')) → T (body rec (i : Int) b)) : T (loop2 body N 0 b) := invL l T I hend hstep N 0 b (by omega) (by omega) hI
theorem invZ' (l : List α) (T : Option ρ → Prop) (I : Nat → B → Prop) {body : (B → Int → Option ρ) → B → Int → Option ρ} {N : Nat} {b : B} (hN : l.length < N) (hI : I 0 b) (hend : ∀ rec b, I l.length b → T (body rec b (l.length : Int))) (hstep : ∀ rec (i : Nat) x b, l[i]? = some x → i < l.length → I i b → (∀ b', I (i + 1) b' → T (rec b' ((i + 1 : Nat) : Int))) → T (body rec b (i : Int))) : T (loop2 body N b 0) := invL' l T I hend hstep N 0 b (by omega) (by omega) hI
end
theorem foldSum {α : Type} (g : α → Int) (m : Int) (h0 : 0 ≤ m) : ∀ (l : List α) (b : Int), (∀ x ∈ l, -m ≤ g x ∧ g x ≤ m) → -9223372036854775808 ≤ b - m * (l.length : Int) → b + m * (l.length : Int) < 9223372036854775808 → l.foldl (fun b x => IntKind.i64.wrap (b + g x)) b = b + (l.map g).sum
  | [], b, _, _, _ => by simp
  | x :: l, b, h, h1, h2 => by
    have hx := h x (by simp)
    have e : m * ((l.length + 1 : Nat) : Int) = m * (l.length : Int) + m := by rw [Int.natCast_add, Int.mul_add]; simp
    have hp : 0 ≤ m * (l.length : Int) := Int.mul_nonneg h0 (by omega)
    simp only [List.length_cons, e] at h1 h2
    simp only [List.foldl_cons, List.map_cons, List.sum_cons]
    rw [w64 (x := b + g x) (by omega) (by omega), foldSum g m h0 l (b + g x) (fun y hy => h y (by simp [hy])) (by omega) (by omega)]
    omega
theorem sum_bnd {α : Type} (g : α → Int) (m : Int) (h0 : 0 ≤ m) : ∀ (l : List α), (∀ x ∈ l, 0 ≤ g x ∧ g x ≤ m) → 0 ≤ (l.map g).sum ∧ (l.map g).sum ≤ m * (l.length : Int)
  | [], _ => by simp
  | x :: l, h => by
    have hx := h x (by simp)
    have ih := sum_bnd g m h0 l fun y hy => h y (by simp [hy])
    have e : m * ((l.length + 1 : Nat) : Int) = m * (l.length : Int) + m := by rw [Int.natCast_add, Int.mul_add]; simp
    simp only [List.map_cons, List.sum_cons, List.length_cons, e]
    omega
theorem sum_filter (p : Nat → Bool) (g : Nat → Int) : ∀ (l : List Nat), ((l.filter p).map g).sum = (l.map fun t => if p t then g t else 0).sum
  | [] => by simp
  | x :: l => by
    have ih := sum_filter p g l
    cases hp : p x <;> simp [List.filter_cons, hp, ih]
theorem asc_len : ∀ (l : List Nat) (a b : Nat), l.Pairwise (· < ·) → (∀ t ∈ l, a ≤ t ∧ t < b) → a + l.length ≤ b ∨ l = []
  | [], a, b, _, _ => .inr rfl
  | x :: l, a, b, hp, h => by
    obtain ⟨h1, h2⟩ := List.pairwise_cons.1 hp
    have hx := h x (by simp)
    rcases asc_len l (x + 1) b h2 (fun t ht => ⟨h1 t ht, (h t (by simp [ht])).2⟩) with h3 | h3
    · left; simp; omega
    · subst h3; left; simp; omega
end Go.Proofs.Ytkpihepaaiofgaa
end
section
namespace Go.Proofs.Ytkpihepaaiofgaa
open Go.RowKit
set_option linter.unusedVariables false
set_option linter.unusedSimpArgs false
set_option maxRecDepth 10000
set_option maxHeartbeats 4000000

def GoodUses (u : List Int) (k : Int) : Prop := (u.length : Int) ≤ k ∧ u.Pairwise (· < ·) ∧ ∀ x ∈ u, 0 ≤ x ∧ x < k
def GoodFund (c : Int) (f : T_api_Fund) : Prop := 0 ≤ f.Day ∧ f.Day ≤ 9 ∧ f.Day ≤ f.Until ∧ f.Until ≤ 20 ∧ 0 ≤ f.Amount ∧ f.Amount ≤ 2 * c ∧ GoodUses f.Uses 3
def GoodBill (c : Int) (b : T_api_Bill) : Prop := 3 ≤ b.Day ∧ b.Day ≤ 12 ∧ 0 ≤ b.Use ∧ b.Use ≤ 2 ∧ 0 ≤ b.Amount ∧ b.Amount ≤ c
structure GoodL (nf nb : Nat) (c : Int) (L : T_api_Ledger) : Prop where
  nf : L.Funds.length ≤ nf
  nb : L.Bills.length ≤ nb
  fund : ∀ f ∈ L.Funds, GoodFund c f
  bill : ∀ b ∈ L.Bills, GoodBill c b
theorem goodUses_push {u : List Int} {k : Int} (h : GoodUses u k) (hk : 0 ≤ k) : GoodUses (u ++ [k]) (k + 1) := by
  obtain ⟨h1, h2, h3⟩ := h
  refine ⟨by simp; omega, ?_, ?_⟩
  · rw [List.pairwise_append]
    refine ⟨h2, by simp, fun a ha b hb => ?_⟩
    have := h3 a ha
    simp at hb
    omega
  · intro x hx
    rcases List.mem_append.1 hx with hx | hx
    · have := h3 x hx; omega
    · simp at hx; omega
theorem goodUses_up {u : List Int} {k : Int} (h : GoodUses u k) : GoodUses u (k + 1) := by
  obtain ⟨h1, h2, h3⟩ := h
  exact ⟨by omega, h2, fun x hx => by have := h3 x hx; omega⟩

theorem uses_l {ρ : Type} (N : Nat) (hN : 1000 < N) (T : Option ρ → Prop) (K : Int → List Int → Option ρ) (hK : ∀ b u, GoodUses u 3 → T (K b u)) (b0 : Int) : T (loop3 (fun rec_30 (use_27 : Int) (b_28 : Int) (b_29 : List Int) => (bif (decide (use_27 < 3)) then (letJ (fun (b_34 : Int) (b_35 : List Int) => (rec_30 (IntKind.i64.wrap (use_27 + 1)) b_34 b_35)) (fun k_36 => ((p_bk_Drum_Rare N (⟨b_28⟩ : T_bk_Drum) 3).bind fun r_39 => (bif (!r_39.1) then ((pushI b_29 ([use_27] : List Int)).bind fun l_41 => (k_36 r_39.2.beat_ l_41)) else (k_36 r_39.2.beat_ b_29))))) else (K b_28 b_29))) N 0 b0 []) := by
  refine loop3_T T (fun k b (u : List Int) => 0 ≤ k ∧ k ≤ 3 ∧ GoodUses u k) (fun k b u => 3 - k.toNat) ?_ N 0 _ [] ⟨by omega, by omega, by simp, by simp, by simp⟩ (by omega)
  rintro rec2 k b2 us ⟨k0, k3, hus⟩ ih2
  by_cases hk : k < 3
  · rw [show decide (k < 3) = true from decide_eq_true hk, cond_true, letJ_eq]
    obtain ⟨q, d6, e⟩ := rare_p N ⟨b2⟩ 3 (by omega)
    rw [e, Option.bind_some]; clear e
    have hln := hus.1
    have hw : IntKind.i64.wrap (k + 1) = k + 1 := w64 (by omega) (by omega)
    have hpu : pushI us [k] = some (us ++ [k]) := pushI_ok (by simp; omega)
    cases q with
    | true =>
      simp only [Bool.not_true, cond_false, hw]
      exact ih2 _ _ _ ⟨by omega, by omega, goodUses_up hus⟩ (by omega)
    | false =>
      simp only [Bool.not_false, cond_true, hw, hpu, Option.bind_some]
      exact ih2 _ _ _ ⟨by omega, by omega, goodUses_push hus k0⟩ (by omega)
  · rw [show decide (k < 3) = false from decide_eq_false hk, cond_false]
    have hk3 : k = 3 := by omega
    subst hk3
    exact hK _ _ hus
theorem funds_l {ρ : Type} (N : Nat) (hN : 1000 < N) (nf : Nat) (c : Int) (hnf : nf ≤ 100) (hc0 : 0 ≤ c) (hc : c ≤ 1000000) (T : Option ρ → Prop) (K : Int → List T_api_Fund → Option ρ) (hK : ∀ b l, l.length ≤ nf → (∀ f ∈ l, GoodFund c f) → T (K b l)) (r b0 : Int) (r0 : 0 ≤ r) (r1 : r ≤ (nf : Int)) : T (loop3 (fun rec_14 (i_11 : Int) (b_12 : Int) (b_13 : List T_api_Fund) => (bif (decide (i_11 > 0)) then ((p_bk_Drum_Roll N (⟨b_12⟩ : T_bk_Drum) 10).bind fun r_18 => ((p_bk_Drum_Any N r_18.2 [(IntKind.i64.wrap (r_18.1 + 4)), 20]).bind fun r_19 => ((p_bk_Drum_Mid N r_19.2 r_18.1 r_19.1).bind fun r_20 => ((p_bk_Drum_Roll N r_20.2 (IntKind.i64.wrap ((IntKind.i64.wrap (2 * c)) + 1))).bind fun r_21 => (letJ (fun (b_22 : Int) (b_23 : List Int) => ((pushI b_13 ([(⟨r_18.1, r_20.1, r_21.1, b_23⟩ : T_api_Fund)] : List T_api_Fund)).bind fun l_42 => (rec_14 (IntKind.i64.wrap (i_11 - 1)) b_22 l_42))) (fun k_24 => (loop3 (fun rec_30 (use_27 : Int) (b_28 : Int) (b_29 : List Int) => (bif (decide (use_27 < 3)) then (letJ (fun (b_34 : Int) (b_35 : List Int) => (rec_30 (IntKind.i64.wrap (use_27 + 1)) b_34 b_35)) (fun k_36 => ((p_bk_Drum_Rare N (⟨b_28⟩ : T_bk_Drum) 3).bind fun r_39 => (bif (!r_39.1) then ((pushI b_29 ([use_27] : List Int)).bind fun l_41 => (k_36 r_39.2.beat_ l_41)) else (k_36 r_39.2.beat_ b_29))))) else (k_24 b_28 b_29))) N 0 r_21.2.beat_ []))))))) else (K b_12 b_13))) N r b0 []) := by
  refine loop3_T T (fun i b (l : List T_api_Fund) => 0 ≤ i ∧ (l.length : Int) + i ≤ (nf : Int) ∧ ∀ f ∈ l, GoodFund c f) (fun i b l => i.toNat) ?_ N r _ [] ⟨r0, by simp; omega, by simp⟩ (by omega)
  rintro rec i b l ⟨i0, hi, hl⟩ ih
  by_cases hp : i > 0
  · rw [show decide (i > 0) = true from decide_eq_true hp, cond_true]
    obtain ⟨day, d2, e, h1, h2⟩ := roll_le N ⟨b⟩ 10 (by omega) (by omega)
    rw [e, Option.bind_some]; clear e
    dsimp only
    rw [w64 (x := day + 4) (by omega) (by omega)]
    obtain ⟨u, d3, e, hu⟩ := any_p N d2 [day + 4, 20] (by simp) (by simp)
    rw [e, Option.bind_some]; clear e
    dsimp only
    have hu : u = day + 4 ∨ u = 20 := by simpa using hu
    obtain ⟨til, d4, e, t0, t1, _⟩ := mid_p N d3 day u (by omega) (by omega) (by omega) (by omega)
    have t1 := t1 (by omega)
    rw [e, Option.bind_some]; clear e
    dsimp only
    rw [w64 (x := 2 * c) (by omega) (by omega), w64 (x := 2 * c + 1) (by omega) (by omega)]
    obtain ⟨am, d5, e, a0, a1⟩ := roll_le N d4 (2 * c + 1) (by omega) (by omega)
    rw [e, Option.bind_some]; clear e
    dsimp only
    rw [letJ_eq]
    refine uses_l N hN T _ (fun b3 us hus => ?_) _
    have hpu : pushI l [(⟨day, til, am, us⟩ : T_api_Fund)] = some (l ++ [⟨day, til, am, us⟩]) := pushI_ok (by simp; omega)
    rw [hpu, Option.bind_some, w64 (x := i - 1) (by omega) (by omega)]
    refine ih _ _ _ ⟨by omega, by simp; omega, ?_⟩ (by omega)
    intro f hf
    rcases List.mem_append.1 hf with hf | hf
    · exact hl f hf
    · obtain rfl := List.mem_singleton.1 hf
      refine ⟨?_, ?_, ?_, ?_, ?_, ?_, hus⟩ <;> dsimp only <;> omega
  · rw [show decide (i > 0) = false from decide_eq_false hp, cond_false]
    exact hK _ _ (by omega) hl
theorem bills_l {ρ : Type} (N : Nat) (hN : 1000 < N) (nb : Nat) (c : Int) (hnb : nb ≤ 100) (hc0 : 0 ≤ c) (hc : c ≤ 1000000) (T : Option ρ → Prop) (K : Int → List T_api_Bill → Option ρ) (hK : ∀ b l, l.length ≤ nb → (∀ f ∈ l, GoodBill c f) → T (K b l)) (r b0 : Int) (r0 : 0 ≤ r) (r1 : r ≤ (nb : Int)) : T (loop3 (fun rec_52 (i_49 : Int) (b_50 : Int) (b_51 : List T_api_Bill) => (bif (decide (i_49 > 0)) then ((p_bk_Drum_Mid N (⟨b_50⟩ : T_bk_Drum) 3 12).bind fun r_56 => ((p_bk_Drum_Roll N r_56.2 3).bind fun r_57 => ((p_bk_Drum_Roll N r_57.2 (IntKind.i64.wrap (c + 1))).bind fun r_58 => ((pushI b_51 ([(⟨r_56.1, r_57.1, r_58.1⟩ : T_api_Bill)] : List T_api_Bill)).bind fun l_60 => (rec_52 (IntKind.i64.wrap (i_49 - 1)) r_58.2.beat_ l_60))))) else (K b_50 b_51))) N r b0 []) := by
  refine loop3_T T (fun i b (l : List T_api_Bill) => 0 ≤ i ∧ (l.length : Int) + i ≤ (nb : Int) ∧ ∀ f ∈ l, GoodBill c f) (fun i b l => i.toNat) ?_ N r _ [] ⟨r0, by simp; omega, by simp⟩ (by omega)
  rintro rec3 j b3 m ⟨j0, hj, hm⟩ ih3
  by_cases hq : j > 0
  · rw [show decide (j > 0) = true from decide_eq_true hq, cond_true]
    obtain ⟨day, d8, e, h1, h2, _⟩ := mid_p N ⟨b3⟩ 3 12 (by omega) (by omega) (by omega) (by omega)
    have h2 := h2 (by omega)
    rw [e, Option.bind_some]; clear e
    dsimp only
    obtain ⟨use, d9, e, u0, u1⟩ := roll_le N d8 3 (by omega) (by omega)
    rw [e, Option.bind_some]; clear e
    dsimp only
    rw [w64 (x := c + 1) (by omega) (by omega)]
    obtain ⟨am, d10, e, a0, a1⟩ := roll_le N d9 (c + 1) (by omega) (by omega)
    rw [e, Option.bind_some]; clear e
    dsimp only
    have hpu : pushI m [(⟨day, use, am⟩ : T_api_Bill)] = some (m ++ [⟨day, use, am⟩]) := pushI_ok (by simp; omega)
    rw [hpu, Option.bind_some, w64 (x := j - 1) (by omega) (by omega)]
    refine ih3 _ _ _ ⟨by omega, by simp; omega, ?_⟩ (by omega)
    intro f hf
    rcases List.mem_append.1 hf with hf | hf
    · exact hm f hf
    · obtain rfl := List.mem_singleton.1 hf
      refine ⟨?_, ?_, ?_, ?_, ?_, ?_⟩ <;> dsimp only <;> omega
  · rw [show decide (j > 0) = false from decide_eq_false hq, cond_false]
    exact hK _ _ (by omega) hm
theorem ledgerOf_p (N : Nat) (hN : 1000 < N) (d : T_bk_Drum) (nf nb : Nat) (c : Int) (hnf : nf ≤ 100) (hnb : nb ≤ 100) (hc0 : 0 ≤ c) (hc : c ≤ 1000000) : ∃ L d', p_bk_LedgerOf N d (nf : Int) (nb : Int) c = some (L, d') ∧ GoodL nf nb c L := by
  unfold p_bk_LedgerOf
  rw [w64 (x := (nf : Int) + 1) (by omega) (by omega)]
  obtain ⟨r, d1, e, r0, r1⟩ := roll_le N d ((nf : Int) + 1) (by omega) (by omega)
  rw [e, Option.bind_some]; clear e
  dsimp only
  rw [letJ_eq]
  refine funds_l N hN nf c hnf hc0 hc (fun x => ∃ L d', x = some (L, d') ∧ GoodL nf nb c L) _ (fun b fs h1 h2 => ?_) r _ r0 (by omega)
  rw [w64 (x := (nb : Int) + 1) (by omega) (by omega)]
  obtain ⟨r2, d7, e, s0, s1⟩ := roll_le N ⟨b⟩ ((nb : Int) + 1) (by omega) (by omega)
  rw [e, Option.bind_some]; clear e
  dsimp only
  rw [letJ_eq]
  refine bills_l N hN nb c hnb hc0 hc (fun x => ∃ L d', x = some (L, d') ∧ GoodL nf nb c L) _ (fun b bs h3 h4 => ?_) r2 _ s0 (by omega)
  exact ⟨_, _, rfl, h1, h3, h2, h4⟩

theorem isDate_p (N : Nat) (n : Int) (h0 : 0 ≤ n) (h1 : n ≤ 3650) : p_coin_isDate N n = some true := by
  unfold p_coin_isDate p_coin_within
  simp [show n ≥ 0 from h0, h1]
theorem isUse_p (N : Nat) (n : Int) (h0 : 0 ≤ n) (h1 : n ≤ 7) : p_coin_isUse N n = some true := by
  unfold p_coin_isUse p_coin_within
  simp [show n ≥ 0 from h0, h1]
theorem isAmount_p (N : Nat) (n : Int) (h0 : 0 ≤ n) (h1 : n ≤ 1000000000) : p_coin_isAmount N n = some true := by
  unfold p_coin_isAmount p_coin_within
  simp [show n ≥ 0 from h0, h1]
theorem checkUses_p (N : Nat) (hN : 1000 < N) (u : List Int) (h : GoodUses u 3) : p_coin_checkUses N u = some 0 := by
  obtain ⟨h1, h2, h3⟩ := h
  unfold p_coin_checkUses
  simp only [letJ_eq]
  refine st1 u.length _ (some 0) ?_ ?_ N 0 (by omega) (by omega)
  · intro rec
    simp only [ltE, cond_false]
  · intro rec i hi
    have hx : u[i]? = some u[i] := List.getElem?_eq_getElem hi
    have hb := h3 _ (List.getElem_mem hi)
    simp only [ltD hi, cond_true, getD_at hx, Option.bind_some, isUse_p N _ hb.1 (by omega), Bool.not_true, cond_false, nadd1 i (by omega)]
    by_cases h0 : i = 0
    · subst h0
      simp
    · have hlt : i - 1 < u.length := by omega
      have hy : u[i - 1]? = some u[i - 1] := List.getElem?_eq_getElem hlt
      have hlt2 := (List.pairwise_iff_getElem.1 h2) (i - 1) i hlt hi (by omega)
      rw [show decide ((i : Int) > 0) = true from decide_eq_true (by omega), cond_true, w64 (x := (i : Int) - 1) (by omega) (by omega), show (i : Int) - 1 = ((i - 1 : Nat) : Int) by omega, getD_at hy, Option.bind_some, show decide (u[i] ≤ u[i - 1]) = false from decide_eq_false (by omega), cond_false]
theorem checkFund_p (N : Nat) (hN : 1000 < N) (c : Int) (hc : c ≤ 1000000) (f : T_api_Fund) (h : GoodFund c f) : p_coin_checkFund N f = some 0 := by
  obtain ⟨h1, h2, h3, h4, h5, h6, h7⟩ := h
  have hl := h7.1
  unfold p_coin_checkFund
  simp only [letJ_eq]
  simp only [isDate_p N f.Day h1 (by omega), isDate_p N f.Until (by omega) (by omega), isAmount_p N f.Amount h5 (by omega), checkUses_p N hN _ h7, Option.bind_some, Bool.not_true, cond_false]
  rw [show decide (f.Day > f.Until) = false from decide_eq_false (by omega), cond_false, show decide (((f.Uses.length : Nat) : Int) > 8) = false from decide_eq_false (by omega), cond_false]
theorem check_p (N : Nat) (hN : 1000 < N) (nf nb : Nat) (c : Int) (hnf : nf ≤ 8) (hnb : nb ≤ 8) (hc : c ≤ 1000000) (L : T_api_Ledger) (h : GoodL nf nb c L) : p_coin_Check N L = some 0 := by
  have g1 := h.nf; have g2 := h.nb
  unfold p_coin_Check
  simp only [letJ_eq]
  rw [show decide (((L.Funds.length : Nat) : Int) > 8) = false from decide_eq_false (by omega), cond_false]
  refine st1 L.Funds.length _ (some 0) ?_ ?_ N 0 (by omega) (by omega)
  · intro rec
    simp only [ltE, cond_false]
    rw [show decide (((L.Bills.length : Nat) : Int) > 8) = false from decide_eq_false (by omega), cond_false]
    refine st1 L.Bills.length _ (some 0) ?_ ?_ N 0 (by omega) (by omega)
    · intro rec
      simp only [ltE, cond_false]
    · intro rec i hi
      have hx : L.Bills[i]? = some L.Bills[i] := List.getElem?_eq_getElem hi
      obtain ⟨b1, b2, b3, b4, b5, b6⟩ := h.bill _ (List.getElem_mem hi)
      simp only [ltD hi, cond_true, getD_at hx, Option.bind_some, isDate_p N _ (show 0 ≤ L.Bills[i].Day by omega) (by omega), isUse_p N _ b3 (by omega), isAmount_p N _ b5 (by omega), Bool.not_true, cond_false, nadd1 i (by omega)]
  · intro rec i hi
    have hx : L.Funds[i]? = some L.Funds[i] := List.getElem?_eq_getElem hi
    simp only [ltD hi, cond_true, getD_at hx, Option.bind_some, checkFund_p N hN c hc _ (h.fund _ (List.getElem_mem hi)), bne_self_eq_false, cond_false, nadd1 i (by omega)]

def come (L : T_api_Ledger) (day : Int) : Int := (L.Funds.map fun f => if f.Day > day then 0 else f.Amount).sum
end Go.Proofs.Ytkpihepaaiofgaa
end
section
namespace Go.Proofs.Ytkpihepaaiofgaa
open Go.RowKit
set_option linter.unusedVariables false
set_option linter.unusedSimpArgs false
set_option maxRecDepth 10000
set_option maxHeartbeats 4000000

theorem numT {B ρ : Type} (T : Option ρ → Prop) (P : Nat → Prop) (f : B → Nat → B) (r : B) {body : (Int → B → Option ρ) → Int → B → Option ρ} (hend : ∀ rec, T (body rec 0 r)) (hstep : ∀ rec (s t : Nat) b, (∀ N, p_math_bits_TrailingZeros8 N (s : Int) = some (t : Int)) → IntKind.u8.wrap (((BitVec.ofInt (IntKind.bits .u8) (s : Int) &&& BitVec.ofInt (IntKind.bits .u8) (IntKind.u8.wrap ((s : Int) - 1))).toNat : Nat) : Int) = ((s &&& (s - 1) : Nat) : Int) → (((s : Int) != 0) = true) → P t → body rec (s : Int) b = rec ((s &&& (s - 1) : Nat) : Int) (f b t)) : ∀ (N s : Nat) (b : B), s < 256 → (∀ t ∈ bits s, P t) → s < N → (bits s).foldl f b = r → T (loop2 body N (s : Int) b)
  | 0, s, b, _, _, h, _ => absurd h (Nat.not_lt_zero _)
  | N + 1, s, b, hs, hP, hN, hr => by
    show T (body (loop2 body N) (s : Int) b)
    by_cases h0 : s = 0
    · subst h0
      have : b = r := hr
      subst this
      exact hend _
    · obtain ⟨t, _, e2, e3⟩ := tz_p 0 s h0 hs
      have e1 : ∀ N, p_math_bits_TrailingZeros8 N (s : Int) = some (t : Int) := fun N => by
        obtain ⟨t', g1, g2, _⟩ := tz_p N s h0 hs
        rw [g1]
        rw [e2] at g2
        injection g2 with g2
        rw [g2]
      rw [hstep _ s t b e1 e3 (by simp; omega) (hP t (by rw [e2]; simp))]
      refine numT T P f r hend hstep N _ _ (by have := low_lt s h0; omega) (fun u hu => hP u (by rw [e2]; simp [hu])) (by have := low_lt s h0; omega) ?_
      rw [e2] at hr
      exact hr

theorem has_all : (List.range 256).all (fun s => (List.range 8).all fun n => decide ((IntKind.u8.wrap (((BitVec.ofInt (IntKind.bits .u8) (Int.fdiv (s : Int) ((2 : Int) ^ (min (Int.toNat (n : Int)) (IntKind.bits .u8)))) &&& BitVec.ofInt (IntKind.bits .u8) 1).toNat : Nat) : Int) == 1) = s.testBit n)) = true := by kernel_rfl
theorem has_p (N s n : Nat) (hs : s < 256) (hn : n < 8) : p_coin_set_has N (s : Int) (n : Int) = some (s.testBit n) := by
  unfold p_coin_set_has
  have h1 := List.all_eq_true.1 (List.all_eq_true.1 has_all s (by simpa using hs)) n (by simpa using hn)
  simp only [decide_eq_true_eq] at h1
  have h2 : nnI (n : Int) = some () := by unfold nnI; rw [if_neg (by omega)]
  rw [h2]
  simp only [Option.bind_some]
  rw [h1]
def can (F : T_api_Fund) (B : T_api_Bill) : Bool := decide (F.Day ≤ B.Day ∧ B.Day ≤ F.Until ∧ B.Use ∈ F.Uses)
theorem usesOf_p (N : Nat) (hN : 1000 < N) (F : T_api_Fund) (h : GoodUses F.Uses 3) : p_coin_usesOf N F = some ((addAll 0 (F.Uses.map Int.toNat) : Nat) : Int) := by
  obtain ⟨h1, h2, h3⟩ := h
  have e : p_coin_each_coin_set_add N F.Uses 0 = some ((addAll 0 (F.Uses.map Int.toNat) : Nat) : Int) := by
   unfold p_coin_each_coin_set_add
   simp only [letJ_eq]
   exact (st2z F.Uses.length (fun i => ((addAll 0 ((F.Uses.take i).map Int.toNat) : Nat) : Int)) (r := some ((addAll 0 (F.Uses.map Int.toNat) : Nat) : Int)) rfl (by omega) (fun rec => by simp only [ltE, cond_false, List.take_length]) (fun rec i hi => by
    have hx : F.Uses[i]? = some F.Uses[i] := List.getElem?_eq_getElem hi
    have hb := h3 _ (List.getElem_mem hi)
    obtain ⟨n, hn⟩ : ∃ n : Nat, F.Uses[i] = (n : Int) := ⟨F.Uses[i].toNat, by omega⟩
    have hlt : addAll 0 ((F.Uses.take i).map Int.toNat) < 256 := addAll_lt _ _ (by omega) fun t ht => by
      obtain ⟨x, hx, rfl⟩ := List.mem_map.1 ht
      have := h3 x (List.mem_of_mem_take hx)
      omega
    simp only [ltD hi, cond_true, getD_at hx, Option.bind_some, nadd1 i (by omega)]
    rw [hn, add_p N _ n hlt (by omega), Option.bind_some]
    congr 1
    rw [List.take_add_one, hx, hn, List.map_append]
    unfold addAll
    rw [List.foldl_append]
    rfl))
  unfold p_coin_usesOf
  rw [e]
  rfl
theorem canPay_p (N : Nat) (hN : 1000 < N) (c : Int) (F : T_api_Fund) (B : T_api_Bill) (hF : GoodFund c F) (hB : GoodBill c B) : p_coin_canPay N F B = some (can F B) := by
  obtain ⟨h1, h2, h3, h4, h5, h6, h7⟩ := hF
  obtain ⟨b1, b2, b3, b4, b5, b6⟩ := hB
  unfold p_coin_canPay p_coin_within
  by_cases c1 : F.Day ≤ B.Day
  · by_cases c2 : B.Day ≤ F.Until
    · rw [show decide (B.Day ≥ F.Day) = true from decide_eq_true c1, cond_true, Option.bind_some, show decide (B.Day ≤ F.Until) = true from decide_eq_true c2, cond_true, usesOf_p N hN F h7, Option.bind_some]
      obtain ⟨n, hn⟩ : ∃ n : Nat, B.Use = (n : Int) := ⟨B.Use.toNat, by omega⟩
      have hlt : addAll 0 (F.Uses.map Int.toNat) < 256 := addAll_lt _ _ (by omega) fun t ht => by
        obtain ⟨x, hx, rfl⟩ := List.mem_map.1 ht
        have := h7.2.2 x hx
        omega
      rw [hn, has_p N _ n hlt (by omega), Option.bind_some, addAll_bit]
      unfold can
      congr 1
      simp only [Nat.zero_testBit, Bool.false_or]
      apply decide_eq_decide.2
      rw [hn]
      constructor
      · intro h
        obtain ⟨x, hx, e⟩ := List.mem_map.1 h
        have := h7.2.2 x hx
        have : x = (n : Int) := by omega
        subst this
        exact ⟨c1, c2, hx⟩
      · intro h
        exact List.mem_map.2 ⟨_, h.2.2, by simp⟩
    · rw [show decide (B.Day ≥ F.Day) = true from decide_eq_true c1, cond_true, Option.bind_some, show decide (B.Day ≤ F.Until) = false from decide_eq_false c2, cond_false]
      unfold can
      rw [decide_eq_false (by omega)]
  · rw [show decide (B.Day ≥ F.Day) = false from decide_eq_false c1, cond_false, Option.bind_some, cond_false]
    unfold can
    rw [decide_eq_false (by omega)]
def GoodX (L : T_api_Ledger) (B : T_api_Bill) (x : T_coin_claim) : Prop := x.amount_ = B.Amount ∧ ∃ s : Nat, x.payers_ = (s : Int) ∧ s < 256 ∧ ∀ f : Nat, s.testBit f = true ↔ ∃ F, L.Funds[f]? = some F ∧ can F B = true
def GoodC (L : T_api_Ledger) (cs : List T_coin_claim) : Prop := cs.length = L.Bills.length ∧ ∀ (i : Nat) (B : T_api_Bill), L.Bills[i]? = some B → ∃ x : T_coin_claim, cs[i]? = some x ∧ GoodX L B x
theorem claimsOf_p (N : Nat) (hN : 1000 < N) (nf nb : Nat) (c : Int) (hnf : nf ≤ 8) (hnb : nb ≤ 8) (L : T_api_Ledger) (h : GoodL nf nb c L) : ∃ cs, p_coin_claimsOf N L = some cs ∧ GoodC L cs := by
  have g1 := h.nf; have g2 := h.nb
  unfold p_coin_claimsOf
  simp only [letJ_eq]
  refine invZ' L.Bills (fun x => ∃ cs, x = some cs ∧ GoodC L cs) (fun i (cs : List T_coin_claim) => cs.length = i ∧ ∀ (k : Nat) (B : T_api_Bill), k < i → L.Bills[k]? = some B → ∃ x : T_coin_claim, cs[k]? = some x ∧ GoodX L B x) (by omega) ⟨rfl, fun k B hk => by omega⟩ ?_ ?_
  · rintro rec cs ⟨h1, h2⟩
    simp only [ltE, cond_false]
    exact ⟨cs, rfl, h1, fun i B hB => h2 i B (List.getElem?_eq_some_iff.1 hB).1 hB⟩
  · rintro rec i B cs hB hi ⟨h1, h2⟩ ih
    simp only [ltD hi, cond_true, getD_at hB, Option.bind_some]
    have hgB := h.bill B (List.mem_of_getElem? hB)
    refine invZ L.Funds (fun x => ∃ cs, x = some cs ∧ GoodC L cs) (fun j (b : Int) => ∃ s : Nat, b = (s : Int) ∧ s < 256 ∧ ∀ f : Nat, s.testBit f = true ↔ f < j ∧ ∃ F, L.Funds[f]? = some F ∧ can F B = true) (by omega) ⟨0, rfl, by omega, fun f => by simp⟩ ?_ ?_
    · rintro rec2 b ⟨s, rfl, hs, hb⟩
      simp only [ltE, cond_false]
      rw [pushI_ok (by simp; omega), Option.bind_some, nadd1 i (by omega)]
      refine ih _ ⟨by simp; omega, fun k B' hk hB' => ?_⟩
      by_cases hlt : k < i
      · obtain ⟨x, e, g⟩ := h2 k B' hlt hB'
        exact ⟨x, by rw [List.getElem?_append_left (by omega), e], g⟩
      · have : k = i := by omega
        subst this
        rw [hB] at hB'
        injection hB' with hB'
        subst hB'
        refine ⟨_, by rw [← h1, List.getElem?_concat_length], rfl, s, rfl, hs, fun f => (hb f).trans ⟨fun q => q.2, fun q => ⟨?_, q⟩⟩⟩
        obtain ⟨F, hF, _⟩ := q
        exact (List.getElem?_eq_some_iff.1 hF).1
    · rintro rec2 j F b hF hj ⟨s, rfl, hs, hb⟩ ih2
      have hgF := h.fund F (List.mem_of_getElem? hF)
      simp only [ltD hj, cond_true, getD_at hF, Option.bind_some, canPay_p N hN c F B hgF hgB, nadd1 j (by omega)]
      cases hq : can F B with
      | true =>
        rw [cond_true, add_p N s j hs (by omega), Option.bind_some]
        refine ih2 _ ⟨_, rfl, add_lt hs (by omega), fun f => ?_⟩
        rw [Nat.testBit_or, Nat.testBit_two_pow]
        constructor
        · intro q
          simp only [Bool.or_eq_true, decide_eq_true_eq] at q
          rcases q with q | q
          · obtain ⟨q1, q2⟩ := (hb f).1 q
            exact ⟨by omega, q2⟩
          · subst q
            exact ⟨by omega, F, hF, hq⟩
        · rintro ⟨q1, q2⟩
          simp only [Bool.or_eq_true, decide_eq_true_eq]
          by_cases hfj : f = j
          · exact .inr hfj.symm
          · exact .inl ((hb f).2 ⟨by omega, q2⟩)
      | false =>
        rw [cond_false]
        refine ih2 _ ⟨s, rfl, hs, fun f => ?_⟩
        constructor
        · intro q
          obtain ⟨q1, q2⟩ := (hb f).1 q
          exact ⟨by omega, q2⟩
        · rintro ⟨q1, F', q2, q3⟩
          by_cases hfj : f = j
          · subst hfj
            rw [hF] at q2
            injection q2 with q2
            subst q2
            rw [hq] at q3
            cases q3
          · exact (hb f).2 ⟨by omega, F', q2, q3⟩
theorem V8_len (p : T_V8_i64) : p.l.length = 8 := rfl
theorem purseOf_p (N : Nat) (hN : 1000 < N) (L : T_api_Ledger) (h : L.Funds.length ≤ 8) : ∃ p : T_V8_i64, p_coin_purseOf N L = some p ∧ ∀ f : Nat, f < 8 → p.l[f]? = some ((L.Funds[f]?.map (·.Amount)).getD 0) := by
  unfold p_coin_purseOf
  simp only [letJ_eq]
  refine invZ L.Funds (fun x => ∃ p : T_V8_i64, x = some p ∧ ∀ f : Nat, f < 8 → p.l[f]? = some ((L.Funds[f]?.map (·.Amount)).getD 0)) (fun i (z : T_V8_i64) => ∀ f : Nat, f < 8 → z.l[f]? = some (if f < i then (L.Funds[f]?.map (·.Amount)).getD 0 else 0)) (by omega) (fun f hf => ?_) ?_ ?_
  · rw [if_neg (by omega)]
    match f, hf with
    | 0, _ => rfl
    | 1, _ => rfl
    | 2, _ => rfl
    | 3, _ => rfl
    | 4, _ => rfl
    | 5, _ => rfl
    | 6, _ => rfl
    | 7, _ => rfl
  · rintro rec z hz
    simp only [ltE, cond_false]
    refine ⟨z, rfl, fun f hf => ?_⟩
    rw [hz f hf]
    split
    · rfl
    · rw [List.getElem?_eq_none (by omega)]
      rfl
  · rintro rec i F z hF hi hz ih
    simp only [ltD hi, cond_true, getD_at hF, Option.bind_some, nadd1 i (by omega)]
    rw [show idxI (i : Int) 8 = some () by unfold idxI; rw [if_pos (by omega)], Option.bind_some, Int.toNat_natCast]
    refine ih _ fun f hf => ?_
    rw [T_V8_i64.l_ofl _ (by rw [List.length_set]; rfl), List.getElem?_set]
    by_cases hfi : i = f
    · subst hfi
      rw [if_pos rfl, if_pos (by rw [V8_len]; omega), if_pos (by omega), hF]
      rfl
    · rw [if_neg hfi, hz f hf]
      by_cases hlt : f < i
      · rw [if_pos hlt, if_pos (by omega)]
      · rw [if_neg hlt, if_neg (by omega)]

def OkC (cs : List T_coin_claim) : Prop := cs.length ≤ 8 ∧ ∀ x ∈ cs, ∃ s : Nat, x.payers_ = (s : Int) ∧ s < 256
theorem GoodC.ok {L : T_api_Ledger} {cs : List T_coin_claim} (h : GoodC L cs) (hb : L.Bills.length ≤ 8) : OkC cs := by
  refine ⟨by rw [h.1]; exact hb, fun x hx => ?_⟩
  obtain ⟨i, hi⟩ := List.mem_iff_getElem?.1 hx
  have hlt := (List.getElem?_eq_some_iff.1 hi).1
  obtain ⟨y, e, _, s, g1, g2, _⟩ := h.2 i _ (List.getElem?_eq_getElem (show i < L.Bills.length by rw [← h.1]; exact hlt))
  rw [hi] at e
  injection e with e
  subst e
  exact ⟨s, g1, g2⟩
def amt (cs : List T_coin_claim) (t : Nat) : Int := (cs[t]?.map (·.amount_)).getD 0
def pay (cs : List T_coin_claim) (t : Nat) : Nat := (cs[t]?.map (·.payers_.toNat)).getD 0
def lft (p : T_V8_i64) (t : Nat) : Int := p.l[t]?.getD 0
def orAll (cs : List T_coin_claim) (l : List Nat) : Nat := l.foldl (fun b t => b ||| pay cs t) 0
def lackV (cs : List T_coin_claim) (s : Nat) (p : T_V8_i64) : Int := IntKind.i64.wrap ((bits s).foldl (fun b t => IntKind.i64.wrap (b + amt cs t)) 0 - (bits (orAll cs (bits s))).foldl (fun b t => IntKind.i64.wrap (b + lft p t)) 0)
theorem pay_p {cs : List T_coin_claim} (h : OkC cs) {t : Nat} {x : T_coin_claim} (hx : cs[t]? = some x) : x.payers_ = (pay cs t : Int) ∧ pay cs t < 256 := by
  obtain ⟨s, e, hs⟩ := h.2 x (List.mem_of_getElem? hx)
  have : pay cs t = s := by unfold pay; rw [hx]; simp [e]
  rw [this]
  exact ⟨e, hs⟩
theorem orAll_fold (cs : List T_coin_claim) (h : ∀ t, pay cs t < 256) : ∀ (l : List Nat) (a : Nat), a < 256 → l.foldl (fun (b : Int) t => IntKind.u8.wrap (((BitVec.ofInt (IntKind.bits .u8) b ||| BitVec.ofInt (IntKind.bits .u8) (pay cs t : Int)).toNat : Nat) : Int)) (a : Int) = ((l.foldl (fun b t => b ||| pay cs t) a : Nat) : Int) ∧ l.foldl (fun b t => b ||| pay cs t) a < 256
  | [], a, ha => ⟨rfl, ha⟩
  | t :: l, a, ha => by
    have := orAll_fold cs h l (a ||| pay cs t) (Nat.or_lt_two_pow (n := 8) ha (h t))
    simp only [List.foldl_cons]
    rw [or_p a (pay cs t) ha (h t)]
    exact this
theorem orAll_bit (cs : List T_coin_claim) : ∀ (l : List Nat) (a f : Nat), (l.foldl (fun b t => b ||| pay cs t) a).testBit f = true ↔ a.testBit f = true ∨ ∃ t ∈ l, (pay cs t).testBit f = true
  | [], a, f => by simp
  | u :: l, a, f => by
    have := orAll_bit cs l (a ||| pay cs u) f
    simp only [List.foldl_cons, this, Nat.testBit_or, Bool.or_eq_true, List.mem_cons, exists_eq_or_imp]
    exact or_assoc
theorem payAll {cs : List T_coin_claim} (h : OkC cs) (t : Nat) : pay cs t < 256 := by
  cases hx : cs[t]? with
  | none => unfold pay; rw [hx]; simp
  | some x => exact (pay_p h hx).2
theorem sumA_p (N : Nat) (hN : 1000 < N) (cs : List T_coin_claim) (s : Nat) (hs : s < 256) (hb : ∀ t ∈ bits s, t < cs.length) : p_coin_sum_int_coin_set_numbers_1r_coin_claims_amount N (s : Int) cs = some ((bits s).foldl (fun b t => IntKind.i64.wrap (b + amt cs t)) 0) := by
  unfold p_coin_sum_int_coin_set_numbers_1r_coin_claims_amount
  simp only [letJ_eq]
  refine numT (fun x => x = some ((bits s).foldl (fun b t => IntKind.i64.wrap (b + amt cs t)) 0)) (fun t => t < cs.length) (fun b t => IntKind.i64.wrap (b + amt cs t)) _ (fun rec => ?_) (fun rec s t b e1 e2 e3 ht => ?_) N s 0 hs hb (by omega) rfl
  · simp only [bne_self_eq_false, cond_false]
  · have hx : cs[t]? = some cs[t] := List.getElem?_eq_getElem ht
    have ea : p_coin_claims_amount N cs (t : Int) = some (amt cs t) := by
      unfold p_coin_claims_amount amt
      rw [getI_nat, hx]
      rfl
    simp only [e3, cond_true, e1 N, Option.bind_some, ea, e2]
theorem sumP_p (N : Nat) (hN : 1000 < N) (p : T_V8_i64) (s : Nat) (hs : s < 256) : p_coin_sum_int_coin_set_numbers_1r_coin_purse_of N (s : Int) p = some ((bits s).foldl (fun b t => IntKind.i64.wrap (b + lft p t)) 0) := by
  unfold p_coin_sum_int_coin_set_numbers_1r_coin_purse_of
  simp only [letJ_eq]
  refine numT (fun x => x = some ((bits s).foldl (fun b t => IntKind.i64.wrap (b + lft p t)) 0)) (fun t => t < 8) (fun b t => IntKind.i64.wrap (b + lft p t)) _ (fun rec => ?_) (fun rec s t b e1 e2 e3 ht => ?_) N s 0 hs (fun t ht => (mem_bits.1 ht).1) (by omega) rfl
  · simp only [bne_self_eq_false, cond_false]
  · have hx : p.l[t]? = some p.l[t] := List.getElem?_eq_getElem ht
    have ea : p_coin_purse_of N p (t : Int) = some (lft p t) := by
      unfold p_coin_purse_of lft
      rw [show idxI (t : Int) 8 = some () by unfold idxI; rw [if_pos (by omega)], Option.bind_some, Int.toNat_natCast, hx]
      rfl
    simp only [e3, cond_true, e1 N, Option.bind_some, ea, e2]
theorem lack_p (N : Nat) (hN : 1000 < N) (cs : List T_coin_claim) (h : OkC cs) (p : T_V8_i64) (s : Nat) (hs : s < 256) (hb : ∀ t ∈ bits s, t < cs.length) : p_coin_claims_lack N cs (s : Int) p = some (lackV cs s p) := by
  unfold p_coin_claims_lack
  simp only [letJ_eq, show ∀ x, p_coin_set_numbers N x = some x from fun _ => rfl, Option.bind_some]
  obtain ⟨o1, o2⟩ := orAll_fold cs (payAll h) (bits s) 0 (by omega)
  refine numT (fun x => x = some (lackV cs s p)) (fun t => t < cs.length) (fun (b : Int) t => IntKind.u8.wrap (((BitVec.ofInt (IntKind.bits .u8) b ||| BitVec.ofInt (IntKind.bits .u8) (pay cs t : Int)).toNat : Nat) : Int)) _ (fun rec => ?_) (fun rec s t b e1 e2 e3 ht => ?_) N s 0 hs hb (by omega) o1
  · simp only [bne_self_eq_false, cond_false]
    rw [sumA_p N hN cs s hs hb, Option.bind_some, sumP_p N hN p _ o2]
    rfl
  · have hx : cs[t]? = some cs[t] := List.getElem?_eq_getElem ht
    simp only [e3, cond_true, e1 N, Option.bind_some, getD_at hx, (pay_p h hx).1, e2]

def mrec (N : Nat) (cs : List T_coin_claim) (p : T_V8_i64) (bound : Int) : (Int → Int → Int → Int → Option Int) → Int → Int → Int → Int → Option Int := fun rec_35 (begun_30 : Int) (next_31 : Int) (more_32 : Int) (b_33 : Int) => (bif (more_32 == 0) then (letJ (fun (b_52 : Int) => some b_52) (fun k_53 => ((p_coin_claims_lack N cs begun_30 p).bind fun r_56 => (k_53 (if r_56 > b_33 then r_56 else b_33))))) else (letJ (fun (b_58 : Int) => some b_58) (fun k_59 => (loop2 (fun rec_64 (n_62 : Int) (b_63 : Int) => (bif (decide ((IntKind.i64.wrap (n_62 + more_32)) ≤ bound)) then ((p_coin_set_add N begun_30 n_62).bind fun r_68 => (letJ (fun (b_71 : Int) => (rec_64 (IntKind.i64.wrap (n_62 + 1)) b_71)) (fun k_72 => ((rec_35 r_68 (IntKind.i64.wrap (n_62 + 1)) (IntKind.i64.wrap (more_32 - 1)) b_63).bind fun s_69 => ((fun t => k_72 t) s_69))))) else (k_59 b_63))) N next_31 b_33))))
def Most (cs : List T_coin_claim) (p : T_V8_i64) (Q : List Nat → Prop) (s : Nat) (b b' : Int) : Prop := b ≤ b' ∧ (∀ l : List Nat, l.Pairwise (· < ·) → Q l → lackV cs (addAll s l) p ≤ b') ∧ (b' = b ∨ ∃ u, u < 256 ∧ (∀ t ∈ bits u, t < cs.length) ∧ lackV cs u p = b')
theorem rec_m (N : Nat) (hN : 1000 < N) (cs : List T_coin_claim) (h : OkC cs) (p : T_V8_i64) : ∀ (k M s a : Nat) (b : Int), k < M → k ≤ 8 → a ≤ 9 → s < 256 → (∀ t ∈ bits s, t < cs.length) → ∃ b', loop4 (mrec N cs p (cs.length : Int)) M (s : Int) (a : Int) (k : Int) b = some b' ∧ Most cs p (fun l => l.length = k ∧ ∀ t ∈ l, a ≤ t ∧ t < cs.length) s b b'
  | k, 0, s, a, b, hM, _, _, _, _ => absurd hM (Nat.not_lt_zero _)
  | 0, M + 1, s, a, b, hM, _, _, hs, hb => by
    show ∃ b', mrec N cs p (cs.length : Int) (loop4 (mrec N cs p (cs.length : Int)) M) (s : Int) (a : Int) (0 : Int) b = some b' ∧ _
    unfold mrec
    simp only [letJ_eq, beq_self_eq_true, cond_true, lack_p N hN cs h p s hs hb, Option.bind_some]
    refine ⟨_, rfl, ?_, ?_, ?_⟩
    · split <;> omega
    · rintro l _ ⟨hl, _⟩
      have : l = [] := List.length_eq_zero_iff.1 hl
      subst this
      show lackV cs s p ≤ _
      split <;> omega
    · split
      · exact .inr ⟨s, hs, hb, rfl⟩
      · exact .inl rfl
  | k + 1, M + 1, s, a, b, hM, hk, ha, hs, hb => by
    have hc := h.1
    show ∃ b', mrec N cs p (cs.length : Int) (loop4 (mrec N cs p (cs.length : Int)) M) (s : Int) (a : Int) ((k + 1 : Nat) : Int) b = some b' ∧ _
    have IH := fun s' a' b' h1 h2 h3 => rec_m N hN cs h p k M s' a' b' (by omega) (by omega) h1 h2 h3
    generalize hR : loop4 (mrec N cs p (cs.length : Int)) M = R at IH ⊢
    unfold mrec
    simp only [letJ_eq, show ((((k + 1 : Nat) : Int) == 0) = false) by simp; omega, cond_false]
    refine loop2_T (fun x => ∃ b', x = some b' ∧ Most cs p (fun l => l.length = k + 1 ∧ ∀ t ∈ l, a ≤ t ∧ t < cs.length) s b b') (fun n b2 => ∃ a2 : Nat, n = (a2 : Int) ∧ a ≤ a2 ∧ a2 ≤ 9 ∧ Most cs p (fun l => (l.length = k + 1 ∧ ∀ t ∈ l, a ≤ t ∧ t < cs.length) ∧ ∀ t, l.head? = some t → t < a2) s b b2) (fun n b2 => 10 - n.toNat) ?_ N (a : Int) b ⟨a, rfl, by omega, by omega, by omega, ?_, .inl rfl⟩ (by omega)
    · rintro rec n b2 ⟨a2, rfl, h1, h9, h2, h3, h4⟩ ih
      rw [w64 (x := (a2 : Int) + ((k + 1 : Nat) : Int)) (by omega) (by omega)]
      by_cases hle : a2 + (k + 1) ≤ cs.length
      · rw [show decide ((a2 : Int) + ((k + 1 : Nat) : Int) ≤ ((cs.length : Nat) : Int)) = true from decide_eq_true (by omega), cond_true, add_p N s a2 hs (by omega), Option.bind_some, nadd1 a2 (by omega), w64 (x := ((k + 1 : Nat) : Int) - 1) (by omega) (by omega), show ((k + 1 : Nat) : Int) - 1 = (k : Int) by omega]
        obtain ⟨b3, e, q1, q2, q3⟩ := IH (s ||| 2 ^ a2) (a2 + 1) b2 (by omega) (add_lt hs (by omega)) (fun t ht => by
          obtain ⟨t1, t2⟩ := mem_bits.1 ht
          rw [Nat.testBit_or, Nat.testBit_two_pow] at t2
          simp only [Bool.or_eq_true, decide_eq_true_eq] at t2
          rcases t2 with t2 | t2
          · exact hb t (mem_bits.2 ⟨t1, t2⟩)
          · omega)
        rw [e, Option.bind_some]
        refine ih _ _ ⟨a2 + 1, rfl, by omega, by omega, by omega, ?_, ?_⟩ (by omega)
        · rintro l hl ⟨⟨l1, l2⟩, l3⟩
          match l, hl, l1, l2, l3 with
          | t :: r, hl, l1, l2, l3 =>
            obtain ⟨p1, p2⟩ := List.pairwise_cons.1 hl
            have ht := l3 t rfl
            by_cases hta : t < a2
            · have := h3 (t :: r) hl ⟨⟨l1, l2⟩, fun u hu => by simp at hu; omega⟩
              omega
            · have : t = a2 := by omega
              subst this
              exact q2 r p2 ⟨by simpa using l1, fun u hu => ⟨p1 u hu, (l2 u (by simp [hu])).2⟩⟩
        · rcases q3 with q3 | q3
          · rw [q3]; exact h4
          · exact .inr q3
      · rw [show decide ((a2 : Int) + ((k + 1 : Nat) : Int) ≤ ((cs.length : Nat) : Int)) = false from decide_eq_false (by omega), cond_false]
        refine ⟨b2, rfl, h2, ?_, h4⟩
        rintro l hl ⟨l1, l2⟩
        refine h3 l hl ⟨⟨l1, l2⟩, fun t ht => ?_⟩
        match l, hl, l1, l2, ht with
        | u :: r, hl, l1, l2, ht =>
          simp only [List.head?_cons, Option.some.injEq] at ht
          subst ht
          obtain ⟨p1, p2⟩ := List.pairwise_cons.1 hl
          have := asc_len (u :: r) u cs.length hl (fun v hv => by
            rcases List.mem_cons.1 hv with hv | hv
            · subst hv; exact ⟨Nat.le_refl _, (l2 _ (by simp)).2⟩
            · exact ⟨Nat.le_of_lt (p1 v hv), (l2 v (by simp [hv])).2⟩)
          rcases this with this | this
          · omega
          · cases this
    · rintro l hl ⟨⟨l1, l2⟩, l3⟩
      match l, l1, l2, l3 with
      | t :: r, l1, l2, l3 =>
        have := l3 t rfl
        have := (l2 t (by simp)).1
        omega
theorem missing_p (N : Nat) (hN : 1000 < N) (cs : List T_coin_claim) (h : OkC cs) (p : T_V8_i64) : ∃ m, p_coin_claims_missing N cs p = some m ∧ Most cs p (fun l => ∀ t ∈ l, t < cs.length) 0 0 m := by
  have hc := h.1
  unfold p_coin_claims_missing
  simp only [letJ_eq, show ∀ a b, p_coin_setsOf N a b = some (b, a) from fun _ _ => rfl, Option.bind_some]
  rw [nadd1 cs.length (by omega)]
  refine loop2_T (fun x => ∃ m, x = some m ∧ Most cs p (fun l => ∀ t ∈ l, t < cs.length) 0 0 m) (fun y b => ∃ i : Nat, y = (i : Int) ∧ i ≤ cs.length + 1 ∧ Most cs p (fun l => (∀ t ∈ l, t < cs.length) ∧ l.length < i) 0 0 b) (fun y b => 10 - y.toNat) ?_ N 0 0 ⟨0, rfl, by omega, by omega, fun l _ q => absurd q.2 (Nat.not_lt_zero _), .inl rfl⟩ (by omega)
  rintro rec y b ⟨i, rfl, hi, h1, h2, h3⟩ ih
  by_cases hlt : i < cs.length + 1
  · rw [ltD hlt, cond_true]
    obtain ⟨b2, e, q1, q2, q3⟩ := rec_m N hN cs h p i N 0 0 b (by omega) (by omega) (by omega) (by omega) (fun t ht => by simp [bits] at ht)
    have e' := e
    unfold mrec at e'
    simp only [letJ_eq] at e'
    rw [show ((0 : Nat) : Int) = 0 from rfl] at e'
    rw [e', Option.bind_some, nadd1 i (by omega)]
    refine ih _ _ ⟨i + 1, rfl, by omega, by omega, ?_, ?_⟩ (by omega)
    · rintro l hl ⟨l1, l2⟩
      by_cases hli : l.length < i
      · have := h2 l hl ⟨l1, hli⟩
        omega
      · exact q2 l hl ⟨by omega, fun t ht => ⟨Nat.zero_le _, l1 t ht⟩⟩
    · rcases q3 with q3 | q3
      · rw [q3]; exact h3
      · exact .inr q3
  · rw [show decide ((i : Int) < ((cs.length + 1 : Nat) : Int)) = false from decide_eq_false (by omega), cond_false]
    refine ⟨b, rfl, h1, ?_, h3⟩
    intro l hl l1
    refine h2 l hl ⟨l1, ?_⟩
    rcases asc_len l 0 cs.length hl (fun t ht => ⟨Nat.zero_le _, l1 t ht⟩) with q | q
    · omega
    · subst q; simp; omega
end Go.Proofs.Ytkpihepaaiofgaa
end
section
namespace Go.Proofs.Ytkpihepaaiofgaa
open Go.RowKit
set_option linter.unusedVariables false
set_option linter.unusedSimpArgs false
set_option maxRecDepth 10000
set_option maxHeartbeats 4000000

theorem with_p (N : Nat) (p : T_V8_i64) (t : Nat) (x : Int) (h : t < 8) : ∃ z, p_coin_purse_with N p (t : Int) x = some z := by
  unfold p_coin_purse_with
  rw [show idxI (t : Int) 8 = some () by unfold idxI; rw [if_pos (by omega)], Option.bind_some]
  exact ⟨_, rfl⟩
theorem at_p (p : T_V8_i64) (t : Nat) (h : t < 8) : p.l[Int.toNat (t : Int)]? = some (lft p t) := by
  have hx : p.l[t]? = some p.l[t] := List.getElem?_eq_getElem h
  rw [Int.toNat_natCast]
  unfold lft
  rw [hx]
  rfl
theorem payFirst_p (N : Nat) (hN : 1000 < N) (cs : List T_coin_claim) (h : OkC cs) (hne : 0 < cs.length) (p : T_V8_i64) : ∃ r, p_coin_claims_payFirst N cs p = some r := by
  have hc := h.1
  unfold p_coin_claims_payFirst
  have hx : cs[0]? = some cs[0] := List.getElem?_eq_getElem hne
  have hg : getI cs 0 = some cs[0] := getD_at (i := 0) hx
  have hpart : partI cs 1 ((cs.length : Nat) : Int) = some (cs.drop 1) := by
    unfold partI
    rw [if_pos (by omega)]
    simp
  have hb : OkC (cs.drop 1) := ⟨by simp; omega, fun x hx => h.2 x (List.mem_of_mem_drop hx)⟩
  obtain ⟨e1, e2⟩ := pay_p h hx
  simp only [hg, hpart, Option.bind_some, show ∀ x, p_coin_set_numbers N x = some x from fun _ => rfl, letJ_eq]
  rw [e1]
  refine loop4_T (fun x => ∃ r, x = some r) (fun rest z1 z2 b => ∃ s : Nat, rest = (s : Int) ∧ s < 256) (fun rest z1 z2 b => rest.toNat) ?_ N _ _ _ _ ⟨_, rfl, e2⟩ (by omega)
  rintro rec rest z1 z2 b ⟨s, rfl, hs⟩ ih
  by_cases h0 : s = 0
  · subst h0
    simp only [show (((0 : Nat) : Int) != 0) = false from rfl, cond_false]
    exact ⟨_, rfl⟩
  · obtain ⟨t, g1, g2, g3⟩ := tz_p N s h0 hs
    have ht : t < 8 := (mem_bits.1 (show t ∈ bits s by rw [g2]; simp)).1
    have hi : idxI (t : Int) 8 = some () := by unfold idxI; rw [if_pos (by omega)]
    have hlow := low_lt s h0
    rw [show (((s : Nat) : Int) != 0) = true by simp; omega, cond_true, g1, Option.bind_some]
    obtain ⟨w1, q⟩ := with_p N z1 t 0 ht
    rw [q, Option.bind_some]; clear q
    obtain ⟨m, q, _⟩ := missing_p N hN _ hb w1
    simp only [q, Option.bind_some, hi, at_p z1 t ht]; clear q
    obtain ⟨w2, q⟩ := with_p N z2 t (if (IntKind.i64.wrap (lft z1 t - m)) < b then (IntKind.i64.wrap (lft z1 t - m)) else b) ht
    simp only [q, Option.bind_some]; clear q
    obtain ⟨w3, q⟩ := with_p N z1 t (IntKind.i64.wrap (lft z1 t - (if (IntKind.i64.wrap (lft z1 t - m)) < b then (IntKind.i64.wrap (lft z1 t - m)) else b))) ht
    simp only [q, Option.bind_some, g3]; clear q
    exact ih _ _ _ _ ⟨_, rfl, by omega⟩ (by omega)
theorem trace_q (N : Nat) (hN : 1000 < N) (nf nb : Nat) (c : Int) (hnf : nf ≤ 8) (hnb : nb ≤ 8) (hc : c ≤ 1000000) (L : T_api_Ledger) (h : GoodL nf nb c L) (cs : List T_coin_claim) (p : T_V8_i64) (m : Int) (hcs : GoodC L cs) (e1 : p_coin_claimsOf N L = some cs) (e2 : p_coin_purseOf N L = some p) (e3 : p_coin_claims_missing N cs p = some m) : (0 < m → p_coin_Trace N L = some ([], 4)) ∧ (m ≤ 0 → ∃ t, p_coin_Trace N L = some (t, 0)) := by
  have g1 := h.nf; have g2 := h.nb
  have hok := hcs.ok (by omega)
  have hok1 := hok.1
  unfold p_coin_Trace
  simp only [check_p N hN nf nb c hnf hnb hc L h, Option.bind_some, bne_self_eq_false, cond_false, e1, e2, e3]
  by_cases hpos : m > 0
  · rw [show decide (m > 0) = true from decide_eq_true hpos, cond_true]
    exact ⟨fun _ => rfl, fun q => absurd q (by omega)⟩
  · rw [show decide (m > 0) = false from decide_eq_false hpos, cond_false]
    refine ⟨fun q => absurd q (by omega), fun _ => ?_⟩
    have mk1 : mkI ((cs.length : Nat) : Int) = some cs.length := by unfold mkI; rw [if_pos (by omega)]; simp
    have mk2 : mkI ((L.Funds.length : Nat) : Int) = some L.Funds.length := by unfold mkI; rw [if_pos (by omega)]; simp
    rw [mk1, Option.bind_some]
    simp only [letJ_eq]
    refine loop4_T (fun x => ∃ t, x = some (t, 0)) (fun y z (w : List (List Int)) (z2 : T_V8_i64) => ∃ i : Nat, y = (i : Int) ∧ i ≤ cs.length ∧ w.length = cs.length) (fun y z w z2 => 100 - y.toNat) ?_ N 0 _ _ _ ⟨0, rfl, by omega, by simp⟩ (by omega)
    rintro rec y z w z2 ⟨i, rfl, hi, hw⟩ ih
    by_cases hlt : i < cs.length
    · have hpart : partI cs (i : Int) ((cs.length : Nat) : Int) = some (cs.drop i) := by
        unfold partI
        rw [if_pos (by omega)]
        simp
      have hb : OkC (cs.drop i) := ⟨by simp; omega, fun x hx => hok.2 x (List.mem_of_mem_drop hx)⟩
      obtain ⟨r, e⟩ := payFirst_p N hN (cs.drop i) hb (by simp; omega) z
      have hx : w[i]? = some w[i] := List.getElem?_eq_getElem (by omega)
      have hcp : copyI (List.replicate L.Funds.length 0) L.Funds.length r.1.l 8 = some (r.1.l.take L.Funds.length ++ (List.replicate L.Funds.length 0).drop 8) := by
        unfold copyI
        rw [if_pos ⟨by simp, V8_len _⟩]
      have hln : lenI (r.1.l.take L.Funds.length ++ (List.replicate L.Funds.length (0 : Int)).drop 8) L.Funds.length = some () := by
        unfold lenI
        rw [if_pos (by rw [List.length_append, List.length_take, List.length_drop, List.length_replicate, V8_len]; omega)]
      rw [ltD hlt, cond_true, hpart, Option.bind_some, e, Option.bind_some, mk2, Option.bind_some, show idxI (i : Int) cs.length = some () by unfold idxI; rw [if_pos (by omega)], Option.bind_some, Int.toNat_natCast, hx, Option.bind_some, Option.bind_some, hcp, Option.bind_some, hln, Option.bind_some, nadd1 i (by omega)]
      exact ih _ _ _ _ ⟨i + 1, rfl, by omega, by simp [hw]⟩ (by omega)
    · rw [show decide ((i : Int) < ((cs.length : Nat) : Int)) = false from decide_eq_false (by omega), cond_false]
      rw [show lenI w cs.length = some () by unfold lenI; rw [if_pos hw], Option.bind_some]
      exact ⟨_, rfl⟩

theorem bits_len (s : Nat) : (bits s).length ≤ 8 := by
  have := List.length_filter_le (fun t => s.testBit t) (List.range 8)
  simpa [bits] using this
theorem amtAt {nf nb : Nat} {c : Int} {L : T_api_Ledger} (h : GoodL nf nb c L) {cs : List T_coin_claim} (hc : GoodC L cs) {i : Nat} {B : T_api_Bill} (hB : L.Bills[i]? = some B) : amt cs i = B.Amount := by
  obtain ⟨x, e, g, _⟩ := hc.2 i B hB
  unfold amt
  rw [e]
  exact g
theorem lftAt {L : T_api_Ledger} {p : T_V8_i64} (hp : ∀ f : Nat, f < 8 → p.l[f]? = some ((L.Funds[f]?.map (·.Amount)).getD 0)) {f : Nat} (hf : f < 8) : lft p f = (L.Funds[f]?.map (·.Amount)).getD 0 := by
  unfold lft
  rw [hp f hf]
  rfl
theorem lackV_sum {nf nb : Nat} {c : Int} (hnf : nf ≤ 8) (hnb : nb ≤ 8) (hc0 : 0 ≤ c) (hc : c ≤ 1000000) {L : T_api_Ledger} (h : GoodL nf nb c L) {cs : List T_coin_claim} (hcs : GoodC L cs) {p : T_V8_i64} (hp : ∀ f : Nat, f < 8 → p.l[f]? = some ((L.Funds[f]?.map (·.Amount)).getD 0)) (s : Nat) : lackV cs s p = ((bits s).map (amt cs)).sum - ((bits (orAll cs (bits s))).map (lft p)).sum ∧ 0 ≤ ((bits s).map (amt cs)).sum ∧ ((bits s).map (amt cs)).sum ≤ 16000000 ∧ 0 ≤ ((bits (orAll cs (bits s))).map (lft p)).sum ∧ ((bits (orAll cs (bits s))).map (lft p)).sum ≤ 16000000 := by
  have ha : ∀ t, 0 ≤ amt cs t ∧ amt cs t ≤ 2000000 := fun t => by
    cases hB : L.Bills[t]? with
    | none =>
      have : cs[t]? = none := by
        rw [List.getElem?_eq_none_iff] at hB ⊢
        rw [hcs.1]
        exact hB
      unfold amt
      rw [this]
      simp
    | some B =>
      obtain ⟨_, _, _, _, b5, b6⟩ := h.bill B (List.mem_of_getElem? hB)
      rw [amtAt h hcs hB]
      omega
  have hl : ∀ t, t < 8 → 0 ≤ lft p t ∧ lft p t ≤ 2000000 := fun t ht => by
    rw [lftAt hp ht]
    cases hF : L.Funds[t]? with
    | none => simp
    | some F =>
      obtain ⟨_, _, _, _, b5, b6, _⟩ := h.fund F (List.mem_of_getElem? hF)
      simp only [Option.map_some, Option.getD_some]
      omega
  have l1 := bits_len s
  have l2 := bits_len (orAll cs (bits s))
  have s1 := sum_bnd (amt cs) 2000000 (by omega) (bits s) (fun t _ => ha t)
  have s2 := sum_bnd (lft p) 2000000 (by omega) (bits (orAll cs (bits s))) (fun t ht => hl t (mem_bits.1 ht).1)
  refine ⟨?_, by omega, by omega, by omega, by omega⟩
  unfold lackV
  rw [foldSum (amt cs) 2000000 (by omega) (bits s) 0 (fun t _ => by have := ha t; omega) (by omega) (by omega), foldSum (lft p) 2000000 (by omega) (bits (orAll cs (bits s))) 0 (fun t ht => by have := hl t (mem_bits.1 ht).1; omega) (by omega) (by omega), w64 (by omega) (by omega)]
  omega
end Go.Proofs.Ytkpihepaaiofgaa
end
section
namespace Go.Proofs.Ytkpihepaaiofgaa
open Go.RowKit
set_option linter.unusedVariables false
set_option linter.unusedSimpArgs false
set_option maxRecDepth 10000
set_option maxHeartbeats 4000000
attribute [local simp] ren ren1 AV.plain AV.plain1 AV.clean cleanL cleanI cleanBo cleanSt cleanII KL_bk_Drum KL_api_Fund KL_api_Bill KL_api_Ledger KL_coin_claim KL_V8_i64 KL_api_Span A_bk_Drum C_bk_Drum A_api_Fund C_api_Fund A_api_Bill C_api_Bill A_api_Ledger C_api_Ledger A_coin_claim C_coin_claim A_V8_i64 C_V8_i64 A_api_Span C_api_Span back back1 re re1 List.idxOf? List.findIdx? List.findIdx?.go KB_bk_Drum KB_api_Fund KB_api_Bill KB_api_Ledger KB_coin_claim KB_V8_i64 KB_api_Span fadeS fadeV
def p_br9_Sets : Nat → Int → Int → Int → Option ((List (List Int)))
  | 0, _, _, _ => none
  | N + 1, first_1, n_2, many_3 => (bif (many_3 == 0) then some ([[]]) else (letJ (fun (out_5 : List (List Int)) => some out_5) (fun k_6 => (loop2 (fun rec_11 (out_9 : List (List Int)) (i_10 : Int) => (bif (decide (i_10 < n_2)) then ((p_br9_Sets N (IntKind.i64.wrap (i_10 + 1)) n_2 (IntKind.i64.wrap (many_3 - 1))).bind fun r_15 => (letJ (fun (out_16 : List (List Int)) => (rec_11 out_16 (IntKind.i64.wrap (i_10 + 1)))) (fun k_17 => (loop2 (fun rec_22 (out_20 : List (List Int)) (k_21 : Int) => (bif (decide (k_21 < ((r_15.length : Nat) : Int))) then ((getI r_15 k_21).bind fun x_26 => ((pushI ([i_10] : List Int) x_26).bind fun l_27 => ((pushI out_20 ([l_27] : List (List Int))).bind fun l_28 => (rec_22 l_28 (IntKind.i64.wrap (k_21 + 1)))))) else (k_17 out_20))) N out_9 0)))) else (k_6 out_9))) N [] first_1))))
def v_br9_Sets (r : (List (List Int))) : AV := .sl (r.map (SV (AV.int .i64))) none
attribute [local simp] v_br9_Sets
theorem a_br9_Sets (first_1 : Int) (n_2 : Int) (many_3 : Int) : [.int .i64 first_1, .int .i64 n_2, .int .i64 many_3].mapM (ren []) = some [.int .i64 first_1, .int .i64 n_2, .int .i64 many_3] := by simp
theorem b_br9_Sets (r : (List (List Int))) (n n2 m : Nat) : back n n2 m (v_br9_Sets r) = some (v_br9_Sets r) := by simp
theorem d_br9_Sets (N : Nat) (first_1 : Int) (n_2 : Int) (many_3 : Int) (r : (List (List Int))) (h : p_br9_Sets N first_1 n_2 many_3 = some r) : Does Try.prog 39 [.int .i64 first_1, .int .i64 n_2, .int .i64 many_3] [] fun v c => v = v_br9_Sets r ∧ c = [] := by
  induction N generalizing first_1 n_2 many_3 r with
  | zero => simp [p_br9_Sets] at h
  | succ N ih =>
    rw [p_br9_Sets] at h
    refine Does.ofL comp39 _ _ rfl rfl ?_
    refine Ex.seq ?_
    refine regH 1 [] [0, 1, 2] [] (mkS 43 [(0, .int .i64 first_1), (1, .int .i64 n_2), (2, .int .i64 many_3)]) (⟨[], []⟩) (by kernel_rfl) trivial rfl ?_
    refine Ex.seq ?_
    refine Ex.seq ?_
    refine regH 2 [] [0, 1, 2, 12] [] (mkS 43 [(0, .int .i64 first_1), (1, .int .i64 n_2), (2, .int .i64 many_3), (12, .bool (many_3 == 0))]) (⟨[], []⟩) (by kernel_rfl) trivial rfl ?_
    rcases condI h with ⟨hc_4, h⟩ | ⟨hc_4, h⟩
    · refine Ex.condT _ rfl hc_4 ?_
      refine Ex.seq ?_
      refine Ex.postF ?_
      refine regH 2 [] [6] [] (mkS 43 [(6, .sl [.nils] (some 0))]) (⟨[], [(1, 1)]⟩) (by kernel_rfl) trivial rfl ?_
      refine ⟨mkS 43 [(6, .sl (([[]] : List (List Int)).map (SV (AV.int .i64))) (some 0))], ⟨[], [(1, 1)]⟩, Forgets.castR (by kernel_rfl) rfl (fadeE 6 [.nils] (some 0) rfl), ?_⟩
      refine Ex.ret ?_
      obtain rfl := Option.some.inj h
      exact ⟨.inr rfl, .sl (([[]] : List (List Int)).map (SV (AV.int .i64))) (some 0), by kernel_rfl, by kernel_rfl, by kernel_rfl, by kernel_rfl⟩
    · refine Ex.condF _ rfl hc_4 ?_
      refine Ex.skip ?_
      refine Ex.seq ?_
      refine regH 1 [] [0, 1, 2, 7] [] (mkS 43 [(0, .int .i64 first_1), (1, .int .i64 n_2), (2, .int .i64 many_3), (7, .nils)]) (⟨[], []⟩) (by kernel_rfl) trivial rfl ?_
      refine Ex.seq ?_
      refine Ex.seq ?_
      refine regH 2 [] [1, 2, 7, 8] [] (mkS 43 [(1, .int .i64 n_2), (2, .int .i64 many_3), (7, .nils), (8, .int .i64 first_1)]) (⟨[], []⟩) (by kernel_rfl) trivial rfl ?_
      obtain ⟨K_7, hK_8, h⟩ := letE h
      refine Ex.blockJ (fun a S => ∃ (out_5 : List (List Int)), K_7 out_5 = some r ∧ a = mkS 43 [(7, .sl (out_5.map (SV (AV.int .i64))) (some 0))] ∧ S = ⟨[], [(out_5.length, 1)]⟩) ?_ ?_
      · refine Ex.forget (nilK 7 1 rfl) ?_
        refine Ex.castA (a2 := mkS 43 [(1, .int .i64 n_2), (2, .int .i64 many_3), (7, .sl (([] : List (List Int)).map (SV (AV.int .i64))) (some 0)), (8, .int .i64 first_1)]) (S2 := ⟨[], [(0, 1)]⟩) (by kernel_rfl) (by kernel_rfl) ?_
        obtain ⟨B_12, hB_13, h⟩ := loop2I h
        refine Ex.loopF (fun k a S => ∃ (out_9 : List (List Int)), ∃ (i_10 : Int), loop2 B_12 k out_9 i_10 = some r ∧ a = mkS 43 [(1, .int .i64 n_2), (2, .int .i64 many_3), (7, .sl (out_9.map (SV (AV.int .i64))) (some 0)), (8, .int .i64 i_10)] ∧ S = ⟨[], [(out_9.length, 1)]⟩) N ⟨_, _, Forgets.refl _ _ _, [], first_1, h, rfl, rfl⟩ ?_
        rintro k a S ⟨out_9, i_10, h, rfl, rfl⟩
        cases k with
        | zero => exact (loop2Z h).elim
        | succ k =>
          replace h := loop2S h hB_13
          refine Ex.seq ?_
          refine Ex.seq ?_
          refine regH 3 [] [1, 2, 7, 8, 17] [] (mkS 43 [(1, .int .i64 n_2), (2, .int .i64 many_3), (7, .sl (out_9.map (SV (AV.int .i64))) (some 0)), (8, .int .i64 i_10), (17, .bool (decide (i_10 < n_2)))]) (⟨[], [(out_9.length, 1)]⟩) (by kernel_rfl) trivial rfl ?_
          rcases condI h with ⟨hc_14, h⟩ | ⟨hc_14, h⟩
          · refine Ex.condT _ rfl hc_14 ?_
            refine Ex.skip ?_
            refine Ex.seq ?_
            refine Ex.blockK ?_
            refine Ex.seq ?_
            obtain ⟨r_15, hr_15, h⟩ := Option.bind_eq_some_iff.1 h
            refine Ex.reg ?_
            refine runH 5 [] [1, 2, 7, 8, 21, 22, 24] [] (mkS 43 [(1, .int .i64 n_2), (2, .int .i64 many_3), (7, .sl (out_9.map (SV (AV.int .i64))) (some 0)), (8, .int .i64 i_10), (21, .int .i64 (IntKind.i64.wrap (i_10 + 1))), (22, .int .i64 n_2), (24, .int .i64 (IntKind.i64.wrap (many_3 - 1)))]) (⟨[], [(out_9.length, 1)]⟩) (by kernel_rfl) trivial ?_
            refine ExO.callL [] [.int .i64 (IntKind.i64.wrap (i_10 + 1)), .int .i64 n_2, .int .i64 (IntKind.i64.wrap (many_3 - 1))] rfl rfl (a_br9_Sets (IntKind.i64.wrap (i_10 + 1)) n_2 (IntKind.i64.wrap (many_3 - 1))) rfl rfl (ih (IntKind.i64.wrap (i_10 + 1)) n_2 (IntKind.i64.wrap (many_3 - 1)) r_15 hr_15) (b_br9_Sets _ _ _ _) rfl ?_
            refine runH 1 [] [1, 2, 7, 8, 9] [] (mkS 43 [(1, .int .i64 n_2), (2, .int .i64 many_3), (7, .sl (out_9.map (SV (AV.int .i64))) (some 0)), (8, .int .i64 i_10), (9, .sl (r_15.map (SV (AV.int .i64))) none)]) (⟨[], [(out_9.length, 1)]⟩) (by kernel_rfl) trivial ?_
            refine ExO.nil ?_
            refine Ex.seq ?_
            refine regH 1 [] [1, 2, 7, 8, 9, 10] [] (mkS 43 [(1, .int .i64 n_2), (2, .int .i64 many_3), (7, .sl (out_9.map (SV (AV.int .i64))) (some 0)), (8, .int .i64 i_10), (9, .sl (r_15.map (SV (AV.int .i64))) none), (10, .int .i64 0)]) (⟨[], [(out_9.length, 1)]⟩) (by kernel_rfl) trivial rfl ?_
            obtain ⟨K_18, hK_19, h⟩ := letE h
            refine Ex.blockJ (fun a S => ∃ (out_16 : List (List Int)), K_18 out_16 = some r ∧ a = mkS 43 [(1, .int .i64 n_2), (2, .int .i64 many_3), (7, .sl (out_16.map (SV (AV.int .i64))) (some 0)), (8, .int .i64 i_10)] ∧ S = ⟨[], [(out_16.length, 1)]⟩) ?_ ?_
            · obtain ⟨B_23, hB_24, h⟩ := loop2I h
              refine Ex.loopF (fun k a S => ∃ (out_20 : List (List Int)), ∃ (k_21 : Int), loop2 B_23 k out_20 k_21 = some r ∧ a = mkS 43 [(1, .int .i64 n_2), (2, .int .i64 many_3), (7, .sl (out_20.map (SV (AV.int .i64))) (some 0)), (8, .int .i64 i_10), (9, .sl (r_15.map (SV (AV.int .i64))) none), (10, .int .i64 k_21)] ∧ S = ⟨[], [(out_20.length, 1)]⟩) N ⟨_, _, Forgets.refl _ _ _, out_9, 0, h, rfl, rfl⟩ ?_
              rintro k a S ⟨out_20, k_21, h, rfl, rfl⟩
              cases k with
              | zero => exact (loop2Z h).elim
              | succ k =>
                replace h := loop2S h hB_24
                refine Ex.seq ?_
                refine Ex.seq ?_
                refine regH 4 [(2, .eq (.int .i64 ((r_15.length : Nat) : Int)))] [1, 2, 7, 8, 9, 10, 29] [AV.int .i64 (((r_15.map (SV (AV.int .i64))).length : Nat) : Int) = AV.int .i64 ((r_15.length : Nat) : Int)] (mkS 43 [(1, .int .i64 n_2), (2, .int .i64 many_3), (7, .sl (out_20.map (SV (AV.int .i64))) (some 0)), (8, .int .i64 i_10), (9, .sl (r_15.map (SV (AV.int .i64))) none), (10, .int .i64 k_21), (29, .bool (decide (k_21 < ((r_15.length : Nat) : Int))))]) (⟨[], [(out_20.length, 1)]⟩) (by kernel_rfl) ⟨lenM _ _, trivial⟩ rfl ?_
                rcases condI h with ⟨hc_25, h⟩ | ⟨hc_25, h⟩
                · refine Ex.condT _ rfl hc_25 ?_
                  refine Ex.skip ?_
                  refine Ex.seq ?_
                  refine Ex.blockK ?_
                  refine Ex.postF ?_
                  obtain ⟨x_26, hx_26, h⟩ := Option.bind_eq_some_iff.1 h
                  obtain ⟨l_27, hl_27, h⟩ := Option.bind_eq_some_iff.1 h
                  obtain ⟨l_28, hl_28, h⟩ := Option.bind_eq_some_iff.1 h
                  refine regH 11 [(5, .rop [.sl (x_26.map (AV.int .i64)) none]), (7, .apps (x_26.map (AV.int .i64)) (l_27.map (AV.int .i64)) l_27.length), (9, .app (l_28.map (SV (AV.int .i64))) l_28.length)] [1, 2, 7, 8, 9, 10] [LGet (r_15.map (SV (AV.int .i64))) k_21 1 [.sl (x_26.map (AV.int .i64)) none], LApps 1 (([i_10] : List Int).map (AV.int .i64)) (x_26.map (AV.int .i64)) (x_26.map (AV.int .i64)) 1 (l_27.map (AV.int .i64)) l_27.length, LApp out_20.length (out_20.map (SV (AV.int .i64))) (([l_27] : List (List Int)).map (SV (AV.int .i64))) 1 (l_28.map (SV (AV.int .i64))) l_28.length] (mkS 43 [(1, .int .i64 n_2), (2, .int .i64 many_3), (7, .sl (l_28.map (SV (AV.int .i64))) (some 0)), (8, .int .i64 i_10), (9, .sl (r_15.map (SV (AV.int .i64))) none), (10, .int .i64 k_21)]) (⟨[], [(l_28.length, 1), (l_27.length, 1), (1, 1)]⟩) (by kernel_rfl) ⟨LGet.of hx_26 rfl, LApps.of hl_27 (fun _ => rfl) (fun _ => rfl) (fun _ => rfl), LApp.of hl_28 (fun _ => rfl), trivial⟩ rfl ?_
                  refine ⟨mkS 43 [(1, .int .i64 n_2), (2, .int .i64 many_3), (7, .sl (l_28.map (SV (AV.int .i64))) (some 0)), (8, .int .i64 i_10), (9, .sl (r_15.map (SV (AV.int .i64))) none), (10, .int .i64 k_21)], ⟨[], [(l_28.length, 1), (l_27.length, 1), (1, 1)]⟩, Forgets.refl _ _ _, ?_⟩
                  refine regH 3 [] [1, 2, 7, 8, 9, 10] [] (mkS 43 [(1, .int .i64 n_2), (2, .int .i64 many_3), (7, .sl (l_28.map (SV (AV.int .i64))) (some 0)), (8, .int .i64 i_10), (9, .sl (r_15.map (SV (AV.int .i64))) none), (10, .int .i64 (IntKind.i64.wrap (k_21 + 1)))]) (⟨[], [(l_28.length, 1), (l_27.length, 1), (1, 1)]⟩) (by kernel_rfl) trivial rfl ?_
                  dsimp only
                  exact ⟨_, _, forgetA (m := 43) 0 [0] [(1, .int .i64 n_2), (2, .int .i64 many_3), (7, .sl (l_28.map (SV (AV.int .i64))) (some 0)), (8, .int .i64 i_10), (9, .sl (r_15.map (SV (AV.int .i64))) none), (10, .int .i64 (IntKind.i64.wrap (k_21 + 1)))] [] [(l_28.length, 1)] (by simp [setAll]) (by simp) ⟨rfl, rfl, (reT (cleanII _ _) rfl), rfl, (reN (cleanII _ _)), rfl, trivial⟩ (by simp) rfl (by decide), k, Nat.lt_succ_self k, l_28, (IntKind.i64.wrap (k_21 + 1)), h, rfl, rfl⟩
                · refine Ex.condF _ rfl hc_25 ?_
                  refine Ex.exit ?_
                  (try simp only [reduceCtorEq, AEx.ex.injEq, Nat.reduceEqDiff, if_true, if_false])
                  exact ⟨_, _, forgetK [1, 2, 7, 8], out_20, h, rfl, rfl⟩
            · rintro a S ⟨out_16, h, rfl, rfl⟩
              subst hK_19
              refine regH 3 [] [1, 2, 7, 8] [] (mkS 43 [(1, .int .i64 n_2), (2, .int .i64 many_3), (7, .sl (out_16.map (SV (AV.int .i64))) (some 0)), (8, .int .i64 (IntKind.i64.wrap (i_10 + 1)))]) (⟨[], [(out_16.length, 1)]⟩) (by kernel_rfl) trivial rfl ?_
              dsimp only
              exact ⟨_, _, Forgets.refl _ _ _, k, Nat.lt_succ_self k, out_16, (IntKind.i64.wrap (i_10 + 1)), h, rfl, rfl⟩
          · refine Ex.condF _ rfl hc_14 ?_
            refine Ex.exit ?_
            (try simp only [reduceCtorEq, AEx.ex.injEq, Nat.reduceEqDiff, if_true, if_false])
            exact ⟨_, _, forgetK [7], out_9, h, rfl, rfl⟩
      · rintro a S ⟨out_5, h, rfl, rfl⟩
        subst hK_8
        refine Ex.seq ?_
        refine regH 2 [] [6] [] (mkS 43 [(6, .sl (out_5.map (SV (AV.int .i64))) (some 0))]) (⟨[], [(out_5.length, 1)]⟩) (by kernel_rfl) trivial rfl ?_
        refine Ex.ret ?_
        obtain rfl := Option.some.inj h
        exact ⟨.inr rfl, .sl (out_5.map (SV (AV.int .i64))) (some 0), by kernel_rfl, by kernel_rfl, by kernel_rfl, by kernel_rfl⟩
def p_br9_Bits (N : Nat) (l_1 : (List Int)) : Option (Int) := (letJ (fun (set_2 : Int) => some set_2) (fun k_3 => (loop2 (fun rec_8 (set_6 : Int) (i_7 : Int) => (bif (decide (i_7 < ((l_1.length : Nat) : Int))) then ((getI l_1 i_7).bind fun x_12 => ((nnI x_12).bind fun u_13 => ((some (IntKind.i64.wrap (set_6 + (IntKind.i64.wrap (1 * ((2 : Int) ^ (min (Int.toNat x_12) (IntKind.bits .i64)))))))).bind fun n_14 => (rec_8 n_14 (IntKind.i64.wrap (i_7 + 1)))))) else (k_3 set_6))) N 0 0)))
def v_br9_Bits (r : Int) : AV := .int .i64 r
attribute [local simp] v_br9_Bits
theorem b_br9_Bits (r : Int) (n n2 m : Nat) : back n n2 m (v_br9_Bits r) = some (v_br9_Bits r) := by simp
theorem d_br9_Bits (N : Nat) (l_1 : (List Int)) (r : Int) (h : p_br9_Bits N l_1 = some r) : Does Try.prog 41 [.sl (l_1.map (AV.int .i64)) none] [] fun v c => v = v_br9_Bits r ∧ c = [] := by
  unfold p_br9_Bits at h
  refine Does.ofL comp41 _ _ rfl rfl ?_
  refine Ex.seq ?_
  refine regH 1 [] [0] [] (mkS 19 [(0, .sl (l_1.map (AV.int .i64)) none)]) (⟨[], []⟩) (by kernel_rfl) trivial rfl ?_
  refine Ex.seq ?_
  refine regH 1 [] [0, 3] [] (mkS 19 [(0, .sl (l_1.map (AV.int .i64)) none), (3, .int .i64 0)]) (⟨[], []⟩) (by kernel_rfl) trivial rfl ?_
  refine Ex.seq ?_
  refine Ex.seq ?_
  refine regH 1 [] [0, 3, 4] [] (mkS 19 [(0, .sl (l_1.map (AV.int .i64)) none), (3, .int .i64 0), (4, .int .i64 0)]) (⟨[], []⟩) (by kernel_rfl) trivial rfl ?_
  obtain ⟨K_4, hK_5, h⟩ := letE h
  refine Ex.blockJ (fun a S => ∃ (set_2 : Int), K_4 set_2 = some r ∧ a = mkS 19 [(3, .int .i64 set_2)] ∧ S = ⟨[], []⟩) ?_ ?_
  · obtain ⟨B_9, hB_10, h⟩ := loop2I h
    refine Ex.loopF (fun k a S => ∃ (set_6 : Int), ∃ (i_7 : Int), loop2 B_9 k set_6 i_7 = some r ∧ a = mkS 19 [(0, .sl (l_1.map (AV.int .i64)) none), (3, .int .i64 set_6), (4, .int .i64 i_7)] ∧ S = ⟨[], []⟩) N ⟨_, _, Forgets.refl _ _ _, 0, 0, h, rfl, rfl⟩ ?_
    rintro k a S ⟨set_6, i_7, h, rfl, rfl⟩
    cases k with
    | zero => exact (loop2Z h).elim
    | succ k =>
      replace h := loop2S h hB_10
      refine Ex.seq ?_
      refine Ex.seq ?_
      refine regH 4 [(2, .eq (.int .i64 ((l_1.length : Nat) : Int)))] [0, 3, 4, 8] [AV.int .i64 (((l_1.map (AV.int .i64)).length : Nat) : Int) = AV.int .i64 ((l_1.length : Nat) : Int)] (mkS 19 [(0, .sl (l_1.map (AV.int .i64)) none), (3, .int .i64 set_6), (4, .int .i64 i_7), (8, .bool (decide (i_7 < ((l_1.length : Nat) : Int))))]) (⟨[], []⟩) (by kernel_rfl) ⟨lenM _ _, trivial⟩ rfl ?_
      rcases condI h with ⟨hc_11, h⟩ | ⟨hc_11, h⟩
      · refine Ex.condT _ rfl hc_11 ?_
        refine Ex.skip ?_
        refine Ex.seq ?_
        refine Ex.blockK ?_
        obtain ⟨x_12, hx_12, h⟩ := Option.bind_eq_some_iff.1 h
        obtain ⟨u_13, hu_13, h⟩ := Option.bind_eq_some_iff.1 h
        obtain ⟨n_14, hn_14, h⟩ := Option.bind_eq_some_iff.1 h
        refine regH 8 [(3, .rop [.int .i64 x_12]), (5, .bin (.int .i64 (IntKind.i64.wrap (1 * ((2 : Int) ^ (min (Int.toNat x_12) (IntKind.bits .i64))))))), (6, .eq (.int .i64 n_14))] [0, 3, 4] [LGet (l_1.map (AV.int .i64)) i_7 1 [.int .i64 x_12], binA .shl (.int .i64 1) (.int .i64 x_12) = some (.int .i64 (IntKind.i64.wrap (1 * ((2 : Int) ^ (min (Int.toNat x_12) (IntKind.bits .i64)))))), AV.int .i64 (IntKind.i64.wrap (set_6 + (IntKind.i64.wrap (1 * ((2 : Int) ^ (min (Int.toNat x_12) (IntKind.bits .i64))))))) = AV.int .i64 n_14] (mkS 19 [(0, .sl (l_1.map (AV.int .i64)) none), (3, .int .i64 n_14), (4, .int .i64 i_7)]) (⟨[], []⟩) (by kernel_rfl) ⟨LGet.of hx_12 rfl, binSl hu_13, congrArg (AV.int .i64) (Option.some.inj hn_14), trivial⟩ rfl ?_
        refine regH 3 [] [0, 3, 4] [] (mkS 19 [(0, .sl (l_1.map (AV.int .i64)) none), (3, .int .i64 n_14), (4, .int .i64 (IntKind.i64.wrap (i_7 + 1)))]) (⟨[], []⟩) (by kernel_rfl) trivial rfl ?_
        dsimp only
        exact ⟨_, _, Forgets.refl _ _ _, k, Nat.lt_succ_self k, n_14, (IntKind.i64.wrap (i_7 + 1)), h, rfl, rfl⟩
      · refine Ex.condF _ rfl hc_11 ?_
        refine Ex.exit ?_
        (try simp only [reduceCtorEq, AEx.ex.injEq, Nat.reduceEqDiff, if_true, if_false])
        exact ⟨_, _, forgetK [3], set_6, h, rfl, rfl⟩
  · rintro a S ⟨set_2, h, rfl, rfl⟩
    subst hK_5
    refine Ex.seq ?_
    refine regH 2 [] [2] [] (mkS 19 [(2, .int .i64 set_2)]) (⟨[], []⟩) (by kernel_rfl) trivial rfl ?_
    refine Ex.ret ?_
    obtain rfl := Option.some.inj h
    exact ⟨.inr rfl, .int .i64 set_2, by kernel_rfl, by kernel_rfl, by kernel_rfl, by kernel_rfl⟩
def p_br9_within (N : Nat) (n_1 : Int) (low_2 : Int) (high_3 : Int) : Option (Bool) := (bif (decide (n_1 ≥ low_2)) then some (decide (n_1 ≤ high_3)) else some false)
def v_br9_within (r : Bool) : AV := .bool r
attribute [local simp] v_br9_within
theorem a_br9_within (n_1 : Int) (low_2 : Int) (high_3 : Int) : [.int .i64 n_1, .int .i64 low_2, .int .i64 high_3].mapM (ren []) = some [.int .i64 n_1, .int .i64 low_2, .int .i64 high_3] := by simp
theorem b_br9_within (r : Bool) (n n2 m : Nat) : back n n2 m (v_br9_within r) = some (v_br9_within r) := by simp
theorem d_br9_within (N : Nat) (n_1 : Int) (low_2 : Int) (high_3 : Int) (r : Bool) (h : p_br9_within N n_1 low_2 high_3 = some r) : Does Try.prog 63 [.int .i64 n_1, .int .i64 low_2, .int .i64 high_3] [] fun v c => v = v_br9_within r ∧ c = [] := by
  unfold p_br9_within at h
  refine Does.ofL comp63 _ _ rfl rfl ?_
  refine Ex.seq ?_
  refine regH 1 [] [0, 1, 2] [] (mkS 15 [(0, .int .i64 n_1), (1, .int .i64 low_2), (2, .int .i64 high_3)]) (⟨[], []⟩) (by kernel_rfl) trivial rfl ?_
  refine Ex.seq ?_
  rcases condI h with ⟨hc_4, h⟩ | ⟨hc_4, h⟩
  · refine regH 9 [(3, .eq (.bool true))] [6] [AV.bool (decide (n_1 ≥ low_2)) = AV.bool true] (mkS 15 [(6, .bool (decide (n_1 ≤ high_3)))]) (⟨[], []⟩) (by kernel_rfl) ⟨congrArg AV.bool hc_4, trivial⟩ rfl ?_
    refine Ex.ret ?_
    obtain rfl := Option.some.inj h
    exact ⟨.inr rfl, .bool (decide (n_1 ≤ high_3)), by kernel_rfl, by kernel_rfl, by kernel_rfl, by kernel_rfl⟩
  · refine regH 9 [(3, .eq (.bool false))] [6] [AV.bool (decide (n_1 ≥ low_2)) = AV.bool false] (mkS 15 [(6, .bool false)]) (⟨[], []⟩) (by kernel_rfl) ⟨congrArg AV.bool hc_4, trivial⟩ rfl ?_
    refine Ex.ret ?_
    obtain rfl := Option.some.inj h
    exact ⟨.inr rfl, .bool false, by kernel_rfl, by kernel_rfl, by kernel_rfl, by kernel_rfl⟩
def p_br9_Can (N : Nat) (f_1 : T_api_Fund) (b_2 : T_api_Bill) : Option (Bool) := (letJ (fun (is_3 : Bool) => (bif is_3 then ((p_br9_within N b_2.Day f_1.Day f_1.Until).bind fun r_20 => some r_20) else some false)) (fun k_4 => (loop2 (fun rec_9 (is_7 : Bool) (i_8 : Int) => (bif (decide (i_8 < ((f_1.Uses.length : Nat) : Int))) then (letJ (fun (is_13 : Bool) => (rec_9 is_13 (IntKind.i64.wrap (i_8 + 1)))) (fun k_14 => (bif is_7 then (k_14 true) else ((getI f_1.Uses i_8).bind fun x_18 => (k_14 (x_18 == b_2.Use)))))) else (k_4 is_7))) N false 0)))
def v_br9_Can (r : Bool) : AV := .bool r
attribute [local simp] v_br9_Can
theorem a_br9_Can (f_1 : T_api_Fund) (b_2 : T_api_Bill) : [(A_api_Fund f_1), (A_api_Bill b_2)].mapM (ren []) = some [(A_api_Fund f_1), (A_api_Bill b_2)] := by simp
theorem b_br9_Can (r : Bool) (n n2 m : Nat) : back n n2 m (v_br9_Can r) = some (v_br9_Can r) := by simp
theorem d_br9_Can (N : Nat) (f_1 : T_api_Fund) (b_2 : T_api_Bill) (r : Bool) (h : p_br9_Can N f_1 b_2 = some r) : Does Try.prog 38 [(A_api_Fund f_1), (A_api_Bill b_2)] [] fun v c => v = v_br9_Can r ∧ c = [] := by
  unfold p_br9_Can at h
  refine Does.ofL comp38 _ _ rfl rfl ?_
  refine Ex.seq ?_
  refine regH 3 [] [2, 3] [] (mkS 35 [(2, .ptr 0 0), (3, .ptr 1 0)]) (⟨[(C_api_Fund f_1), (C_api_Bill b_2)], []⟩) (by kernel_rfl) trivial rfl ?_
  refine Ex.seq ?_
  refine regH 1 [] [2, 3, 5] [] (mkS 35 [(2, .ptr 0 0), (3, .ptr 1 0), (5, .bool false)]) (⟨[(C_api_Fund f_1), (C_api_Bill b_2)], []⟩) (by kernel_rfl) trivial rfl ?_
  refine Ex.seq ?_
  refine Ex.seq ?_
  refine regH 1 [] [2, 3, 5, 6] [] (mkS 35 [(2, .ptr 0 0), (3, .ptr 1 0), (5, .bool false), (6, .int .i64 0)]) (⟨[(C_api_Fund f_1), (C_api_Bill b_2)], []⟩) (by kernel_rfl) trivial rfl ?_
  obtain ⟨K_5, hK_6, h⟩ := letE h
  refine Ex.blockJ (fun a S => ∃ (is_3 : Bool), K_5 is_3 = some r ∧ a = mkS 35 [(2, .ptr 0 0), (3, .ptr 1 0), (5, .bool is_3)] ∧ S = ⟨[(C_api_Fund f_1), (C_api_Bill b_2)], []⟩) ?_ ?_
  · obtain ⟨B_10, hB_11, h⟩ := loop2I h
    refine Ex.loopF (fun k a S => ∃ (is_7 : Bool), ∃ (i_8 : Int), loop2 B_10 k is_7 i_8 = some r ∧ a = mkS 35 [(2, .ptr 0 0), (3, .ptr 1 0), (5, .bool is_7), (6, .int .i64 i_8)] ∧ S = ⟨[(C_api_Fund f_1), (C_api_Bill b_2)], []⟩) N ⟨_, _, Forgets.refl _ _ _, false, 0, h, rfl, rfl⟩ ?_
    rintro k a S ⟨is_7, i_8, h, rfl, rfl⟩
    cases k with
    | zero => exact (loop2Z h).elim
    | succ k =>
      replace h := loop2S h hB_11
      refine Ex.seq ?_
      refine Ex.seq ?_
      refine regH 5 [(3, .eq (.int .i64 ((f_1.Uses.length : Nat) : Int)))] [2, 3, 5, 6, 11] [AV.int .i64 (((f_1.Uses.map (AV.int .i64)).length : Nat) : Int) = AV.int .i64 ((f_1.Uses.length : Nat) : Int)] (mkS 35 [(2, .ptr 0 0), (3, .ptr 1 0), (5, .bool is_7), (6, .int .i64 i_8), (11, .bool (decide (i_8 < ((f_1.Uses.length : Nat) : Int))))]) (⟨[(C_api_Fund f_1), (C_api_Bill b_2)], []⟩) (by kernel_rfl) ⟨lenM _ _, trivial⟩ rfl ?_
      rcases condI h with ⟨hc_12, h⟩ | ⟨hc_12, h⟩
      · refine Ex.condT _ rfl hc_12 ?_
        refine Ex.skip ?_
        refine Ex.seq ?_
        obtain ⟨K_15, hK_16, h⟩ := letE h
        refine Ex.blockJ (fun a S => ∃ (is_13 : Bool), K_15 is_13 = some r ∧ a = mkS 35 [(2, .ptr 0 0), (3, .ptr 1 0), (5, .bool is_13), (6, .int .i64 i_8)] ∧ S = ⟨[(C_api_Fund f_1), (C_api_Bill b_2)], []⟩) ?_ ?_
        · rcases condI h with ⟨hc_17, h⟩ | ⟨hc_17, h⟩
          · refine dregX (noClr_ok _) [(1, .eq (.bool true))] [] [2, 3, 5, 6] [AV.bool is_7 = AV.bool true] [] (mkS 35 [(2, .ptr 0 0), (3, .ptr 1 0), (5, .bool is_7), (6, .int .i64 i_8), (11, .bool (decide (i_8 < ((f_1.Uses.length : Nat) : Int)))), (14, .bool is_7), (15, .bool true), (16, .tup []), (17, .tup []), (18, .tup []), (19, .tup []), (20, .tup []), (21, .tup []), (22, .tup [])]) (mkS 35 [(2, .ptr 0 0), (3, .ptr 1 0), (5, .bool true), (6, .int .i64 i_8)]) (by kernel_rfl) (by kernel_rfl) ⟨congrArg AV.bool hc_17, trivial⟩ (by kernel_rfl) trivial ?_
            (try simp only [reduceCtorEq, AEx.ex.injEq, Nat.reduceEqDiff, if_true, if_false])
            exact ⟨_, _, Forgets.refl _ _ _, true, h, rfl, rfl⟩
          · obtain ⟨x_18, hx_18, h⟩ := Option.bind_eq_some_iff.1 h
            refine Ex.drawE (a1 := mkS 35 [(2, .ptr 0 0), (3, .ptr 1 0), (5, .bool is_7), (6, .int .i64 i_8), (11, .bool (decide (i_8 < ((f_1.Uses.length : Nat) : Int)))), (14, .bool is_7), (15, .bool false), (16, .ptr 0 3), (17, .sl (f_1.Uses.map (AV.int .i64)) none), (18, .int .i64 i_8), (19, .rop [.int .i64 x_18]), (20, .int .i64 x_18), (21, .ptr 1 1), (22, .int .i64 b_2.Use)]) (noClr_ok _) [] [] [] ?_ ?_
            · refine drS [0, 1] 9 [(1, .eq (.bool false)), (5, .rop [.int .i64 x_18])] [AV.bool is_7 = AV.bool false, LGet (f_1.Uses.map (AV.int .i64)) i_8 1 [.int .i64 x_18]] (mkS 35 [(2, .ptr 0 0), (3, .ptr 1 0), (5, .bool is_7), (6, .int .i64 i_8), (11, .bool (decide (i_8 < ((f_1.Uses.length : Nat) : Int)))), (14, .bool is_7), (15, .bool false), (16, .ptr 0 3), (17, .sl (f_1.Uses.map (AV.int .i64)) none), (18, .int .i64 i_8), (19, .rop [.int .i64 x_18]), (20, .int .i64 x_18), (21, .ptr 1 1), (22, .int .i64 b_2.Use)]) (by simp) (by kernel_rfl) ⟨congrArg AV.bool hc_17, LGet.of hx_18 rfl, trivial⟩ (by kernel_rfl) ?_
              exact DrO.nil rfl
            · dsimp only [List.getLastD_cons, List.getLastD_nil]
              refine runH 3 [] [2, 3, 5, 6] [] (mkS 35 [(2, .ptr 0 0), (3, .ptr 1 0), (5, .bool (x_18 == b_2.Use)), (6, .int .i64 i_8)]) (⟨[(C_api_Fund f_1), (C_api_Bill b_2)], []⟩) (by kernel_rfl) trivial ?_
              refine ExO.nil ?_
              (try simp only [reduceCtorEq, AEx.ex.injEq, Nat.reduceEqDiff, if_true, if_false])
              exact ⟨_, _, Forgets.refl _ _ _, (x_18 == b_2.Use), h, rfl, rfl⟩
        · rintro a S ⟨is_13, h, rfl, rfl⟩
          subst hK_16
          refine regH 3 [] [2, 3, 5, 6] [] (mkS 35 [(2, .ptr 0 0), (3, .ptr 1 0), (5, .bool is_13), (6, .int .i64 (IntKind.i64.wrap (i_8 + 1)))]) (⟨[(C_api_Fund f_1), (C_api_Bill b_2)], []⟩) (by kernel_rfl) trivial rfl ?_
          dsimp only
          exact ⟨_, _, Forgets.refl _ _ _, k, Nat.lt_succ_self k, is_13, (IntKind.i64.wrap (i_8 + 1)), h, rfl, rfl⟩
      · refine Ex.condF _ rfl hc_12 ?_
        refine Ex.exit ?_
        (try simp only [reduceCtorEq, AEx.ex.injEq, Nat.reduceEqDiff, if_true, if_false])
        exact ⟨_, _, forgetK [2, 3, 5], is_7, h, rfl, rfl⟩
  · rintro a S ⟨is_3, h, rfl, rfl⟩
    subst hK_6
    refine Ex.seq ?_
    rcases condI h with ⟨hc_19, h⟩ | ⟨hc_19, h⟩
    · obtain ⟨r_20, hr_20, h⟩ := Option.bind_eq_some_iff.1 h
      refine Ex.reg ?_
      refine runH 8 [(1, .eq (.bool true))] [26, 28, 30, 32] [AV.bool is_3 = AV.bool true] (mkS 35 [(26, .bool true), (28, .int .i64 b_2.Day), (30, .int .i64 f_1.Day), (32, .int .i64 f_1.Until)]) (⟨[(C_api_Fund f_1), (C_api_Bill b_2)], []⟩) (by kernel_rfl) ⟨congrArg AV.bool hc_19, trivial⟩ ?_
      refine ExO.callL [] [.int .i64 b_2.Day, .int .i64 f_1.Day, .int .i64 f_1.Until] rfl rfl (a_br9_within b_2.Day f_1.Day f_1.Until) rfl rfl (d_br9_within N b_2.Day f_1.Day f_1.Until r_20 hr_20) (b_br9_within _ _ _ _) rfl ?_
      refine runH 2 [] [4] [] (mkS 35 [(4, .bool r_20)]) (⟨[(C_api_Fund f_1), (C_api_Bill b_2)], []⟩) (by kernel_rfl) trivial ?_
      refine ExO.nil ?_
      refine Ex.ret ?_
      obtain rfl := Option.some.inj h
      exact ⟨.inr rfl, .bool r_20, by kernel_rfl, by kernel_rfl, by kernel_rfl, by kernel_rfl⟩
    · refine regH 11 [(1, .eq (.bool false))] [4] [AV.bool is_3 = AV.bool false] (mkS 35 [(4, .bool false)]) (⟨[(C_api_Fund f_1), (C_api_Bill b_2)], []⟩) (by kernel_rfl) ⟨congrArg AV.bool hc_19, trivial⟩ rfl ?_
      refine Ex.ret ?_
      obtain rfl := Option.some.inj h
      exact ⟨.inr rfl, .bool false, by kernel_rfl, by kernel_rfl, by kernel_rfl, by kernel_rfl⟩
def p_br9_Pays (N : Nat) (l_1 : T_api_Ledger) (fund_2 : Int) (set_3 : Int) : Option (Bool) := (letJ (fun (_ : Unit) => some false) (fun k_4 => (loop1 (fun rec_8 (i_7 : Int) => (bif (decide (i_7 < ((l_1.Bills.length : Nat) : Int))) then (letJ (fun (y_12 : Bool) => (bif y_12 then some true else (rec_8 (IntKind.i64.wrap (i_7 + 1))))) (fun k_13 => ((nnI i_7).bind fun u_16 => ((some (IntKind.i64.wrap (((BitVec.ofInt (IntKind.bits .i64) (Int.fdiv set_3 ((2 : Int) ^ (min (Int.toNat i_7) (IntKind.bits .i64)))) &&& BitVec.ofInt (IntKind.bits .i64) 1).toNat : Nat) : Int))).bind fun n_17 => (bif (n_17 == 1) then ((getI l_1.Funds fund_2).bind fun x_19 => ((getI l_1.Bills i_7).bind fun x_20 => ((p_br9_Can N x_19 x_20).bind fun r_21 => (k_13 r_21)))) else (k_13 false)))))) else (k_4 ()))) N 0)))
def v_br9_Pays (r : Bool) : AV := .bool r
attribute [local simp] v_br9_Pays
theorem a_br9_Pays (l_1 : T_api_Ledger) (fund_2 : Int) (set_3 : Int) : [(A_api_Ledger l_1), .int .i64 fund_2, .int .i64 set_3].mapM (ren []) = some [(A_api_Ledger l_1), .int .i64 fund_2, .int .i64 set_3] := by simp
theorem b_br9_Pays (r : Bool) (n n2 m : Nat) : back n n2 m (v_br9_Pays r) = some (v_br9_Pays r) := by simp
theorem d_br9_Pays (N : Nat) (l_1 : T_api_Ledger) (fund_2 : Int) (set_3 : Int) (r : Bool) (h : p_br9_Pays N l_1 fund_2 set_3 = some r) : Does Try.prog 56 [(A_api_Ledger l_1), .int .i64 fund_2, .int .i64 set_3] [] fun v c => v = v_br9_Pays r ∧ c = [] := by
  unfold p_br9_Pays at h
  refine Does.ofL comp56 _ _ rfl rfl ?_
  refine Ex.seq ?_
  refine regH 2 [] [1, 2, 3] [] (mkS 33 [(1, .int .i64 fund_2), (2, .int .i64 set_3), (3, .ptr 0 0)]) (⟨[(C_api_Ledger l_1)], []⟩) (by kernel_rfl) trivial rfl ?_
  refine Ex.seq ?_
  refine Ex.seq ?_
  refine regH 1 [] [1, 2, 3, 7] [] (mkS 33 [(1, .int .i64 fund_2), (2, .int .i64 set_3), (3, .ptr 0 0), (7, .int .i64 0)]) (⟨[(C_api_Ledger l_1)], []⟩) (by kernel_rfl) trivial rfl ?_
  obtain ⟨K_5, hK_6, h⟩ := letE h
  refine Ex.blockJ (fun a S => K_5 () = some r ∧ a = mkS 33 [] ∧ S = ⟨[], []⟩) ?_ ?_
  · obtain ⟨B_9, hB_10, h⟩ := loop1I h
    refine Ex.loopF (fun k a S => ∃ (i_7 : Int), loop1 B_9 k i_7 = some r ∧ a = mkS 33 [(1, .int .i64 fund_2), (2, .int .i64 set_3), (3, .ptr 0 0), (7, .int .i64 i_7)] ∧ S = ⟨[(C_api_Ledger l_1)], []⟩) N ⟨_, _, Forgets.refl _ _ _, 0, h, rfl, rfl⟩ ?_
    rintro k a S ⟨i_7, h, rfl, rfl⟩
    cases k with
    | zero => exact (loop1Z h).elim
    | succ k =>
      replace h := loop1S h hB_10
      refine Ex.seq ?_
      refine Ex.seq ?_
      refine regH 5 [(3, .eq (.int .i64 ((l_1.Bills.length : Nat) : Int)))] [1, 2, 3, 7, 12] [AV.int .i64 (((l_1.Bills.map A_api_Bill).length : Nat) : Int) = AV.int .i64 ((l_1.Bills.length : Nat) : Int)] (mkS 33 [(1, .int .i64 fund_2), (2, .int .i64 set_3), (3, .ptr 0 0), (7, .int .i64 i_7), (12, .bool (decide (i_7 < ((l_1.Bills.length : Nat) : Int))))]) (⟨[(C_api_Ledger l_1)], []⟩) (by kernel_rfl) ⟨lenM _ _, trivial⟩ rfl ?_
      rcases condI h with ⟨hc_11, h⟩ | ⟨hc_11, h⟩
      · refine Ex.condT _ rfl hc_11 ?_
        refine Ex.skip ?_
        refine Ex.seq ?_
        refine Ex.blockK ?_
        obtain ⟨K_14, hK_15, h⟩ := letE h
        refine Ex.seqJ (fun a S => ∃ (y_12 : Bool), K_14 y_12 = some r ∧ a = mkS 33 [(1, .int .i64 fund_2), (2, .int .i64 set_3), (3, .ptr 0 0), (7, .int .i64 i_7), (32, .bool y_12)] ∧ S = ⟨[(C_api_Ledger l_1)], []⟩) ?_ ?_
        · obtain ⟨u_16, hu_16, h⟩ := Option.bind_eq_some_iff.1 h
          obtain ⟨n_17, hn_17, h⟩ := Option.bind_eq_some_iff.1 h
          rcases condI h with ⟨hc_18, h⟩ | ⟨hc_18, h⟩
          · obtain ⟨x_19, hx_19, h⟩ := Option.bind_eq_some_iff.1 h
            obtain ⟨x_20, hx_20, h⟩ := Option.bind_eq_some_iff.1 h
            refine Ex.drawE (a1 := mkS 33 [(1, .int .i64 fund_2), (2, .int .i64 set_3), (3, .ptr 0 0), (7, .int .i64 i_7), (12, .bool (decide (i_7 < ((l_1.Bills.length : Nat) : Int)))), (15, .int .i64 set_3), (16, .int .i64 i_7), (17, .int .i64 (Int.fdiv set_3 ((2 : Int) ^ (min (Int.toNat i_7) (IntKind.bits .i64))))), (18, .int .i64 n_17), (19, .bool (n_17 == 1)), (20, .bool true), (21, .ptr 0 0), (22, .sl (l_1.Funds.map A_api_Fund) none), (23, .int .i64 fund_2), (24, .rop (C_api_Fund x_19)), (25, (A_api_Fund x_19)), (26, .ptr 0 1), (27, .sl (l_1.Bills.map A_api_Bill) none), (28, .int .i64 i_7), (29, .rop (C_api_Bill x_20)), (30, (A_api_Bill x_20))]) (noClr_ok _) [] [] [] ?_ ?_
            · refine drS [0] 16 [(2, .bin (.int .i64 (Int.fdiv set_3 ((2 : Int) ^ (min (Int.toNat i_7) (IntKind.bits .i64)))))), (3, .eq (.int .i64 n_17)), (5, .eq (.bool true)), (9, .rop (C_api_Fund x_19)), (14, .rop (C_api_Bill x_20))] [binA .shr (.int .i64 set_3) (.int .i64 i_7) = some (.int .i64 (Int.fdiv set_3 ((2 : Int) ^ (min (Int.toNat i_7) (IntKind.bits .i64))))), AV.int .i64 (IntKind.i64.wrap (((BitVec.ofInt (IntKind.bits .i64) (Int.fdiv set_3 ((2 : Int) ^ (min (Int.toNat i_7) (IntKind.bits .i64)))) &&& BitVec.ofInt (IntKind.bits .i64) 1).toNat : Nat) : Int)) = AV.int .i64 n_17, AV.bool (n_17 == 1) = AV.bool true, LGet (l_1.Funds.map A_api_Fund) fund_2 4 (C_api_Fund x_19), LGet (l_1.Bills.map A_api_Bill) i_7 3 (C_api_Bill x_20)] (mkS 33 [(1, .int .i64 fund_2), (2, .int .i64 set_3), (3, .ptr 0 0), (7, .int .i64 i_7), (12, .bool (decide (i_7 < ((l_1.Bills.length : Nat) : Int)))), (15, .int .i64 set_3), (16, .int .i64 i_7), (17, .int .i64 (Int.fdiv set_3 ((2 : Int) ^ (min (Int.toNat i_7) (IntKind.bits .i64))))), (18, .int .i64 n_17), (19, .bool (n_17 == 1)), (20, .bool true), (21, .ptr 0 0), (22, .sl (l_1.Funds.map A_api_Fund) none), (23, .int .i64 fund_2), (24, .rop (C_api_Fund x_19)), (25, (A_api_Fund x_19)), (26, .ptr 0 1), (27, .sl (l_1.Bills.map A_api_Bill) none), (28, .int .i64 i_7), (29, .rop (C_api_Bill x_20)), (30, (A_api_Bill x_20))]) (by simp) (by kernel_rfl) ⟨binSr hu_16, congrArg (AV.int .i64) (Option.some.inj hn_17), congrArg AV.bool hc_18, LGet.of hx_19 rfl, LGet.of hx_20 rfl, trivial⟩ (by kernel_rfl) ?_
              exact DrO.nil rfl
            · dsimp only [List.getLastD_cons, List.getLastD_nil]
              obtain ⟨r_21, hr_21, h⟩ := Option.bind_eq_some_iff.1 h
              refine ExO.callL [] [(A_api_Fund x_19), (A_api_Bill x_20)] rfl rfl (a_br9_Can x_19 x_20) rfl rfl (d_br9_Can N x_19 x_20 r_21 hr_21) (b_br9_Can _ _ _ _) rfl ?_
              refine runH 1 [] [1, 2, 3, 7, 32] [] (mkS 33 [(1, .int .i64 fund_2), (2, .int .i64 set_3), (3, .ptr 0 0), (7, .int .i64 i_7), (32, .bool r_21)]) (⟨[(C_api_Ledger l_1)], []⟩) (by kernel_rfl) trivial ?_
              refine ExO.nil ?_
              (try simp only [reduceCtorEq, AEx.ex.injEq, Nat.reduceEqDiff, if_true, if_false])
              exact ⟨_, _, Forgets.refl _ _ _, r_21, h, rfl, rfl⟩
          · refine dregX (noClr_ok _) [(2, .bin (.int .i64 (Int.fdiv set_3 ((2 : Int) ^ (min (Int.toNat i_7) (IntKind.bits .i64)))))), (3, .eq (.int .i64 n_17)), (5, .eq (.bool false))] [] [1, 2, 3, 7, 32] [binA .shr (.int .i64 set_3) (.int .i64 i_7) = some (.int .i64 (Int.fdiv set_3 ((2 : Int) ^ (min (Int.toNat i_7) (IntKind.bits .i64))))), AV.int .i64 (IntKind.i64.wrap (((BitVec.ofInt (IntKind.bits .i64) (Int.fdiv set_3 ((2 : Int) ^ (min (Int.toNat i_7) (IntKind.bits .i64)))) &&& BitVec.ofInt (IntKind.bits .i64) 1).toNat : Nat) : Int)) = AV.int .i64 n_17, AV.bool (n_17 == 1) = AV.bool false] [] (mkS 33 [(1, .int .i64 fund_2), (2, .int .i64 set_3), (3, .ptr 0 0), (7, .int .i64 i_7), (12, .bool (decide (i_7 < ((l_1.Bills.length : Nat) : Int)))), (15, .int .i64 set_3), (16, .int .i64 i_7), (17, .int .i64 (Int.fdiv set_3 ((2 : Int) ^ (min (Int.toNat i_7) (IntKind.bits .i64))))), (18, .int .i64 n_17), (19, .bool (n_17 == 1)), (20, .bool false), (21, .tup []), (22, .tup []), (23, .tup []), (24, .tup []), (25, .tup []), (26, .tup []), (27, .tup []), (28, .tup []), (29, .tup []), (30, .tup [])]) (mkS 33 [(1, .int .i64 fund_2), (2, .int .i64 set_3), (3, .ptr 0 0), (7, .int .i64 i_7), (32, .bool false)]) (by kernel_rfl) (by kernel_rfl) ⟨binSr hu_16, congrArg (AV.int .i64) (Option.some.inj hn_17), congrArg AV.bool hc_18, trivial⟩ (by kernel_rfl) trivial ?_
            (try simp only [reduceCtorEq, AEx.ex.injEq, Nat.reduceEqDiff, if_true, if_false])
            exact ⟨_, _, Forgets.refl _ _ _, false, h, rfl, rfl⟩
        · rintro a S ⟨y_12, h, rfl, rfl⟩
          subst hK_15
          rcases condI h with ⟨hc_22, h⟩ | ⟨hc_22, h⟩
          · refine Ex.condT _ rfl hc_22 ?_
            refine Ex.seq ?_
            refine regH 1 [] [6] [] (mkS 33 [(6, .bool true)]) (⟨[(C_api_Ledger l_1)], []⟩) (by kernel_rfl) trivial rfl ?_
            refine Ex.ret ?_
            obtain rfl := Option.some.inj h
            exact ⟨.inr rfl, .bool true, by kernel_rfl, by kernel_rfl, by kernel_rfl, by kernel_rfl⟩
          · refine Ex.condF _ rfl hc_22 ?_
            refine Ex.skip ?_
            refine regH 3 [] [1, 2, 3, 7] [] (mkS 33 [(1, .int .i64 fund_2), (2, .int .i64 set_3), (3, .ptr 0 0), (7, .int .i64 (IntKind.i64.wrap (i_7 + 1)))]) (⟨[(C_api_Ledger l_1)], []⟩) (by kernel_rfl) trivial rfl ?_
            dsimp only
            exact ⟨_, _, Forgets.refl _ _ _, k, Nat.lt_succ_self k, (IntKind.i64.wrap (i_7 + 1)), h, rfl, rfl⟩
      · refine Ex.condF _ rfl hc_11 ?_
        refine Ex.exit ?_
        (try simp only [reduceCtorEq, AEx.ex.injEq, Nat.reduceEqDiff, if_true, if_false])
        exact ⟨_, _, forgetA (m := 33) 0 [] [] [] [] (by simp [setAll]) (by simp) trivial (by simp) rfl (by decide), h, rfl, rfl⟩
  · rintro a S ⟨h, rfl, rfl⟩
    subst hK_6
    refine Ex.seq ?_
    refine regH 1 [] [6] [] (mkS 33 [(6, .bool false)]) (⟨[], []⟩) (by kernel_rfl) trivial rfl ?_
    refine Ex.ret ?_
    obtain rfl := Option.some.inj h
    exact ⟨.inr rfl, .bool false, by kernel_rfl, by kernel_rfl, by kernel_rfl, by kernel_rfl⟩
def p_br9_Slack (N : Nat) (l_1 : T_api_Ledger) (set_2 : Int) : Option (Int) := (letJ (fun (n_3 : Int) => (letJ (fun (n_20 : Int) => some n_20) (fun k_21 => (loop2 (fun rec_26 (n_24 : Int) (i_25 : Int) => (bif (decide (i_25 < ((l_1.Bills.length : Nat) : Int))) then (letJ (fun (n_30 : Int) => (rec_26 n_30 (IntKind.i64.wrap (i_25 + 1)))) (fun k_31 => ((nnI i_25).bind fun u_34 => ((some (IntKind.i64.wrap (((BitVec.ofInt (IntKind.bits .i64) (Int.fdiv set_2 ((2 : Int) ^ (min (Int.toNat i_25) (IntKind.bits .i64)))) &&& BitVec.ofInt (IntKind.bits .i64) 1).toNat : Nat) : Int))).bind fun n_35 => (bif (n_35 == 1) then ((getI l_1.Bills i_25).bind fun x_37 => (k_31 (IntKind.i64.wrap (n_24 - x_37.Amount)))) else (k_31 n_24)))))) else (k_21 n_24))) N n_3 0)))) (fun k_4 => (loop2 (fun rec_9 (n_7 : Int) (i_8 : Int) => (bif (decide (i_8 < ((l_1.Funds.length : Nat) : Int))) then (letJ (fun (n_13 : Int) => (rec_9 n_13 (IntKind.i64.wrap (i_8 + 1)))) (fun k_14 => ((p_br9_Pays N l_1 i_8 set_2).bind fun r_17 => (bif r_17 then ((getI l_1.Funds i_8).bind fun x_19 => (k_14 (IntKind.i64.wrap (n_7 + x_19.Amount)))) else (k_14 n_7))))) else (k_4 n_7))) N 0 0)))
def v_br9_Slack (r : Int) : AV := .int .i64 r
attribute [local simp] v_br9_Slack
theorem a_br9_Slack (l_1 : T_api_Ledger) (set_2 : Int) : [(A_api_Ledger l_1), .int .i64 set_2].mapM (ren []) = some [(A_api_Ledger l_1), .int .i64 set_2] := by simp
theorem b_br9_Slack (r : Int) (n n2 m : Nat) : back n n2 m (v_br9_Slack r) = some (v_br9_Slack r) := by simp
theorem d_br9_Slack (N : Nat) (l_1 : T_api_Ledger) (set_2 : Int) (r : Int) (h : p_br9_Slack N l_1 set_2 = some r) : Does Try.prog 40 [(A_api_Ledger l_1), .int .i64 set_2] [] fun v c => v = v_br9_Slack r ∧ c = [] := by
  unfold p_br9_Slack at h
  refine Does.ofL comp40 _ _ rfl rfl ?_
  refine Ex.seq ?_
  refine regH 2 [] [1, 2] [] (mkS 48 [(1, .int .i64 set_2), (2, .ptr 0 0)]) (⟨[(C_api_Ledger l_1)], []⟩) (by kernel_rfl) trivial rfl ?_
  refine Ex.seq ?_
  refine regH 1 [] [1, 2, 5] [] (mkS 48 [(1, .int .i64 set_2), (2, .ptr 0 0), (5, .int .i64 0)]) (⟨[(C_api_Ledger l_1)], []⟩) (by kernel_rfl) trivial rfl ?_
  refine Ex.seq ?_
  refine Ex.seq ?_
  refine regH 1 [] [1, 2, 5, 6] [] (mkS 48 [(1, .int .i64 set_2), (2, .ptr 0 0), (5, .int .i64 0), (6, .int .i64 0)]) (⟨[(C_api_Ledger l_1)], []⟩) (by kernel_rfl) trivial rfl ?_
  obtain ⟨K_5, hK_6, h⟩ := letE h
  refine Ex.blockJ (fun a S => ∃ (n_3 : Int), K_5 n_3 = some r ∧ a = mkS 48 [(1, .int .i64 set_2), (2, .ptr 0 0), (5, .int .i64 n_3)] ∧ S = ⟨[(C_api_Ledger l_1)], []⟩) ?_ ?_
  · obtain ⟨B_10, hB_11, h⟩ := loop2I h
    refine Ex.loopF (fun k a S => ∃ (n_7 : Int), ∃ (i_8 : Int), loop2 B_10 k n_7 i_8 = some r ∧ a = mkS 48 [(1, .int .i64 set_2), (2, .ptr 0 0), (5, .int .i64 n_7), (6, .int .i64 i_8)] ∧ S = ⟨[(C_api_Ledger l_1)], []⟩) N ⟨_, _, Forgets.refl _ _ _, 0, 0, h, rfl, rfl⟩ ?_
    rintro k a S ⟨n_7, i_8, h, rfl, rfl⟩
    cases k with
    | zero => exact (loop2Z h).elim
    | succ k =>
      replace h := loop2S h hB_11
      refine Ex.seq ?_
      refine Ex.seq ?_
      refine regH 5 [(3, .eq (.int .i64 ((l_1.Funds.length : Nat) : Int)))] [1, 2, 5, 6, 12] [AV.int .i64 (((l_1.Funds.map A_api_Fund).length : Nat) : Int) = AV.int .i64 ((l_1.Funds.length : Nat) : Int)] (mkS 48 [(1, .int .i64 set_2), (2, .ptr 0 0), (5, .int .i64 n_7), (6, .int .i64 i_8), (12, .bool (decide (i_8 < ((l_1.Funds.length : Nat) : Int))))]) (⟨[(C_api_Ledger l_1)], []⟩) (by kernel_rfl) ⟨lenM _ _, trivial⟩ rfl ?_
      rcases condI h with ⟨hc_12, h⟩ | ⟨hc_12, h⟩
      · refine Ex.condT _ rfl hc_12 ?_
        refine Ex.skip ?_
        refine Ex.seq ?_
        obtain ⟨K_15, hK_16, h⟩ := letE h
        refine Ex.blockJ (fun a S => ∃ (n_13 : Int), K_15 n_13 = some r ∧ a = mkS 48 [(1, .int .i64 set_2), (2, .ptr 0 0), (5, .int .i64 n_13), (6, .int .i64 i_8)] ∧ S = ⟨[(C_api_Ledger l_1)], []⟩) ?_ ?_
        · refine Ex.seq ?_
          obtain ⟨r_17, hr_17, h⟩ := Option.bind_eq_some_iff.1 h
          refine Ex.reg ?_
          refine runH 3 [] [1, 2, 5, 6, 15, 16, 17] [] (mkS 48 [(1, .int .i64 set_2), (2, .ptr 0 0), (5, .int .i64 n_7), (6, .int .i64 i_8), (15, (A_api_Ledger l_1)), (16, .int .i64 i_8), (17, .int .i64 set_2)]) (⟨[(C_api_Ledger l_1)], []⟩) (by kernel_rfl) trivial ?_
          refine ExO.callL [] [(A_api_Ledger l_1), .int .i64 i_8, .int .i64 set_2] rfl rfl (a_br9_Pays l_1 i_8 set_2) rfl rfl (d_br9_Pays N l_1 i_8 set_2 r_17 hr_17) (b_br9_Pays _ _ _ _) rfl ?_
          refine runH 0 [] [1, 2, 5, 6, 18] [] (mkS 48 [(1, .int .i64 set_2), (2, .ptr 0 0), (5, .int .i64 n_7), (6, .int .i64 i_8), (18, .bool r_17)]) (⟨[(C_api_Ledger l_1)], []⟩) (by kernel_rfl) trivial ?_
          refine ExO.nil ?_
          rcases condI h with ⟨hc_18, h⟩ | ⟨hc_18, h⟩
          · refine Ex.condT _ rfl hc_18 ?_
            obtain ⟨x_19, hx_19, h⟩ := Option.bind_eq_some_iff.1 h
            refine regH 9 [(4, .rop (C_api_Fund x_19))] [1, 2, 5, 6] [LGet (l_1.Funds.map A_api_Fund) i_8 4 (C_api_Fund x_19)] (mkS 48 [(1, .int .i64 set_2), (2, .ptr 0 0), (5, .int .i64 (IntKind.i64.wrap (n_7 + x_19.Amount))), (6, .int .i64 i_8)]) (⟨[(C_api_Ledger l_1)], []⟩) (by kernel_rfl) ⟨LGet.of hx_19 rfl, trivial⟩ rfl ?_
            (try simp only [reduceCtorEq, AEx.ex.injEq, Nat.reduceEqDiff, if_true, if_false])
            exact ⟨_, _, Forgets.refl _ _ _, (IntKind.i64.wrap (n_7 + x_19.Amount)), h, rfl, rfl⟩
          · refine Ex.condF _ rfl hc_18 ?_
            refine Ex.skip ?_
            (try simp only [reduceCtorEq, AEx.ex.injEq, Nat.reduceEqDiff, if_true, if_false])
            exact ⟨_, _, forgetK [1, 2, 5, 6], n_7, h, rfl, rfl⟩
        · rintro a S ⟨n_13, h, rfl, rfl⟩
          subst hK_16
          refine regH 3 [] [1, 2, 5, 6] [] (mkS 48 [(1, .int .i64 set_2), (2, .ptr 0 0), (5, .int .i64 n_13), (6, .int .i64 (IntKind.i64.wrap (i_8 + 1)))]) (⟨[(C_api_Ledger l_1)], []⟩) (by kernel_rfl) trivial rfl ?_
          dsimp only
          exact ⟨_, _, Forgets.refl _ _ _, k, Nat.lt_succ_self k, n_13, (IntKind.i64.wrap (i_8 + 1)), h, rfl, rfl⟩
      · refine Ex.condF _ rfl hc_12 ?_
        refine Ex.exit ?_
        (try simp only [reduceCtorEq, AEx.ex.injEq, Nat.reduceEqDiff, if_true, if_false])
        exact ⟨_, _, forgetK [1, 2, 5], n_7, h, rfl, rfl⟩
  · rintro a S ⟨n_3, h, rfl, rfl⟩
    subst hK_6
    refine Ex.seq ?_
    refine Ex.seq ?_
    refine regH 1 [] [1, 2, 5, 7] [] (mkS 48 [(1, .int .i64 set_2), (2, .ptr 0 0), (5, .int .i64 n_3), (7, .int .i64 0)]) (⟨[(C_api_Ledger l_1)], []⟩) (by kernel_rfl) trivial rfl ?_
    obtain ⟨K_22, hK_23, h⟩ := letE h
    refine Ex.blockJ (fun a S => ∃ (n_20 : Int), K_22 n_20 = some r ∧ a = mkS 48 [(5, .int .i64 n_20)] ∧ S = ⟨[], []⟩) ?_ ?_
    · obtain ⟨B_27, hB_28, h⟩ := loop2I h
      refine Ex.loopF (fun k a S => ∃ (n_24 : Int), ∃ (i_25 : Int), loop2 B_27 k n_24 i_25 = some r ∧ a = mkS 48 [(1, .int .i64 set_2), (2, .ptr 0 0), (5, .int .i64 n_24), (7, .int .i64 i_25)] ∧ S = ⟨[(C_api_Ledger l_1)], []⟩) N ⟨_, _, Forgets.refl _ _ _, n_3, 0, h, rfl, rfl⟩ ?_
      rintro k a S ⟨n_24, i_25, h, rfl, rfl⟩
      cases k with
      | zero => exact (loop2Z h).elim
      | succ k =>
        replace h := loop2S h hB_28
        refine Ex.seq ?_
        refine Ex.seq ?_
        refine regH 5 [(3, .eq (.int .i64 ((l_1.Bills.length : Nat) : Int)))] [1, 2, 5, 7, 31] [AV.int .i64 (((l_1.Bills.map A_api_Bill).length : Nat) : Int) = AV.int .i64 ((l_1.Bills.length : Nat) : Int)] (mkS 48 [(1, .int .i64 set_2), (2, .ptr 0 0), (5, .int .i64 n_24), (7, .int .i64 i_25), (31, .bool (decide (i_25 < ((l_1.Bills.length : Nat) : Int))))]) (⟨[(C_api_Ledger l_1)], []⟩) (by kernel_rfl) ⟨lenM _ _, trivial⟩ rfl ?_
        rcases condI h with ⟨hc_29, h⟩ | ⟨hc_29, h⟩
        · refine Ex.condT _ rfl hc_29 ?_
          refine Ex.skip ?_
          refine Ex.seq ?_
          obtain ⟨K_32, hK_33, h⟩ := letE h
          refine Ex.blockJ (fun a S => ∃ (n_30 : Int), K_32 n_30 = some r ∧ a = mkS 48 [(1, .int .i64 set_2), (2, .ptr 0 0), (5, .int .i64 n_30), (7, .int .i64 i_25)] ∧ S = ⟨[(C_api_Ledger l_1)], []⟩) ?_ ?_
          · refine Ex.seq ?_
            obtain ⟨u_34, hu_34, h⟩ := Option.bind_eq_some_iff.1 h
            obtain ⟨n_35, hn_35, h⟩ := Option.bind_eq_some_iff.1 h
            refine regH 5 [(2, .bin (.int .i64 (Int.fdiv set_2 ((2 : Int) ^ (min (Int.toNat i_25) (IntKind.bits .i64)))))), (3, .eq (.int .i64 n_35))] [1, 2, 5, 7, 38] [binA .shr (.int .i64 set_2) (.int .i64 i_25) = some (.int .i64 (Int.fdiv set_2 ((2 : Int) ^ (min (Int.toNat i_25) (IntKind.bits .i64))))), AV.int .i64 (IntKind.i64.wrap (((BitVec.ofInt (IntKind.bits .i64) (Int.fdiv set_2 ((2 : Int) ^ (min (Int.toNat i_25) (IntKind.bits .i64)))) &&& BitVec.ofInt (IntKind.bits .i64) 1).toNat : Nat) : Int)) = AV.int .i64 n_35] (mkS 48 [(1, .int .i64 set_2), (2, .ptr 0 0), (5, .int .i64 n_24), (7, .int .i64 i_25), (38, .bool (n_35 == 1))]) (⟨[(C_api_Ledger l_1)], []⟩) (by kernel_rfl) ⟨binSr hu_34, congrArg (AV.int .i64) (Option.some.inj hn_35), trivial⟩ rfl ?_
            rcases condI h with ⟨hc_36, h⟩ | ⟨hc_36, h⟩
            · refine Ex.condT _ rfl hc_36 ?_
              obtain ⟨x_37, hx_37, h⟩ := Option.bind_eq_some_iff.1 h
              refine regH 9 [(4, .rop (C_api_Bill x_37))] [1, 2, 5, 7] [LGet (l_1.Bills.map A_api_Bill) i_25 3 (C_api_Bill x_37)] (mkS 48 [(1, .int .i64 set_2), (2, .ptr 0 0), (5, .int .i64 (IntKind.i64.wrap (n_24 - x_37.Amount))), (7, .int .i64 i_25)]) (⟨[(C_api_Ledger l_1)], []⟩) (by kernel_rfl) ⟨LGet.of hx_37 rfl, trivial⟩ rfl ?_
              (try simp only [reduceCtorEq, AEx.ex.injEq, Nat.reduceEqDiff, if_true, if_false])
              exact ⟨_, _, Forgets.refl _ _ _, (IntKind.i64.wrap (n_24 - x_37.Amount)), h, rfl, rfl⟩
            · refine Ex.condF _ rfl hc_36 ?_
              refine Ex.skip ?_
              (try simp only [reduceCtorEq, AEx.ex.injEq, Nat.reduceEqDiff, if_true, if_false])
              exact ⟨_, _, forgetK [1, 2, 5, 7], n_24, h, rfl, rfl⟩
          · rintro a S ⟨n_30, h, rfl, rfl⟩
            subst hK_33
            refine regH 3 [] [1, 2, 5, 7] [] (mkS 48 [(1, .int .i64 set_2), (2, .ptr 0 0), (5, .int .i64 n_30), (7, .int .i64 (IntKind.i64.wrap (i_25 + 1)))]) (⟨[(C_api_Ledger l_1)], []⟩) (by kernel_rfl) trivial rfl ?_
            dsimp only
            exact ⟨_, _, Forgets.refl _ _ _, k, Nat.lt_succ_self k, n_30, (IntKind.i64.wrap (i_25 + 1)), h, rfl, rfl⟩
        · refine Ex.condF _ rfl hc_29 ?_
          refine Ex.exit ?_
          (try simp only [reduceCtorEq, AEx.ex.injEq, Nat.reduceEqDiff, if_true, if_false])
          exact ⟨_, _, forgetA (m := 48) 0 [] [(5, .int .i64 n_24)] [] [] (by simp [setAll]) (by simp) ⟨rfl, trivial⟩ (by simp) rfl (by decide), n_24, h, rfl, rfl⟩
    · rintro a S ⟨n_20, h, rfl, rfl⟩
      subst hK_23
      refine Ex.seq ?_
      refine regH 2 [] [4] [] (mkS 48 [(4, .int .i64 n_20)]) (⟨[], []⟩) (by kernel_rfl) trivial rfl ?_
      refine Ex.ret ?_
      obtain rfl := Option.some.inj h
      exact ⟨.inr rfl, .int .i64 n_20, by kernel_rfl, by kernel_rfl, by kernel_rfl, by kernel_rfl⟩
def p_bl9_CoinShort (N : Nat) (nums_1 : (List Int)) : Option (Bool) := ((p_bk_DrumOf N nums_1).bind fun r_2 => ((p_bk_Drum_Any N r_2 [5, 50]).bind fun r_3 => ((p_bk_LedgerOf N r_3.2 5 5 r_3.1).bind fun r_4 => ((p_coin_Short N r_4.1).bind fun r_5 => ((p_coin_Trace N r_4.1).bind fun r_6 => (bif (r_5.2 == 7) then (bif (r_6.2 == 0) then (bif (((r_5.1.length : Nat) : Int) == 0) then ((p_bl9_awake N).bind fun r_10 => some r_10) else some false) else some false) else (letJ (fun (y_11 : Bool) => (bif y_11 then some false else (letJ (fun (_ : Unit) => (letJ (fun (_ : Unit) => ((p_br9_Bits N r_5.1).bind fun r_67 => ((p_br9_Slack N r_4.1 r_67).bind fun r_69 => (bif (decide (r_69 < 0)) then ((p_bl9_awake N).bind fun r_71 => some r_71) else some false)))) (fun k_38 => (loop1 (fun rec_42 (many_41 : Int) => (bif (decide (many_41 ≤ ((r_5.1.length : Nat) : Int))) then ((p_br9_Sets N 0 ((r_4.1.Bills.length : Nat) : Int) many_41).bind fun r_46 => (letJ (fun (_ : Unit) => (rec_42 (IntKind.i64.wrap (many_41 + 1)))) (fun k_47 => (loop1 (fun rec_51 (i_50 : Int) => (letJ (fun (y_54 : Bool) => (bif y_54 then ((getI r_46 i_50).bind fun x_62 => ((p_br9_Bits N x_62).bind fun r_63 => ((p_br9_Slack N r_4.1 r_63).bind fun r_65 => (bif (decide (r_65 < 0)) then some false else (rec_51 (IntKind.i64.wrap (i_50 + 1))))))) else (k_47 ()))) (fun k_55 => (bif (decide (i_50 < ((r_46.length : Nat) : Int))) then ((getI r_46 i_50).bind fun x_59 => ((p_bk_EqInts N x_59 r_5.1).bind fun r_60 => (k_55 (!r_60)))) else (k_55 false))))) N 0)))) else (k_38 ()))) N 1)))) (fun k_18 => (loop1 (fun rec_22 (i_21 : Int) => (bif (decide (i_21 < ((r_5.1.length : Nat) : Int))) then (letJ (fun (y_26 : Bool) => (bif y_26 then some false else (rec_22 (IntKind.i64.wrap (i_21 + 1))))) (fun k_27 => ((getI r_5.1 i_21).bind fun x_30 => (bif (decide (x_30 < 0)) then (k_27 true) else ((getI r_5.1 i_21).bind fun x_32 => (bif (decide (x_32 ≥ ((r_4.1.Bills.length : Nat) : Int))) then (k_27 true) else (bif (decide (i_21 > 0)) then ((getI r_5.1 i_21).bind fun x_35 => ((getI r_5.1 (IntKind.i64.wrap (i_21 - 1))).bind fun x_36 => (k_27 (decide (x_35 ≤ x_36))))) else (k_27 false)))))))) else (k_18 ()))) N 0))))) (fun k_12 => (bif (r_5.2 != 0) then (k_12 true) else (bif (r_6.2 != 4) then (k_12 true) else (k_12 (((r_5.1.length : Nat) : Int) == 0))))))))))))
def v_bl9_CoinShort (r : Bool) : AV := .bool r
attribute [local simp] v_bl9_CoinShort
theorem d_bl9_CoinShort (N : Nat) (nums_1 : (List Int)) (r : Bool) (h : p_bl9_CoinShort N nums_1 = some r) : Does Try.prog 7 [.sl (nums_1.map (AV.int .i64)) none] [] fun v c => v = v_bl9_CoinShort r ∧ c = [] := by
  unfold p_bl9_CoinShort at h
  refine Does.ofL comp7 _ _ rfl rfl ?_
  refine Ex.seq ?_
  refine regH 1 [] [0] [] (mkS 132 [(0, .sl (nums_1.map (AV.int .i64)) none)]) (⟨[], []⟩) (by kernel_rfl) trivial rfl ?_
  refine Ex.seq ?_
  obtain ⟨r_2, hr_2, h⟩ := Option.bind_eq_some_iff.1 h
  refine Ex.reg ?_
  refine runH 1 [] [13] [] (mkS 132 [(13, .sl (nums_1.map (AV.int .i64)) none)]) (⟨[], []⟩) (by kernel_rfl) trivial ?_
  refine ExO.callL (v' := .ptr 0 0) [] [.sl (nums_1.map (AV.int .i64)) none] rfl rfl (a_bk_DrumOf nums_1) rfl rfl (d_bk_DrumOf N nums_1 r_2 hr_2) rfl (by simp) ?_
  refine runH 1 [] [3] [] (mkS 132 [(3, .ptr 0 0)]) (⟨[(C_bk_Drum r_2)], []⟩) (by kernel_rfl) trivial ?_
  refine ExO.nil ?_
  refine Ex.seq ?_
  obtain ⟨r_3, hr_3, h⟩ := Option.bind_eq_some_iff.1 h
  refine Ex.reg ?_
  refine runH 3 [] [15, 16, 17] [] (mkS 132 [(15, .ptr 0 0), (16, .ptr 0 0), (17, .sl (([5, 50] : List Int).map (AV.int .i64)) (some 0))]) (⟨[(C_bk_Drum r_2)], [(2, 1)]⟩) (by kernel_rfl) trivial ?_
  refine ExO.callL [0] [.ptr 0 0, .sl (([5, 50] : List Int).map (AV.int .i64)) (some 0)] rfl rfl (by simp; try rfl) rfl (by simp) (d_bk_Drum_Any N r_2 [5, 50] r_3 hr_3) (b_bk_Drum_Any _ _ _ _) (by simp) ?_
  obtain ⟨r_4, hr_4, h⟩ := Option.bind_eq_some_iff.1 h
  refine ExO.callL [0] [.ptr 0 0, .int .i64 5, .int .i64 5, .int .i64 r_3.1] rfl rfl (by simp; try rfl) rfl (by simp) (d_bk_LedgerOf N r_3.2 5 5 r_3.1 r_4 hr_4) (b_bk_LedgerOf _ _ _ _) (by simp) ?_
  refine runH 2 [] [4] [] (mkS 132 [(4, .ptr 1 0)]) (⟨[(C_bk_Drum r_4.2), (C_api_Ledger r_4.1)], [(2, 1)]⟩) (by kernel_rfl) trivial ?_
  refine ExO.nil ?_
  refine Ex.seq ?_
  obtain ⟨r_5, hr_5, h⟩ := Option.bind_eq_some_iff.1 h
  refine Ex.reg ?_
  refine runH 1 [] [4, 21] [] (mkS 132 [(4, .ptr 1 0), (21, (A_api_Ledger r_4.1))]) (⟨[(C_bk_Drum r_4.2), (C_api_Ledger r_4.1)], [(2, 1)]⟩) (by kernel_rfl) trivial ?_
  refine ExO.callL [] [(A_api_Ledger r_4.1)] rfl rfl (a_coin_Short r_4.1) rfl rfl (d_coin_Short N r_4.1 r_5 hr_5) (b_coin_Short _ _ _ _) rfl ?_
  refine runH 5 [] [4, 5, 6] [] (mkS 132 [(4, .ptr 1 0), (5, .sl (r_5.1.map (AV.int .i64)) none), (6, .int .i64 r_5.2)]) (⟨[(C_bk_Drum r_4.2), (C_api_Ledger r_4.1)], [(2, 1)]⟩) (by kernel_rfl) trivial ?_
  refine ExO.nil ?_
  refine Ex.seq ?_
  obtain ⟨r_6, hr_6, h⟩ := Option.bind_eq_some_iff.1 h
  refine Ex.reg ?_
  refine runH 1 [] [4, 5, 6, 26] [] (mkS 132 [(4, .ptr 1 0), (5, .sl (r_5.1.map (AV.int .i64)) none), (6, .int .i64 r_5.2), (26, (A_api_Ledger r_4.1))]) (⟨[(C_bk_Drum r_4.2), (C_api_Ledger r_4.1)], [(2, 1)]⟩) (by kernel_rfl) trivial ?_
  refine ExO.callL [] [(A_api_Ledger r_4.1)] rfl rfl (a_coin_Trace r_4.1) rfl rfl (d_coin_Trace N r_4.1 r_6 hr_6) (b_coin_Trace _ _ _ _) rfl ?_
  refine runH 5 [] [4, 5, 6, 8] [] (mkS 132 [(4, .ptr 1 0), (5, .sl (r_5.1.map (AV.int .i64)) none), (6, .int .i64 r_5.2), (8, .int .i64 r_6.2)]) (⟨[(C_bk_Drum r_4.2), (C_api_Ledger r_4.1)], [(2, 1)]⟩) (by kernel_rfl) trivial ?_
  refine ExO.nil ?_
  refine Ex.seq ?_
  refine Ex.seq ?_
  refine regH 2 [] [4, 5, 6, 8, 31] [] (mkS 132 [(4, .ptr 1 0), (5, .sl (r_5.1.map (AV.int .i64)) none), (6, .int .i64 r_5.2), (8, .int .i64 r_6.2), (31, .bool (r_5.2 == 7))]) (⟨[(C_bk_Drum r_4.2), (C_api_Ledger r_4.1)], [(2, 1)]⟩) (by kernel_rfl) trivial rfl ?_
  rcases condI h with ⟨hc_7, h⟩ | ⟨hc_7, h⟩
  · refine Ex.condT _ rfl hc_7 ?_
    refine Ex.seq ?_
    rcases condI h with ⟨hc_8, h⟩ | ⟨hc_8, h⟩
    · rcases condI h with ⟨hc_9, h⟩ | ⟨hc_9, h⟩
      · obtain ⟨r_10, hr_10, h⟩ := Option.bind_eq_some_iff.1 h
        refine Ex.reg ?_
        refine runH 8 [(2, .eq (.bool true)), (4, .eq (.int .i64 ((r_5.1.length : Nat) : Int))), (7, .eq (.bool true))] [39] [AV.bool (r_6.2 == 0) = AV.bool true, AV.int .i64 (((r_5.1.map (AV.int .i64)).length : Nat) : Int) = AV.int .i64 ((r_5.1.length : Nat) : Int), AV.bool (((r_5.1.length : Nat) : Int) == 0) = AV.bool true] (mkS 132 [(39, .bool true)]) (⟨[(C_bk_Drum r_4.2), (C_api_Ledger r_4.1)], [(2, 1)]⟩) (by kernel_rfl) ⟨congrArg AV.bool hc_8, lenM _ _, congrArg AV.bool hc_9, trivial⟩ ?_
        refine ExO.callL [] [] rfl rfl (a_bl9_awake) rfl rfl (d_bl9_awake N r_10 hr_10) (b_bl9_awake _ _ _ _) rfl ?_
        refine runH 2 [] [2] [] (mkS 132 [(2, .bool r_10)]) (⟨[(C_bk_Drum r_4.2), (C_api_Ledger r_4.1)], [(2, 1)]⟩) (by kernel_rfl) trivial ?_
        refine ExO.nil ?_
        refine Ex.ret ?_
        obtain rfl := Option.some.inj h
        exact ⟨.inr rfl, .bool r_10, by kernel_rfl, by kernel_rfl, by kernel_rfl, by kernel_rfl⟩
      · refine regH 11 [(2, .eq (.bool true)), (4, .eq (.int .i64 ((r_5.1.length : Nat) : Int))), (7, .eq (.bool false))] [2] [AV.bool (r_6.2 == 0) = AV.bool true, AV.int .i64 (((r_5.1.map (AV.int .i64)).length : Nat) : Int) = AV.int .i64 ((r_5.1.length : Nat) : Int), AV.bool (((r_5.1.length : Nat) : Int) == 0) = AV.bool false] (mkS 132 [(2, .bool false)]) (⟨[(C_bk_Drum r_4.2), (C_api_Ledger r_4.1)], [(2, 1)]⟩) (by kernel_rfl) ⟨congrArg AV.bool hc_8, lenM _ _, congrArg AV.bool hc_9, trivial⟩ rfl ?_
        refine Ex.ret ?_
        obtain rfl := Option.some.inj h
        exact ⟨.inr rfl, .bool false, by kernel_rfl, by kernel_rfl, by kernel_rfl, by kernel_rfl⟩
    · refine regH 11 [(2, .eq (.bool false))] [2] [AV.bool (r_6.2 == 0) = AV.bool false] (mkS 132 [(2, .bool false)]) (⟨[(C_bk_Drum r_4.2), (C_api_Ledger r_4.1)], [(2, 1)]⟩) (by kernel_rfl) ⟨congrArg AV.bool hc_8, trivial⟩ rfl ?_
      refine Ex.ret ?_
      obtain rfl := Option.some.inj h
      exact ⟨.inr rfl, .bool false, by kernel_rfl, by kernel_rfl, by kernel_rfl, by kernel_rfl⟩
  · refine Ex.condF _ rfl hc_7 ?_
    refine Ex.skip ?_
    refine Ex.seq ?_
    obtain ⟨K_13, hK_14, h⟩ := letE h
    refine Ex.seqJ (fun a S => ∃ (y_11 : Bool), K_13 y_11 = some r ∧ a = mkS 132 [(4, .ptr 1 0), (5, .sl (r_5.1.map (AV.int .i64)) none), (52, .bool y_11)] ∧ S = ⟨[(C_bk_Drum r_4.2), (C_api_Ledger r_4.1)], []⟩) ?_ ?_
    · rcases condI h with ⟨hc_15, h⟩ | ⟨hc_15, h⟩
      · refine regH 11 [(2, .eq (.bool true))] [4, 5, 52] [AV.bool (r_5.2 != 0) = AV.bool true] (mkS 132 [(4, .ptr 1 0), (5, .sl (r_5.1.map (AV.int .i64)) none), (52, .bool true)]) (⟨[(C_bk_Drum r_4.2), (C_api_Ledger r_4.1)], [(2, 1)]⟩) (by kernel_rfl) ⟨congrArg AV.bool hc_15, trivial⟩ rfl ?_
        (try simp only [reduceCtorEq, AEx.ex.injEq, Nat.reduceEqDiff, if_true, if_false])
        exact ⟨_, _, forgetA (m := 132) 2 [] [(4, .ptr 1 0), (5, .sl (r_5.1.map (AV.int .i64)) none), (52, .bool true)] [(C_bk_Drum r_4.2), (C_api_Ledger r_4.1)] [] (by simp [setAll]) (by simp) ⟨rfl, (reN (cleanI _ _)), rfl, trivial⟩ (by simp) rfl (by decide), true, h, rfl, rfl⟩
      · rcases condI h with ⟨hc_16, h⟩ | ⟨hc_16, h⟩
        · refine regH 11 [(2, .eq (.bool false)), (6, .eq (.bool true))] [4, 5, 52] [AV.bool (r_5.2 != 0) = AV.bool false, AV.bool (r_6.2 != 4) = AV.bool true] (mkS 132 [(4, .ptr 1 0), (5, .sl (r_5.1.map (AV.int .i64)) none), (52, .bool true)]) (⟨[(C_bk_Drum r_4.2), (C_api_Ledger r_4.1)], [(2, 1)]⟩) (by kernel_rfl) ⟨congrArg AV.bool hc_15, congrArg AV.bool hc_16, trivial⟩ rfl ?_
          (try simp only [reduceCtorEq, AEx.ex.injEq, Nat.reduceEqDiff, if_true, if_false])
          exact ⟨_, _, forgetA (m := 132) 2 [] [(4, .ptr 1 0), (5, .sl (r_5.1.map (AV.int .i64)) none), (52, .bool true)] [(C_bk_Drum r_4.2), (C_api_Ledger r_4.1)] [] (by simp [setAll]) (by simp) ⟨rfl, (reN (cleanI _ _)), rfl, trivial⟩ (by simp) rfl (by decide), true, h, rfl, rfl⟩
        · refine regH 11 [(2, .eq (.bool false)), (6, .eq (.bool false)), (8, .eq (.int .i64 ((r_5.1.length : Nat) : Int)))] [4, 5, 52] [AV.bool (r_5.2 != 0) = AV.bool false, AV.bool (r_6.2 != 4) = AV.bool false, AV.int .i64 (((r_5.1.map (AV.int .i64)).length : Nat) : Int) = AV.int .i64 ((r_5.1.length : Nat) : Int)] (mkS 132 [(4, .ptr 1 0), (5, .sl (r_5.1.map (AV.int .i64)) none), (52, .bool (((r_5.1.length : Nat) : Int) == 0))]) (⟨[(C_bk_Drum r_4.2), (C_api_Ledger r_4.1)], [(2, 1)]⟩) (by kernel_rfl) ⟨congrArg AV.bool hc_15, congrArg AV.bool hc_16, lenM _ _, trivial⟩ rfl ?_
          (try simp only [reduceCtorEq, AEx.ex.injEq, Nat.reduceEqDiff, if_true, if_false])
          exact ⟨_, _, forgetA (m := 132) 2 [] [(4, .ptr 1 0), (5, .sl (r_5.1.map (AV.int .i64)) none), (52, .bool (((r_5.1.length : Nat) : Int) == 0))] [(C_bk_Drum r_4.2), (C_api_Ledger r_4.1)] [] (by simp [setAll]) (by simp) ⟨rfl, (reN (cleanI _ _)), rfl, trivial⟩ (by simp) rfl (by decide), (((r_5.1.length : Nat) : Int) == 0), h, rfl, rfl⟩
    · rintro a S ⟨y_11, h, rfl, rfl⟩
      subst hK_14
      rcases condI h with ⟨hc_17, h⟩ | ⟨hc_17, h⟩
      · refine Ex.condT _ rfl hc_17 ?_
        refine Ex.seq ?_
        refine regH 1 [] [2] [] (mkS 132 [(2, .bool false)]) (⟨[(C_bk_Drum r_4.2), (C_api_Ledger r_4.1)], []⟩) (by kernel_rfl) trivial rfl ?_
        refine Ex.ret ?_
        obtain rfl := Option.some.inj h
        exact ⟨.inr rfl, .bool false, by kernel_rfl, by kernel_rfl, by kernel_rfl, by kernel_rfl⟩
      · refine Ex.condF _ rfl hc_17 ?_
        refine Ex.skip ?_
        refine Ex.seq ?_
        refine Ex.seq ?_
        refine regH 1 [] [4, 5, 9] [] (mkS 132 [(4, .ptr 1 0), (5, .sl (r_5.1.map (AV.int .i64)) none), (9, .int .i64 0)]) (⟨[(C_bk_Drum r_4.2), (C_api_Ledger r_4.1)], []⟩) (by kernel_rfl) trivial rfl ?_
        obtain ⟨K_19, hK_20, h⟩ := letE h
        refine Ex.blockJ (fun a S => K_19 () = some r ∧ a = mkS 132 [(4, .ptr 1 0), (5, .sl (r_5.1.map (AV.int .i64)) none)] ∧ S = ⟨[(C_bk_Drum r_4.2), (C_api_Ledger r_4.1)], []⟩) ?_ ?_
        · obtain ⟨B_23, hB_24, h⟩ := loop1I h
          refine Ex.loopF (fun k a S => ∃ (i_21 : Int), loop1 B_23 k i_21 = some r ∧ a = mkS 132 [(4, .ptr 1 0), (5, .sl (r_5.1.map (AV.int .i64)) none), (9, .int .i64 i_21)] ∧ S = ⟨[(C_bk_Drum r_4.2), (C_api_Ledger r_4.1)], []⟩) N ⟨_, _, Forgets.refl _ _ _, 0, h, rfl, rfl⟩ ?_
          rintro k a S ⟨i_21, h, rfl, rfl⟩
          cases k with
          | zero => exact (loop1Z h).elim
          | succ k =>
            replace h := loop1S h hB_24
            refine Ex.seq ?_
            refine Ex.seq ?_
            refine regH 4 [(2, .eq (.int .i64 ((r_5.1.length : Nat) : Int)))] [4, 5, 9, 56] [AV.int .i64 (((r_5.1.map (AV.int .i64)).length : Nat) : Int) = AV.int .i64 ((r_5.1.length : Nat) : Int)] (mkS 132 [(4, .ptr 1 0), (5, .sl (r_5.1.map (AV.int .i64)) none), (9, .int .i64 i_21), (56, .bool (decide (i_21 < ((r_5.1.length : Nat) : Int))))]) (⟨[(C_bk_Drum r_4.2), (C_api_Ledger r_4.1)], []⟩) (by kernel_rfl) ⟨lenM _ _, trivial⟩ rfl ?_
            rcases condI h with ⟨hc_25, h⟩ | ⟨hc_25, h⟩
            · refine Ex.condT _ rfl hc_25 ?_
              refine Ex.skip ?_
              refine Ex.seq ?_
              refine Ex.blockK ?_
              obtain ⟨K_28, hK_29, h⟩ := letE h
              refine Ex.seqJ (fun a S => ∃ (y_26 : Bool), K_28 y_26 = some r ∧ a = mkS 132 [(4, .ptr 1 0), (5, .sl (r_5.1.map (AV.int .i64)) none), (9, .int .i64 i_21), (89, .bool y_26)] ∧ S = ⟨[(C_bk_Drum r_4.2), (C_api_Ledger r_4.1)], []⟩) ?_ ?_
              · obtain ⟨x_30, hx_30, h⟩ := Option.bind_eq_some_iff.1 h
                rcases condI h with ⟨hc_31, h⟩ | ⟨hc_31, h⟩
                · refine dregX (noClr_ok _) [(2, .rop [.int .i64 x_30]), (5, .eq (.bool true))] [] [4, 5, 9, 89] [LGet (r_5.1.map (AV.int .i64)) i_21 1 [.int .i64 x_30], AV.bool (decide (x_30 < 0)) = AV.bool true] [] (mkS 132 [(4, .ptr 1 0), (5, .sl (r_5.1.map (AV.int .i64)) none), (9, .int .i64 i_21), (56, .bool (decide (i_21 < ((r_5.1.length : Nat) : Int)))), (59, .sl (r_5.1.map (AV.int .i64)) none), (60, .int .i64 i_21), (61, .rop [.int .i64 x_30]), (62, .int .i64 x_30), (63, .bool (decide (x_30 < 0))), (64, .bool true), (65, .tup []), (66, .tup []), (67, .tup []), (68, .tup []), (69, .tup []), (70, .tup []), (71, .tup []), (72, .tup []), (73, .bool true), (74, .bool true), (75, .tup []), (76, .tup []), (77, .tup []), (78, .tup []), (79, .tup []), (80, .tup []), (81, .tup []), (82, .tup []), (83, .tup []), (84, .tup []), (85, .tup []), (86, .tup [])]) (mkS 132 [(4, .ptr 1 0), (5, .sl (r_5.1.map (AV.int .i64)) none), (9, .int .i64 i_21), (89, .bool true)]) (by kernel_rfl) (by kernel_rfl) ⟨LGet.of hx_30 rfl, congrArg AV.bool hc_31, trivial⟩ (by kernel_rfl) trivial ?_
                  (try simp only [reduceCtorEq, AEx.ex.injEq, Nat.reduceEqDiff, if_true, if_false])
                  exact ⟨_, _, Forgets.refl _ _ _, true, h, rfl, rfl⟩
                · obtain ⟨x_32, hx_32, h⟩ := Option.bind_eq_some_iff.1 h
                  rcases condI h with ⟨hc_33, h⟩ | ⟨hc_33, h⟩
                  · refine dregX (noClr_ok _) [(2, .rop [.int .i64 x_30]), (5, .eq (.bool false)), (8, .rop [.int .i64 x_32]), (12, .eq (.int .i64 ((r_4.1.Bills.length : Nat) : Int))), (15, .eq (.bool true))] [] [4, 5, 9, 89] [LGet (r_5.1.map (AV.int .i64)) i_21 1 [.int .i64 x_30], AV.bool (decide (x_30 < 0)) = AV.bool false, LGet (r_5.1.map (AV.int .i64)) i_21 1 [.int .i64 x_32], AV.int .i64 (((r_4.1.Bills.map A_api_Bill).length : Nat) : Int) = AV.int .i64 ((r_4.1.Bills.length : Nat) : Int), AV.bool (decide (x_32 ≥ ((r_4.1.Bills.length : Nat) : Int))) = AV.bool true] [] (mkS 132 [(4, .ptr 1 0), (5, .sl (r_5.1.map (AV.int .i64)) none), (9, .int .i64 i_21), (56, .bool (decide (i_21 < ((r_5.1.length : Nat) : Int)))), (59, .sl (r_5.1.map (AV.int .i64)) none), (60, .int .i64 i_21), (61, .rop [.int .i64 x_30]), (62, .int .i64 x_30), (63, .bool (decide (x_30 < 0))), (64, .bool false), (65, .sl (r_5.1.map (AV.int .i64)) none), (66, .int .i64 i_21), (67, .rop [.int .i64 x_32]), (68, .int .i64 x_32), (69, .ptr 1 1), (70, .sl (r_4.1.Bills.map A_api_Bill) none), (71, .int .i64 ((r_4.1.Bills.length : Nat) : Int)), (72, .bool (decide (x_32 ≥ ((r_4.1.Bills.length : Nat) : Int)))), (73, .bool (decide (x_32 ≥ ((r_4.1.Bills.length : Nat) : Int)))), (74, .bool true), (75, .tup []), (76, .tup []), (77, .tup []), (78, .tup []), (79, .tup []), (80, .tup []), (81, .tup []), (82, .tup []), (83, .tup []), (84, .tup []), (85, .tup []), (86, .tup [])]) (mkS 132 [(4, .ptr 1 0), (5, .sl (r_5.1.map (AV.int .i64)) none), (9, .int .i64 i_21), (89, .bool true)]) (by kernel_rfl) (by kernel_rfl) ⟨LGet.of hx_30 rfl, congrArg AV.bool hc_31, LGet.of hx_32 rfl, lenM _ _, congrArg AV.bool hc_33, trivial⟩ (by kernel_rfl) trivial ?_
                    (try simp only [reduceCtorEq, AEx.ex.injEq, Nat.reduceEqDiff, if_true, if_false])
                    exact ⟨_, _, Forgets.refl _ _ _, true, h, rfl, rfl⟩
                  · rcases condI h with ⟨hc_34, h⟩ | ⟨hc_34, h⟩
                    · obtain ⟨x_35, hx_35, h⟩ := Option.bind_eq_some_iff.1 h
                      obtain ⟨x_36, hx_36, h⟩ := Option.bind_eq_some_iff.1 h
                      refine Ex.drawE (a1 := mkS 132 [(4, .ptr 1 0), (5, .sl (r_5.1.map (AV.int .i64)) none), (9, .int .i64 i_21), (56, .bool (decide (i_21 < ((r_5.1.length : Nat) : Int)))), (59, .sl (r_5.1.map (AV.int .i64)) none), (60, .int .i64 i_21), (61, .rop [.int .i64 x_30]), (62, .int .i64 x_30), (63, .bool (decide (x_30 < 0))), (64, .bool false), (65, .sl (r_5.1.map (AV.int .i64)) none), (66, .int .i64 i_21), (67, .rop [.int .i64 x_32]), (68, .int .i64 x_32), (69, .ptr 1 1), (70, .sl (r_4.1.Bills.map A_api_Bill) none), (71, .int .i64 ((r_4.1.Bills.length : Nat) : Int)), (72, .bool (decide (x_32 ≥ ((r_4.1.Bills.length : Nat) : Int)))), (73, .bool (decide (x_32 ≥ ((r_4.1.Bills.length : Nat) : Int)))), (74, .bool false), (75, .int .i64 i_21), (76, .bool (decide (i_21 > 0))), (77, .bool true), (78, .sl (r_5.1.map (AV.int .i64)) none), (79, .int .i64 i_21), (80, .rop [.int .i64 x_35]), (81, .int .i64 x_35), (82, .sl (r_5.1.map (AV.int .i64)) none), (83, .int .i64 i_21), (84, .int .i64 (IntKind.i64.wrap (i_21 - 1))), (85, .rop [.int .i64 x_36]), (86, .int .i64 x_36)]) (noClr_ok _) [] [] [] ?_ ?_
                      · refine drS [0, 1] 28 [(2, .rop [.int .i64 x_30]), (5, .eq (.bool false)), (8, .rop [.int .i64 x_32]), (12, .eq (.int .i64 ((r_4.1.Bills.length : Nat) : Int))), (15, .eq (.bool false)), (18, .eq (.bool true)), (21, .rop [.int .i64 x_35]), (26, .rop [.int .i64 x_36])] [LGet (r_5.1.map (AV.int .i64)) i_21 1 [.int .i64 x_30], AV.bool (decide (x_30 < 0)) = AV.bool false, LGet (r_5.1.map (AV.int .i64)) i_21 1 [.int .i64 x_32], AV.int .i64 (((r_4.1.Bills.map A_api_Bill).length : Nat) : Int) = AV.int .i64 ((r_4.1.Bills.length : Nat) : Int), AV.bool (decide (x_32 ≥ ((r_4.1.Bills.length : Nat) : Int))) = AV.bool false, AV.bool (decide (i_21 > 0)) = AV.bool true, LGet (r_5.1.map (AV.int .i64)) i_21 1 [.int .i64 x_35], LGet (r_5.1.map (AV.int .i64)) (IntKind.i64.wrap (i_21 - 1)) 1 [.int .i64 x_36]] (mkS 132 [(4, .ptr 1 0), (5, .sl (r_5.1.map (AV.int .i64)) none), (9, .int .i64 i_21), (56, .bool (decide (i_21 < ((r_5.1.length : Nat) : Int)))), (59, .sl (r_5.1.map (AV.int .i64)) none), (60, .int .i64 i_21), (61, .rop [.int .i64 x_30]), (62, .int .i64 x_30), (63, .bool (decide (x_30 < 0))), (64, .bool false), (65, .sl (r_5.1.map (AV.int .i64)) none), (66, .int .i64 i_21), (67, .rop [.int .i64 x_32]), (68, .int .i64 x_32), (69, .ptr 1 1), (70, .sl (r_4.1.Bills.map A_api_Bill) none), (71, .int .i64 ((r_4.1.Bills.length : Nat) : Int)), (72, .bool (decide (x_32 ≥ ((r_4.1.Bills.length : Nat) : Int)))), (73, .bool (decide (x_32 ≥ ((r_4.1.Bills.length : Nat) : Int)))), (74, .bool false), (75, .int .i64 i_21), (76, .bool (decide (i_21 > 0))), (77, .bool true), (78, .sl (r_5.1.map (AV.int .i64)) none), (79, .int .i64 i_21), (80, .rop [.int .i64 x_35]), (81, .int .i64 x_35), (82, .sl (r_5.1.map (AV.int .i64)) none), (83, .int .i64 i_21), (84, .int .i64 (IntKind.i64.wrap (i_21 - 1))), (85, .rop [.int .i64 x_36]), (86, .int .i64 x_36)]) (by simp) (by kernel_rfl) ⟨LGet.of hx_30 rfl, congrArg AV.bool hc_31, LGet.of hx_32 rfl, lenM _ _, congrArg AV.bool hc_33, congrArg AV.bool hc_34, LGet.of hx_35 rfl, LGet.of hx_36 rfl, trivial⟩ (by kernel_rfl) ?_
                        exact DrO.nil rfl
                      · dsimp only [List.getLastD_cons, List.getLastD_nil]
                        refine runH 3 [] [4, 5, 9, 89] [] (mkS 132 [(4, .ptr 1 0), (5, .sl (r_5.1.map (AV.int .i64)) none), (9, .int .i64 i_21), (89, .bool (decide (x_35 ≤ x_36)))]) (⟨[(C_bk_Drum r_4.2), (C_api_Ledger r_4.1)], []⟩) (by kernel_rfl) trivial ?_
                        refine ExO.nil ?_
                        (try simp only [reduceCtorEq, AEx.ex.injEq, Nat.reduceEqDiff, if_true, if_false])
                        exact ⟨_, _, Forgets.refl _ _ _, (decide (x_35 ≤ x_36)), h, rfl, rfl⟩
                    · refine dregX (noClr_ok _) [(2, .rop [.int .i64 x_30]), (5, .eq (.bool false)), (8, .rop [.int .i64 x_32]), (12, .eq (.int .i64 ((r_4.1.Bills.length : Nat) : Int))), (15, .eq (.bool false)), (18, .eq (.bool false))] [] [4, 5, 9, 89] [LGet (r_5.1.map (AV.int .i64)) i_21 1 [.int .i64 x_30], AV.bool (decide (x_30 < 0)) = AV.bool false, LGet (r_5.1.map (AV.int .i64)) i_21 1 [.int .i64 x_32], AV.int .i64 (((r_4.1.Bills.map A_api_Bill).length : Nat) : Int) = AV.int .i64 ((r_4.1.Bills.length : Nat) : Int), AV.bool (decide (x_32 ≥ ((r_4.1.Bills.length : Nat) : Int))) = AV.bool false, AV.bool (decide (i_21 > 0)) = AV.bool false] [] (mkS 132 [(4, .ptr 1 0), (5, .sl (r_5.1.map (AV.int .i64)) none), (9, .int .i64 i_21), (56, .bool (decide (i_21 < ((r_5.1.length : Nat) : Int)))), (59, .sl (r_5.1.map (AV.int .i64)) none), (60, .int .i64 i_21), (61, .rop [.int .i64 x_30]), (62, .int .i64 x_30), (63, .bool (decide (x_30 < 0))), (64, .bool false), (65, .sl (r_5.1.map (AV.int .i64)) none), (66, .int .i64 i_21), (67, .rop [.int .i64 x_32]), (68, .int .i64 x_32), (69, .ptr 1 1), (70, .sl (r_4.1.Bills.map A_api_Bill) none), (71, .int .i64 ((r_4.1.Bills.length : Nat) : Int)), (72, .bool (decide (x_32 ≥ ((r_4.1.Bills.length : Nat) : Int)))), (73, .bool (decide (x_32 ≥ ((r_4.1.Bills.length : Nat) : Int)))), (74, .bool false), (75, .int .i64 i_21), (76, .bool (decide (i_21 > 0))), (77, .bool false), (78, .tup []), (79, .tup []), (80, .tup []), (81, .tup []), (82, .tup []), (83, .tup []), (84, .tup []), (85, .tup []), (86, .tup [])]) (mkS 132 [(4, .ptr 1 0), (5, .sl (r_5.1.map (AV.int .i64)) none), (9, .int .i64 i_21), (89, .bool false)]) (by kernel_rfl) (by kernel_rfl) ⟨LGet.of hx_30 rfl, congrArg AV.bool hc_31, LGet.of hx_32 rfl, lenM _ _, congrArg AV.bool hc_33, congrArg AV.bool hc_34, trivial⟩ (by kernel_rfl) trivial ?_
                      (try simp only [reduceCtorEq, AEx.ex.injEq, Nat.reduceEqDiff, if_true, if_false])
                      exact ⟨_, _, Forgets.refl _ _ _, false, h, rfl, rfl⟩
              · rintro a S ⟨y_26, h, rfl, rfl⟩
                subst hK_29
                rcases condI h with ⟨hc_37, h⟩ | ⟨hc_37, h⟩
                · refine Ex.condT _ rfl hc_37 ?_
                  refine Ex.seq ?_
                  refine regH 1 [] [2] [] (mkS 132 [(2, .bool false)]) (⟨[(C_bk_Drum r_4.2), (C_api_Ledger r_4.1)], []⟩) (by kernel_rfl) trivial rfl ?_
                  refine Ex.ret ?_
                  obtain rfl := Option.some.inj h
                  exact ⟨.inr rfl, .bool false, by kernel_rfl, by kernel_rfl, by kernel_rfl, by kernel_rfl⟩
                · refine Ex.condF _ rfl hc_37 ?_
                  refine Ex.skip ?_
                  refine regH 3 [] [4, 5, 9] [] (mkS 132 [(4, .ptr 1 0), (5, .sl (r_5.1.map (AV.int .i64)) none), (9, .int .i64 (IntKind.i64.wrap (i_21 + 1)))]) (⟨[(C_bk_Drum r_4.2), (C_api_Ledger r_4.1)], []⟩) (by kernel_rfl) trivial rfl ?_
                  dsimp only
                  exact ⟨_, _, Forgets.refl _ _ _, k, Nat.lt_succ_self k, (IntKind.i64.wrap (i_21 + 1)), h, rfl, rfl⟩
            · refine Ex.condF _ rfl hc_25 ?_
              refine Ex.exit ?_
              (try simp only [reduceCtorEq, AEx.ex.injEq, Nat.reduceEqDiff, if_true, if_false])
              exact ⟨_, _, forgetK [4, 5], h, rfl, rfl⟩
        · rintro a S ⟨h, rfl, rfl⟩
          subst hK_20
          refine Ex.seq ?_
          refine Ex.seq ?_
          refine regH 1 [] [4, 5, 10] [] (mkS 132 [(4, .ptr 1 0), (5, .sl (r_5.1.map (AV.int .i64)) none), (10, .int .i64 1)]) (⟨[(C_bk_Drum r_4.2), (C_api_Ledger r_4.1)], []⟩) (by kernel_rfl) trivial rfl ?_
          obtain ⟨K_39, hK_40, h⟩ := letE h
          refine Ex.blockJ (fun a S => K_39 () = some r ∧ a = mkS 132 [(4, .ptr 1 0), (5, .sl (r_5.1.map (AV.int .i64)) none)] ∧ S = ⟨[(C_bk_Drum r_4.2), (C_api_Ledger r_4.1)], []⟩) ?_ ?_
          · obtain ⟨B_43, hB_44, h⟩ := loop1I h
            refine Ex.loopF (fun k a S => ∃ (many_41 : Int), loop1 B_43 k many_41 = some r ∧ a = mkS 132 [(4, .ptr 1 0), (5, .sl (r_5.1.map (AV.int .i64)) none), (10, .int .i64 many_41)] ∧ S = ⟨[(C_bk_Drum r_4.2), (C_api_Ledger r_4.1)], []⟩) N ⟨_, _, Forgets.refl _ _ _, 1, h, rfl, rfl⟩ ?_
            rintro k a S ⟨many_41, h, rfl, rfl⟩
            cases k with
            | zero => exact (loop1Z h).elim
            | succ k =>
              replace h := loop1S h hB_44
              refine Ex.seq ?_
              refine Ex.seq ?_
              refine regH 4 [(2, .eq (.int .i64 ((r_5.1.length : Nat) : Int)))] [4, 5, 10, 93] [AV.int .i64 (((r_5.1.map (AV.int .i64)).length : Nat) : Int) = AV.int .i64 ((r_5.1.length : Nat) : Int)] (mkS 132 [(4, .ptr 1 0), (5, .sl (r_5.1.map (AV.int .i64)) none), (10, .int .i64 many_41), (93, .bool (decide (many_41 ≤ ((r_5.1.length : Nat) : Int))))]) (⟨[(C_bk_Drum r_4.2), (C_api_Ledger r_4.1)], []⟩) (by kernel_rfl) ⟨lenM _ _, trivial⟩ rfl ?_
              rcases condI h with ⟨hc_45, h⟩ | ⟨hc_45, h⟩
              · refine Ex.condT _ rfl hc_45 ?_
                refine Ex.skip ?_
                refine Ex.seq ?_
                refine Ex.blockK ?_
                refine Ex.seq ?_
                obtain ⟨r_46, hr_46, h⟩ := Option.bind_eq_some_iff.1 h
                refine Ex.reg ?_
                refine runH 4 [(2, .eq (.int .i64 ((r_4.1.Bills.length : Nat) : Int)))] [4, 5, 10, 98, 99] [AV.int .i64 (((r_4.1.Bills.map A_api_Bill).length : Nat) : Int) = AV.int .i64 ((r_4.1.Bills.length : Nat) : Int)] (mkS 132 [(4, .ptr 1 0), (5, .sl (r_5.1.map (AV.int .i64)) none), (10, .int .i64 many_41), (98, .int .i64 ((r_4.1.Bills.length : Nat) : Int)), (99, .int .i64 many_41)]) (⟨[(C_bk_Drum r_4.2), (C_api_Ledger r_4.1)], []⟩) (by kernel_rfl) ⟨lenM _ _, trivial⟩ ?_
                refine ExO.callL [] [.int .i64 0, .int .i64 ((r_4.1.Bills.length : Nat) : Int), .int .i64 many_41] rfl rfl (a_br9_Sets 0 ((r_4.1.Bills.length : Nat) : Int) many_41) rfl rfl (d_br9_Sets N 0 ((r_4.1.Bills.length : Nat) : Int) many_41 r_46 hr_46) (b_br9_Sets _ _ _ _) rfl ?_
                refine runH 1 [] [4, 5, 10, 11] [] (mkS 132 [(4, .ptr 1 0), (5, .sl (r_5.1.map (AV.int .i64)) none), (10, .int .i64 many_41), (11, .sl (r_46.map (SV (AV.int .i64))) none)]) (⟨[(C_bk_Drum r_4.2), (C_api_Ledger r_4.1)], []⟩) (by kernel_rfl) trivial ?_
                refine ExO.nil ?_
                refine Ex.seq ?_
                refine regH 1 [] [4, 5, 10, 11, 12] [] (mkS 132 [(4, .ptr 1 0), (5, .sl (r_5.1.map (AV.int .i64)) none), (10, .int .i64 many_41), (11, .sl (r_46.map (SV (AV.int .i64))) none), (12, .int .i64 0)]) (⟨[(C_bk_Drum r_4.2), (C_api_Ledger r_4.1)], []⟩) (by kernel_rfl) trivial rfl ?_
                obtain ⟨K_48, hK_49, h⟩ := letE h
                refine Ex.blockJ (fun a S => K_48 () = some r ∧ a = mkS 132 [(4, .ptr 1 0), (5, .sl (r_5.1.map (AV.int .i64)) none), (10, .int .i64 many_41)] ∧ S = ⟨[(C_bk_Drum r_4.2), (C_api_Ledger r_4.1)], []⟩) ?_ ?_
                · obtain ⟨B_52, hB_53, h⟩ := loop1I h
                  refine Ex.loopF (fun k a S => ∃ (i_50 : Int), loop1 B_52 k i_50 = some r ∧ a = mkS 132 [(4, .ptr 1 0), (5, .sl (r_5.1.map (AV.int .i64)) none), (10, .int .i64 many_41), (11, .sl (r_46.map (SV (AV.int .i64))) none), (12, .int .i64 i_50)] ∧ S = ⟨[(C_bk_Drum r_4.2), (C_api_Ledger r_4.1)], []⟩) N ⟨_, _, Forgets.refl _ _ _, 0, h, rfl, rfl⟩ ?_
                  rintro k a S ⟨i_50, h, rfl, rfl⟩
                  cases k with
                  | zero => exact (loop1Z h).elim
                  | succ k =>
                    replace h := loop1S h hB_53
                    refine Ex.seq ?_
                    obtain ⟨K_56, hK_57, h⟩ := letE h
                    refine Ex.seqJ (fun a S => ∃ (y_54 : Bool), K_56 y_54 = some r ∧ a = mkS 132 [(4, .ptr 1 0), (5, .sl (r_5.1.map (AV.int .i64)) none), (10, .int .i64 many_41), (11, .sl (r_46.map (SV (AV.int .i64))) none), (12, .int .i64 i_50), (113, .bool y_54)] ∧ S = ⟨[(C_bk_Drum r_4.2), (C_api_Ledger r_4.1)], []⟩) ?_ ?_
                    · rcases condI h with ⟨hc_58, h⟩ | ⟨hc_58, h⟩
                      · obtain ⟨x_59, hx_59, h⟩ := Option.bind_eq_some_iff.1 h
                        obtain ⟨r_60, hr_60, h⟩ := Option.bind_eq_some_iff.1 h
                        refine Ex.reg ?_
                        refine runH 10 [(2, .eq (.int .i64 ((r_46.length : Nat) : Int))), (4, .eq (.bool true)), (7, .rop [.sl (x_59.map (AV.int .i64)) none])] [4, 5, 10, 11, 12, 105, 109, 110] [AV.int .i64 (((r_46.map (SV (AV.int .i64))).length : Nat) : Int) = AV.int .i64 ((r_46.length : Nat) : Int), AV.bool (decide (i_50 < ((r_46.length : Nat) : Int))) = AV.bool true, LGet (r_46.map (SV (AV.int .i64))) i_50 1 [.sl (x_59.map (AV.int .i64)) none]] (mkS 132 [(4, .ptr 1 0), (5, .sl (r_5.1.map (AV.int .i64)) none), (10, .int .i64 many_41), (11, .sl (r_46.map (SV (AV.int .i64))) none), (12, .int .i64 i_50), (105, .bool true), (109, .sl (x_59.map (AV.int .i64)) none), (110, .sl (r_5.1.map (AV.int .i64)) none)]) (⟨[(C_bk_Drum r_4.2), (C_api_Ledger r_4.1)], []⟩) (by kernel_rfl) ⟨lenM _ _, congrArg AV.bool hc_58, LGet.of hx_59 rfl, trivial⟩ ?_
                        refine ExO.callL [] [.sl (x_59.map (AV.int .i64)) none, .sl (r_5.1.map (AV.int .i64)) none] rfl rfl (a_bk_EqInts x_59 r_5.1) rfl rfl (d_bk_EqInts N x_59 r_5.1 r_60 hr_60) (b_bk_EqInts _ _ _ _) rfl ?_
                        refine runH 2 [] [4, 5, 10, 11, 12, 113] [] (mkS 132 [(4, .ptr 1 0), (5, .sl (r_5.1.map (AV.int .i64)) none), (10, .int .i64 many_41), (11, .sl (r_46.map (SV (AV.int .i64))) none), (12, .int .i64 i_50), (113, .bool (!r_60))]) (⟨[(C_bk_Drum r_4.2), (C_api_Ledger r_4.1)], []⟩) (by kernel_rfl) trivial ?_
                        refine ExO.nil ?_
                        (try simp only [reduceCtorEq, AEx.ex.injEq, Nat.reduceEqDiff, if_true, if_false])
                        exact ⟨_, _, Forgets.refl _ _ _, (!r_60), h, rfl, rfl⟩
                      · refine regH 13 [(2, .eq (.int .i64 ((r_46.length : Nat) : Int))), (4, .eq (.bool false))] [4, 5, 10, 11, 12, 113] [AV.int .i64 (((r_46.map (SV (AV.int .i64))).length : Nat) : Int) = AV.int .i64 ((r_46.length : Nat) : Int), AV.bool (decide (i_50 < ((r_46.length : Nat) : Int))) = AV.bool false] (mkS 132 [(4, .ptr 1 0), (5, .sl (r_5.1.map (AV.int .i64)) none), (10, .int .i64 many_41), (11, .sl (r_46.map (SV (AV.int .i64))) none), (12, .int .i64 i_50), (113, .bool false)]) (⟨[(C_bk_Drum r_4.2), (C_api_Ledger r_4.1)], []⟩) (by kernel_rfl) ⟨lenM _ _, congrArg AV.bool hc_58, trivial⟩ rfl ?_
                        (try simp only [reduceCtorEq, AEx.ex.injEq, Nat.reduceEqDiff, if_true, if_false])
                        exact ⟨_, _, Forgets.refl _ _ _, false, h, rfl, rfl⟩
                    · rintro a S ⟨y_54, h, rfl, rfl⟩
                      subst hK_57
                      rcases condI h with ⟨hc_61, h⟩ | ⟨hc_61, h⟩
                      · refine Ex.condT _ rfl hc_61 ?_
                        refine Ex.skip ?_
                        refine Ex.seq ?_
                        refine Ex.blockK ?_
                        refine Ex.seq ?_
                        obtain ⟨x_62, hx_62, h⟩ := Option.bind_eq_some_iff.1 h
                        obtain ⟨r_63, hr_63, h⟩ := Option.bind_eq_some_iff.1 h
                        have hT_64 : DoesA Try.prog [⟨41, [.sl (x_62.map (AV.int .i64)) none], [], (v_br9_Bits r_63), []⟩] ∧ ConsA [⟨41, [.sl (x_62.map (AV.int .i64)) none], [], (v_br9_Bits r_63), []⟩] := ⟨⟨(d_br9_Bits N x_62 r_63 hr_63), rfl, trivial⟩, ⟨trivial, trivial⟩⟩
                        refine Ex.drawE (a1 := mkS 132 [(4, .ptr 1 0), (5, .sl (r_5.1.map (AV.int .i64)) none), (10, .int .i64 many_41), (11, .sl (r_46.map (SV (AV.int .i64))) none), (12, .int .i64 i_50), (113, .bool y_54), (116, (A_api_Ledger r_4.1)), (117, .sl (r_46.map (SV (AV.int .i64))) none), (118, .int .i64 i_50), (119, .rop [.sl (x_62.map (AV.int .i64)) none]), (120, .sl (x_62.map (AV.int .i64)) none), (121, .int .i64 r_63)]) (tabO_ok hT_64.1) [] [] [] ?_ ?_
                        · refine drS [0, 1] 5 [(3, .rop [.sl (x_62.map (AV.int .i64)) none])] [LGet (r_46.map (SV (AV.int .i64))) i_50 1 [.sl (x_62.map (AV.int .i64)) none]] (mkS 132 [(4, .ptr 1 0), (5, .sl (r_5.1.map (AV.int .i64)) none), (10, .int .i64 many_41), (11, .sl (r_46.map (SV (AV.int .i64))) none), (12, .int .i64 i_50), (113, .bool y_54), (116, (A_api_Ledger r_4.1)), (117, .sl (r_46.map (SV (AV.int .i64))) none), (118, .int .i64 i_50), (119, .rop [.sl (x_62.map (AV.int .i64)) none]), (120, .sl (x_62.map (AV.int .i64)) none)]) (by simp) (by kernel_rfl) ⟨LGet.of hx_62 rfl, trivial⟩ (by kernel_rfl) ?_
                          refine drC hT_64.2 0 _ [.sl (x_62.map (AV.int .i64)) none] (v_br9_Bits r_63) rfl rfl rfl rfl rfl (fun _ => rfl) rfl (by simp; try rfl) (fun _ => b_br9_Bits _ _ _ _) ?_
                          exact DrO.nil rfl
                        · dsimp only [List.getLastD_cons, List.getLastD_nil]
                          obtain ⟨r_65, hr_65, h⟩ := Option.bind_eq_some_iff.1 h
                          refine ExO.callL [] [(A_api_Ledger r_4.1), .int .i64 r_63] rfl rfl (a_br9_Slack r_4.1 r_63) rfl rfl (d_br9_Slack N r_4.1 r_63 r_65 hr_65) (b_br9_Slack _ _ _ _) rfl ?_
                          refine runH 1 [] [4, 5, 10, 11, 12, 123] [] (mkS 132 [(4, .ptr 1 0), (5, .sl (r_5.1.map (AV.int .i64)) none), (10, .int .i64 many_41), (11, .sl (r_46.map (SV (AV.int .i64))) none), (12, .int .i64 i_50), (123, .bool (decide (r_65 < 0)))]) (⟨[(C_bk_Drum r_4.2), (C_api_Ledger r_4.1)], []⟩) (by kernel_rfl) trivial ?_
                          refine ExO.nil ?_
                          rcases condI h with ⟨hc_66, h⟩ | ⟨hc_66, h⟩
                          · refine Ex.condT _ rfl hc_66 ?_
                            refine Ex.seq ?_
                            refine regH 1 [] [2] [] (mkS 132 [(2, .bool false)]) (⟨[(C_bk_Drum r_4.2), (C_api_Ledger r_4.1)], []⟩) (by kernel_rfl) trivial rfl ?_
                            refine Ex.ret ?_
                            obtain rfl := Option.some.inj h
                            exact ⟨.inr rfl, .bool false, by kernel_rfl, by kernel_rfl, by kernel_rfl, by kernel_rfl⟩
                          · refine Ex.condF _ rfl hc_66 ?_
                            refine Ex.skip ?_
                            refine regH 3 [] [4, 5, 10, 11, 12] [] (mkS 132 [(4, .ptr 1 0), (5, .sl (r_5.1.map (AV.int .i64)) none), (10, .int .i64 many_41), (11, .sl (r_46.map (SV (AV.int .i64))) none), (12, .int .i64 (IntKind.i64.wrap (i_50 + 1)))]) (⟨[(C_bk_Drum r_4.2), (C_api_Ledger r_4.1)], []⟩) (by kernel_rfl) trivial rfl ?_
                            dsimp only
                            exact ⟨_, _, Forgets.refl _ _ _, k, Nat.lt_succ_self k, (IntKind.i64.wrap (i_50 + 1)), h, rfl, rfl⟩
                      · refine Ex.condF _ rfl hc_61 ?_
                        refine Ex.exit ?_
                        (try simp only [reduceCtorEq, AEx.ex.injEq, Nat.reduceEqDiff, if_true, if_false])
                        exact ⟨_, _, forgetK [4, 5, 10], h, rfl, rfl⟩
                · rintro a S ⟨h, rfl, rfl⟩
                  subst hK_49
                  refine regH 3 [] [4, 5, 10] [] (mkS 132 [(4, .ptr 1 0), (5, .sl (r_5.1.map (AV.int .i64)) none), (10, .int .i64 (IntKind.i64.wrap (many_41 + 1)))]) (⟨[(C_bk_Drum r_4.2), (C_api_Ledger r_4.1)], []⟩) (by kernel_rfl) trivial rfl ?_
                  dsimp only
                  exact ⟨_, _, Forgets.refl _ _ _, k, Nat.lt_succ_self k, (IntKind.i64.wrap (many_41 + 1)), h, rfl, rfl⟩
              · refine Ex.condF _ rfl hc_45 ?_
                refine Ex.exit ?_
                (try simp only [reduceCtorEq, AEx.ex.injEq, Nat.reduceEqDiff, if_true, if_false])
                exact ⟨_, _, forgetK [4, 5], h, rfl, rfl⟩
          · rintro a S ⟨h, rfl, rfl⟩
            subst hK_40
            refine Ex.seq ?_
            obtain ⟨r_67, hr_67, h⟩ := Option.bind_eq_some_iff.1 h
            have hT_68 : DoesA Try.prog [⟨41, [.sl (r_5.1.map (AV.int .i64)) none], [], (v_br9_Bits r_67), []⟩] ∧ ConsA [⟨41, [.sl (r_5.1.map (AV.int .i64)) none], [], (v_br9_Bits r_67), []⟩] := ⟨⟨(d_br9_Bits N r_5.1 r_67 hr_67), rfl, trivial⟩, ⟨trivial, trivial⟩⟩
            refine Ex.drawE (a1 := mkS 132 [(4, .ptr 1 0), (5, .sl (r_5.1.map (AV.int .i64)) none), (124, (A_api_Ledger r_4.1)), (125, .sl (r_5.1.map (AV.int .i64)) none), (126, .int .i64 r_67)]) (tabO_ok hT_68.1) [] [] [] ?_ ?_
            · refine drS [0, 1] 2 [] [] (mkS 132 [(4, .ptr 1 0), (5, .sl (r_5.1.map (AV.int .i64)) none), (124, (A_api_Ledger r_4.1)), (125, .sl (r_5.1.map (AV.int .i64)) none)]) (by simp) (by kernel_rfl) trivial (by kernel_rfl) ?_
              refine drC hT_68.2 0 _ [.sl (r_5.1.map (AV.int .i64)) none] (v_br9_Bits r_67) rfl rfl rfl rfl rfl (fun _ => rfl) rfl (by simp; try rfl) (fun _ => b_br9_Bits _ _ _ _) ?_
              exact DrO.nil rfl
            · dsimp only [List.getLastD_cons, List.getLastD_nil]
              obtain ⟨r_69, hr_69, h⟩ := Option.bind_eq_some_iff.1 h
              refine ExO.callL [] [(A_api_Ledger r_4.1), .int .i64 r_67] rfl rfl (a_br9_Slack r_4.1 r_67) rfl rfl (d_br9_Slack N r_4.1 r_67 r_69 hr_69) (b_br9_Slack _ _ _ _) rfl ?_
              rcases condI h with ⟨hc_70, h⟩ | ⟨hc_70, h⟩
              · obtain ⟨r_71, hr_71, h⟩ := Option.bind_eq_some_iff.1 h
                refine runH 2 [(1, .eq (.bool true))] [129] [AV.bool (decide (r_69 < 0)) = AV.bool true] (mkS 132 [(129, .bool true)]) (⟨[(C_bk_Drum r_4.2), (C_api_Ledger r_4.1)], []⟩) (by kernel_rfl) ⟨congrArg AV.bool hc_70, trivial⟩ ?_
                refine ExO.callL [] [] rfl rfl (a_bl9_awake) rfl rfl (d_bl9_awake N r_71 hr_71) (b_bl9_awake _ _ _ _) rfl ?_
                refine runH 2 [] [2] [] (mkS 132 [(2, .bool r_71)]) (⟨[(C_bk_Drum r_4.2), (C_api_Ledger r_4.1)], []⟩) (by kernel_rfl) trivial ?_
                refine ExO.nil ?_
                refine Ex.ret ?_
                obtain rfl := Option.some.inj h
                exact ⟨.inr rfl, .bool r_71, by kernel_rfl, by kernel_rfl, by kernel_rfl, by kernel_rfl⟩
              · refine runH 5 [(1, .eq (.bool false))] [2] [AV.bool (decide (r_69 < 0)) = AV.bool false] (mkS 132 [(2, .bool false)]) (⟨[(C_bk_Drum r_4.2), (C_api_Ledger r_4.1)], []⟩) (by kernel_rfl) ⟨congrArg AV.bool hc_70, trivial⟩ ?_
                refine ExO.nil ?_
                refine Ex.ret ?_
                obtain rfl := Option.some.inj h
                exact ⟨.inr rfl, .bool false, by kernel_rfl, by kernel_rfl, by kernel_rfl, by kernel_rfl⟩
end Go.Proofs.Ytkpihepaaiofgaa
end
section
namespace Go.Proofs.Ytkpihepaaiofgaa
open Go.RowKit
set_option linter.unusedVariables false
set_option linter.unusedSimpArgs false
set_option maxRecDepth 10000
set_option maxHeartbeats 4000000

def setsS : Nat → Nat → Nat → List (List Nat)
  | 0, a, n => [[]]
  | k + 1, a, n => (List.range' a (n - a)).flatMap fun i => (setsS k (i + 1) n).map (i :: ·)
theorem setsS_succ (k a n : Nat) (h : a < n) : setsS (k + 1) a n = (setsS k (a + 1) n).map (a :: ·) ++ setsS (k + 1) (a + 1) n := by
  rw [setsS, setsS, show n - a = (n - (a + 1)) + 1 by omega, List.range'_succ, List.flatMap_cons]
theorem setsS_end (k a n : Nat) (h : n ≤ a) : setsS (k + 1) a n = [] := by
  rw [setsS, show n - a = 0 by omega]
  rfl
theorem setsS_mem (n : Nat) : ∀ (k a : Nat) (l : List Nat), l ∈ setsS k a n ↔ l.length = k ∧ l.Pairwise (· < ·) ∧ ∀ t ∈ l, a ≤ t ∧ t < n
  | 0, a, l => by
    simp only [setsS, List.mem_singleton]
    constructor
    · rintro rfl; simp
    · rintro ⟨h, _⟩; exact List.length_eq_zero_iff.1 h
  | k + 1, a, l => by
    simp only [setsS, List.mem_flatMap, List.mem_range'_1, List.mem_map]
    constructor
    · rintro ⟨i, hi, r, hr, rfl⟩
      obtain ⟨h1, h2, h3⟩ := (setsS_mem n k (i + 1) r).1 hr
      refine ⟨by simp [h1], List.pairwise_cons.2 ⟨fun t ht => (h3 t ht).1, h2⟩, fun t ht => ?_⟩
      rcases List.mem_cons.1 ht with ht | ht
      · subst ht; omega
      · have := h3 t ht; omega
    · rintro ⟨h1, h2, h3⟩
      match l, h1, h2, h3 with
      | i :: r, h1, h2, h3 =>
        obtain ⟨p1, p2⟩ := List.pairwise_cons.1 h2
        have := h3 i (by simp)
        exact ⟨i, by omega, r, (setsS_mem n k (i + 1) r).2 ⟨by simpa using h1, p2, fun t ht => ⟨p1 t ht, (h3 t (by simp [ht])).2⟩⟩, rfl⟩
theorem setsS_none (k a n : Nat) (h : n < a + (k + 1)) : setsS (k + 1) a n = [] := by
  apply List.eq_nil_iff_forall_not_mem.2
  intro l hl
  obtain ⟨h1, h2, h3⟩ := (setsS_mem n (k + 1) a l).1 hl
  rcases asc_len l a n h2 h3 with q | q
  · omega
  · subst q; simp at h1
theorem setsS_len (n : Nat) : ∀ (d k a : Nat), n - a = d → (setsS k a n).length ≤ 2 ^ d
  | d, 0, a, h => by
    simp only [setsS, List.length_singleton]
    exact Nat.one_le_two_pow
  | 0, k + 1, a, h => by rw [setsS_end k a n (by omega)]; simp
  | d + 1, k + 1, a, h => by
    rw [setsS_succ k a n (by omega), List.length_append, List.length_map, Nat.pow_succ]
    have := setsS_len n d k (a + 1) (by omega)
    have := setsS_len n d (k + 1) (a + 1) (by omega)
    omega
def up (l : List Nat) : List Int := l.map fun (t : Nat) => (t : Int)
theorem sets_p : ∀ (k M a n : Nat), 1000 + k < M → k ≤ 8 → a ≤ 9 → n ≤ 8 → p_br9_Sets M (a : Int) (n : Int) (k : Int) = some ((setsS k a n).map up)
  | k, 0, a, n, h, _, _, _ => absurd h (Nat.not_lt_zero _)
  | 0, M + 1, a, n, h, _, _, _ => rfl
  | k + 1, M + 1, a, n, h, hk, ha, hn => by
    have IH := fun a' h1 => sets_p k M a' n (by omega) (by omega) h1 hn
    rw [p_br9_Sets]
    simp only [show ((((k + 1 : Nat) : Int) == 0) = false) by simp; omega, cond_false, letJ_eq]
    refine loop2_T (fun x => x = some ((setsS (k + 1) a n).map up)) (fun out i => ∃ j : Nat, i = (j : Int) ∧ j ≤ 9 ∧ a ≤ j ∧ out ++ (setsS (k + 1) j n).map up = (setsS (k + 1) a n).map up) (fun out i => 10 - i.toNat) ?_ M [] (a : Int) ⟨a, rfl, ha, Nat.le_refl _, rfl⟩ (by omega)
    rintro rec out i ⟨j, rfl, j9, ja, hout⟩ ih
    have hlen := setsS_len n (n - a) (k + 1) a rfl
    have hpow : 2 ^ (n - a) ≤ 2 ^ 8 := Nat.pow_le_pow_right (by omega) (by omega)
    have hol : out.length + ((setsS (k + 1) j n).map up).length = (setsS (k + 1) a n).length := by rw [← List.length_append, hout, List.length_map]
    by_cases hlt : j < n
    · rw [ltD hlt, cond_true, nadd1 j (by omega), w64 (x := ((k + 1 : Nat) : Int) - 1) (by omega) (by omega), show ((k + 1 : Nat) : Int) - 1 = (k : Int) by omega, IH (j + 1) (by omega), Option.bind_some]
      rw [setsS_succ k j n hlt] at hol hout
      simp only [List.map_append, List.length_append, List.length_map] at hol
      refine invZ' ((setsS k (j + 1) n).map up) (fun x => x = some ((setsS (k + 1) a n).map up)) (fun m b => b = out ++ (((setsS k (j + 1) n).take m).map fun l => up (j :: l))) (by rw [List.length_map]; omega) (by simp) (fun rec2 b hb => ?_) (fun rec2 m x b hx hm hb ih2 => ?_)
      · simp only [ltE, cond_false]
        refine ih _ _ ⟨j + 1, rfl, by omega, by omega, ?_⟩ (by omega)
        rw [hb, List.length_map, List.take_length, ← hout, List.map_append, List.map_map, List.append_assoc]
        rfl
      · have hm2 : m < (setsS k (j + 1) n).length := by simpa using hm
        have hx2 : (setsS k (j + 1) n)[m]? = some (setsS k (j + 1) n)[m] := List.getElem?_eq_getElem hm2
        have hxe : x = up (setsS k (j + 1) n)[m] := by
          rw [List.getElem?_map, hx2] at hx
          injection hx with hx
          exact hx.symm
        have hxl : x.length = k := by
          rw [hxe]
          unfold up
          rw [List.length_map]
          exact ((setsS_mem n k (j + 1) _).1 (List.getElem_mem hm2)).1
        have hbl : b.length ≤ out.length + m := by
          rw [hb, List.length_append, List.length_map, List.length_take]
          omega
        simp only [ltD hm, cond_true, getD_at hx, Option.bind_some, nadd1 m (by omega)]
        rw [pushI_ok (by simp; omega), Option.bind_some, pushI_ok (by simp; omega), Option.bind_some]
        refine ih2 _ ?_
        rw [hb, List.take_add_one, hx2, List.map_append, List.append_assoc, hxe]
        rfl
    · rw [show decide ((j : Int) < ((n : Nat) : Int)) = false from decide_eq_false (by omega), cond_false]
      rw [setsS_end k j n (by omega)] at hout
      rw [← hout]
      simp

theorem canRef_p (N : Nat) (hN : 1000 < N) (c : Int) (F : T_api_Fund) (B : T_api_Bill) (hF : GoodFund c F) : p_br9_Can N F B = some (can F B) := by
  obtain ⟨h1, h2, h3, h4, h5, h6, h7, _⟩ := hF
  unfold p_br9_Can
  simp only [letJ_eq]
  refine invZ' F.Uses (fun x => x = some (can F B)) (fun i b => b = decide (B.Use ∈ F.Uses.take i)) (by omega) (by simp) (fun rec b hb => ?_) (fun rec i x b hx hi hb ih => ?_)
  · simp only [ltE, cond_false]
    rw [List.take_length] at hb
    unfold can p_br9_within
    by_cases hu : B.Use ∈ F.Uses
    · rw [hb, decide_eq_true hu, cond_true]
      by_cases c1 : B.Day ≥ F.Day
      · rw [decide_eq_true c1, cond_true, Option.bind_some]
        congr 1
        apply decide_eq_decide.2
        exact ⟨fun q => ⟨c1, q, hu⟩, fun q => q.2.1⟩
      · rw [decide_eq_false c1, cond_false, Option.bind_some, decide_eq_false (fun q => c1 q.1)]
    · rw [hb, decide_eq_false hu, cond_false, decide_eq_false (fun q => hu q.2.2)]
  · simp only [ltD hi, cond_true, getD_at hx, Option.bind_some, nadd1 i (by omega)]
    have ht : F.Uses.take (i + 1) = F.Uses.take i ++ [x] := by rw [List.take_add_one, hx]; rfl
    cases b with
    | true =>
      rw [cond_true]
      refine ih _ ?_
      have : B.Use ∈ F.Uses.take i := by simpa using hb
      rw [ht, decide_eq_true (List.mem_append_left _ this)]
    | false =>
      rw [cond_false]
      refine ih _ ?_
      have : B.Use ∉ F.Uses.take i := by simpa using hb
      rw [ht]
      by_cases hq : x = B.Use
      · subst hq; simp
      · have : (x == B.Use) = false := by simpa using hq
        rw [this]
        symm
        apply decide_eq_false
        intro hm
        rcases List.mem_append.1 hm with hm | hm
        · contradiction
        · exact hq (List.mem_singleton.1 hm).symm
theorem bit_all : (List.range 256).all (fun s => (List.range 8).all fun n => decide ((IntKind.i64.wrap (((BitVec.ofInt (IntKind.bits .i64) (Int.fdiv (s : Int) ((2 : Int) ^ (min (Int.toNat (n : Int)) (IntKind.bits .i64)))) &&& BitVec.ofInt (IntKind.bits .i64) 1).toNat : Nat) : Int) == 1) = s.testBit n)) = true := by kernel_rfl
theorem bit_p (s n : Nat) (hs : s < 256) (hn : n < 8) : (IntKind.i64.wrap (((BitVec.ofInt (IntKind.bits .i64) (Int.fdiv (s : Int) ((2 : Int) ^ (min (Int.toNat (n : Int)) (IntKind.bits .i64)))) &&& BitVec.ofInt (IntKind.bits .i64) 1).toNat : Nat) : Int) == 1) = s.testBit n := by
  have h1 := List.all_eq_true.1 (List.all_eq_true.1 bit_all s (by simpa using hs)) n (by simpa using hn)
  simpa only [decide_eq_true_eq] using h1
theorem plus_all : (List.range 256).all (fun s => (List.range 8).all fun n => s.testBit n || decide (s + 2 ^ n = s ||| 2 ^ n)) = true := by kernel_rfl
theorem plus_p (s n : Nat) (hs : s < 256) (hn : n < 8) (h : s.testBit n = false) : s + 2 ^ n = s ||| 2 ^ n := by
  have h1 := List.all_eq_true.1 (List.all_eq_true.1 plus_all s (by simpa using hs)) n (by simpa using hn)
  rw [h, Bool.false_or, decide_eq_true_eq] at h1
  exact h1
theorem pow64_all : (List.range 8).all (fun n => decide (IntKind.i64.wrap (1 * ((2 : Int) ^ (min (Int.toNat (n : Int)) (IntKind.bits .i64)))) = ((2 ^ n : Nat) : Int))) = true := by kernel_rfl
theorem nnI_n (n : Nat) : nnI (n : Int) = some () := by unfold nnI; rw [if_neg (by omega)]
theorem plusW (z q : Nat) (hz : z < 256) (hq : q < 256) : IntKind.i64.wrap ((z : Int) + (q : Int)) = ((z + q : Nat) : Int) := by
  rw [w64 (by omega) (by omega)]
  omega
theorem bitsOf_p (N : Nat) (hN : 1000 < N) (l : List Nat) (h1 : l.Pairwise (· < ·)) (h2 : ∀ t ∈ l, t < 8) (h3 : l.length ≤ 8) : p_br9_Bits N (up l) = some ((addAll 0 l : Nat) : Int) := by
  unfold p_br9_Bits
  simp only [letJ_eq]
  have hul : (up l).length = l.length := by simp [up]
  refine invZ' (up l) (fun x => x = some ((addAll 0 l : Nat) : Int)) (fun i b => b = ((addAll 0 (l.take i) : Nat) : Int)) (by omega) (by simp [addAll]) (fun rec b hb => ?_) (fun rec i x b hx hi hb ih => ?_)
  · simp only [ltE, cond_false]
    rw [hb, hul, List.take_length]
  · have hi2 : i < l.length := by omega
    have hl : l[i]? = some l[i] := List.getElem?_eq_getElem hi2
    have hxe : x = (l[i] : Int) := by
      unfold up at hx
      rw [List.getElem?_map, hl] at hx
      injection hx with hx
      exact hx.symm
    have ht := h2 _ (List.getElem_mem hi2)
    have hlt : addAll 0 (l.take i) < 256 := addAll_lt _ _ (by omega) fun t ht => h2 t (List.mem_of_mem_take ht)
    have hnb : (addAll 0 (l.take i)).testBit l[i] = false := by
      rw [addAll_bit]
      simp only [Nat.zero_testBit, Bool.false_or, decide_eq_false_iff_not]
      intro hm
      obtain ⟨j, hj, e⟩ := List.getElem_of_mem hm
      rw [List.getElem_take] at e
      have hj2 : j < i := by rw [List.length_take] at hj; omega
      have := (List.pairwise_iff_getElem.1 h1) j i (by omega) hi2 hj2
      omega
    have hp := List.all_eq_true.1 pow64_all l[i] (by simpa using ht)
    simp only [decide_eq_true_eq] at hp
    have hor := add_lt hlt ht
    simp only [ltD hi, cond_true, getD_at hx, Option.bind_some, nadd1 i (by omega)]
    rw [hxe, nnI_n, Option.bind_some, hp, hb, plusW _ _ hlt (pow_lt8 ht)]
    refine ih _ ?_
    rw [List.take_add_one, hl]
    have e : addAll 0 (l.take i ++ (some l[i]).toList) = addAll 0 (l.take i) ||| 2 ^ l[i] := by
      unfold addAll
      rw [List.foldl_append]
      rfl
    rw [e, ← plus_p _ _ hlt ht hnb]
theorem pays_r (N : Nat) (hN : 1000 < N) (nf nb : Nat) (c : Int) (hnf : nf ≤ 8) (hnb : nb ≤ 8) (L : T_api_Ledger) (h : GoodL nf nb c L) (cs : List T_coin_claim) (hcs : GoodC L cs) (s : Nat) (hs : s < 256) (f : Nat) (F : T_api_Fund) (hF : L.Funds[f]? = some F) : p_br9_Pays N L (f : Int) (s : Int) = some ((orAll cs (bits s)).testBit f) := by
  have g1 := h.nf; have g2 := h.nb
  have hgF := h.fund F (List.mem_of_getElem? hF)
  unfold p_br9_Pays
  simp only [letJ_eq]
  have hx : ∀ (t : Nat) (B : T_api_Bill), L.Bills[t]? = some B → ((pay cs t).testBit f = true ↔ can F B = true) := fun t B hB => by
    obtain ⟨x, e, _, q, x1, x2, x3⟩ := hcs.2 t B hB
    have : pay cs t = q := by unfold pay; rw [e]; simp [x1]
    rw [this, x3 f]
    constructor
    · rintro ⟨F', e1, e2⟩
      rw [hF] at e1
      injection e1 with e1
      rw [e1]
      exact e2
    · intro q
      exact ⟨F, hF, q⟩
  refine loop1_T (fun x => x = some ((orAll cs (bits s)).testBit f)) (fun i => ∃ j : Nat, i = (j : Int) ∧ j ≤ L.Bills.length ∧ ∀ t, t < j → s.testBit t = true → (pay cs t).testBit f = false) (fun i => 100 - i.toNat) ?_ N 0 ⟨0, rfl, by omega, fun t ht => by omega⟩ (by omega)
  rintro rec i ⟨j, rfl, hj, hno⟩ ih
  by_cases hlt : j < L.Bills.length
  · have hB : L.Bills[j]? = some L.Bills[j] := List.getElem?_eq_getElem hlt
    have hgo := fun q => ih ((j + 1 : Nat) : Int) ⟨j + 1, rfl, by omega, q⟩ (by omega)
    simp only [ltD hlt, cond_true, nnI_n, Option.bind_some, bit_p s j hs (by omega), getD_at hF, getD_at hB, canRef_p N hN c F _ hgF, nadd1 j (by omega)]
    cases hb : s.testBit j with
    | true =>
      rw [cond_true]
      cases hc : can F L.Bills[j] with
      | true =>
        rw [cond_true]
        congr 1
        symm
        exact (orAll_bit cs _ 0 f).2 (.inr ⟨j, mem_bits.2 ⟨by omega, hb⟩, (hx j _ hB).2 hc⟩)
      | false =>
        rw [cond_false]
        refine hgo fun t ht hst => ?_
        by_cases htj : t = j
        · subst htj
          cases hq : (pay cs t).testBit f with
          | false => rfl
          | true => rw [(hx t _ hB).1 hq] at hc; cases hc
        · exact hno t (by omega) hst
    | false =>
      rw [cond_false, cond_false]
      refine hgo fun t ht hst => ?_
      by_cases htj : t = j
      · subst htj
        rw [hb] at hst
        cases hst
      · exact hno t (by omega) hst
  · rw [show decide ((j : Int) < ((L.Bills.length : Nat) : Int)) = false from decide_eq_false (by omega), cond_false]
    congr 1
    symm
    cases hq : (orAll cs (bits s)).testBit f with
    | false => rfl
    | true =>
      rcases (orAll_bit cs _ 0 f).1 hq with hb | ⟨t, ht, hb⟩
      · simp at hb
      · obtain ⟨t1, t2⟩ := mem_bits.1 ht
        by_cases htl : t < L.Bills.length
        · rw [hno t (by omega) t2] at hb
          cases hb
        · have : cs[t]? = none := List.getElem?_eq_none (by rw [hcs.1]; omega)
          unfold pay at hb
          rw [this] at hb
          simp at hb
theorem sum_range_ext (g : Nat → Int) (a : Nat) (hz : ∀ j, a ≤ j → g j = 0) : ∀ b, a ≤ b → ((List.range b).map g).sum = ((List.range a).map g).sum
  | 0, h => by
    have : a = 0 := by omega
    subst this; rfl
  | b + 1, h => by
    by_cases he : a = b + 1
    · rw [he]
    · rw [List.range_succ, List.map_append, List.sum_append, sum_range_ext g a hz b (by omega)]
      simp [hz b (by omega)]
theorem sum_succ (g : Nat → Int) (i : Nat) : ((List.range (i + 1)).map g).sum = ((List.range i).map g).sum + g i := by
  rw [List.range_succ, List.map_append, List.sum_append]
  simp
theorem slack_p (N : Nat) (hN : 1000 < N) (nf nb : Nat) (c : Int) (hnf : nf ≤ 8) (hnb : nb ≤ 8) (hc0 : 0 ≤ c) (hc : c ≤ 1000000) (L : T_api_Ledger) (h : GoodL nf nb c L) (cs : List T_coin_claim) (hcs : GoodC L cs) (p : T_V8_i64) (hp : ∀ f : Nat, f < 8 → p.l[f]? = some ((L.Funds[f]?.map (·.Amount)).getD 0)) (s : Nat) (hs : s < 256) (hb : ∀ t ∈ bits s, t < cs.length) : p_br9_Slack N L (s : Int) = some (-(lackV cs s p)) := by
  have g1 := h.nf; have g2 := h.nb
  obtain ⟨k1, k2, k3, k4, k5⟩ := lackV_sum hnf hnb hc0 hc h hcs hp s
  let ga : Nat → Int := fun f => if (orAll cs (bits s)).testBit f then lft p f else 0
  let gb : Nat → Int := fun i => if s.testBit i then amt cs i else 0
  have hA : ((List.range L.Funds.length).map ga).sum = ((bits (orAll cs (bits s))).map (lft p)).sum := by
    unfold bits
    rw [sum_filter, ← sum_range_ext ga L.Funds.length (fun j hj => ?_) 8 (by omega)]
    · rfl
    · show (if (orAll cs (bits s)).testBit j then lft p j else 0) = 0
      by_cases h8 : j < 8
      · rw [lftAt hp h8, List.getElem?_eq_none (by omega)]
        simp
      · have : lft p j = 0 := by
          unfold lft
          rw [List.getElem?_eq_none (by rw [V8_len]; omega)]
          rfl
        rw [this]
        simp
  have hB : ((List.range L.Bills.length).map gb).sum = ((bits s).map (amt cs)).sum := by
    unfold bits
    rw [sum_filter, ← sum_range_ext gb L.Bills.length (fun j hj => ?_) 8 (by omega)]
    · show (if s.testBit j then amt cs j else 0) = 0
      have : amt cs j = 0 := by
        unfold amt
        rw [List.getElem?_eq_none (by rw [hcs.1]; omega)]
        rfl
      rw [this]
      simp
  have bA : ∀ i, i ≤ L.Funds.length → 0 ≤ ((List.range i).map ga).sum ∧ ((List.range i).map ga).sum ≤ 16000000 := fun i hi => by
    have := sum_bnd ga 2000000 (by omega) (List.range i) (fun f hf => by
      have hf2 : f < L.Funds.length := by rw [List.mem_range] at hf; omega
      have hF : L.Funds[f]? = some L.Funds[f] := List.getElem?_eq_getElem hf2
      obtain ⟨_, _, _, _, b5, b6, _⟩ := h.fund _ (List.getElem_mem hf2)
      have hl : lft p f = L.Funds[f].Amount := by rw [lftAt hp (by omega), hF]; rfl
      simp only [ga, hl]
      split <;> omega)
    rw [List.length_range] at this
    omega
  have bB : ∀ i, i ≤ L.Bills.length → 0 ≤ ((List.range i).map gb).sum ∧ ((List.range i).map gb).sum ≤ 16000000 := fun i hi => by
    have := sum_bnd gb 2000000 (by omega) (List.range i) (fun f hf => by
      have hf2 : f < L.Bills.length := by rw [List.mem_range] at hf; omega
      have hF : L.Bills[f]? = some L.Bills[f] := List.getElem?_eq_getElem hf2
      obtain ⟨_, _, _, _, b5, b6⟩ := h.bill _ (List.getElem_mem hf2)
      simp only [gb, amtAt h hcs hF]
      split <;> omega)
    rw [List.length_range] at this
    omega
  unfold p_br9_Slack
  simp only [letJ_eq]
  refine invZ' L.Funds (fun x => x = some (-(lackV cs s p))) (fun i b => b = ((List.range i).map ga).sum) (by omega) rfl (fun rec b hb1 => ?_) (fun rec i F b hF hi hb1 ih => ?_)
  · simp only [ltE, cond_false]
    rw [hA] at hb1
    refine invZ' L.Bills (fun x => x = some (-(lackV cs s p))) (fun i b2 => b2 = b - ((List.range i).map gb).sum) (by omega) (by simp) (fun rec b2 hb2 => ?_) (fun rec i B b2 hB1 hi hb2 ih => ?_)
    · simp only [ltE, cond_false]
      rw [hB] at hb2
      congr 1
      omega
    · have := bB (i + 1) (by omega)
      rw [sum_succ] at this
      have h3 := bB i (by omega)
      simp only [ltD hi, cond_true, nnI_n, Option.bind_some, bit_p s i hs (by omega), getD_at hB1, nadd1 i (by omega)]
      have hgb : gb i = if s.testBit i then B.Amount else 0 := by simp only [gb, amtAt h hcs hB1]
      cases hq : s.testBit i with
      | true =>
        rw [cond_true]
        rw [hq, if_pos rfl] at hgb
        refine ih _ ?_
        rw [sum_succ, w64 (by omega) (by omega)]
        omega
      | false =>
        rw [cond_false]
        rw [hq, if_neg (by decide)] at hgb
        refine ih _ ?_
        rw [sum_succ]
        omega
  · have := bA (i + 1) (by omega)
    rw [sum_succ] at this
    have h3 := bA i (by omega)
    simp only [ltD hi, cond_true, pays_r N hN nf nb c hnf hnb L h cs hcs s hs i F hF, Option.bind_some, getD_at hF, nadd1 i (by omega)]
    have hga : ga i = if (orAll cs (bits s)).testBit i then F.Amount else 0 := by
      simp only [ga, lftAt hp (show i < 8 by omega), hF, Option.map_some, Option.getD_some]
    cases hq : (orAll cs (bits s)).testBit i with
    | true =>
      rw [cond_true]
      rw [hq, if_pos rfl] at hga
      refine ih _ ?_
      rw [sum_succ, w64 (by omega) (by omega)]
      omega
    | false =>
      rw [cond_false]
      rw [hq, if_neg (by decide)] at hga
      refine ih _ ?_
      rw [sum_succ]
      omega

def lacks (cs : List T_coin_claim) (p : T_V8_i64) (s : Nat) (l : List Nat) : Bool := decide (lackV cs (addAll s l) p > 0)
def prec (N : Nat) (cs : List T_coin_claim) (p : T_V8_i64) (bound : Int) : (Int → Int → Int → Option (Unit ⊕ Int)) → Int → Int → Int → Option (Unit ⊕ Int) := fun rec_36 (begun_32 : Int) (next_33 : Int) (more_34 : Int) => (bif (more_34 == 0) then (letJ (fun (_ : Unit) => some (.inl ())) (fun k_53 => (letJ (fun (_ : Unit) => some (.inr begun_32)) (fun k_56 => ((p_coin_claims_lack N cs begun_32 p).bind fun r_59 => (bif (decide (r_59 > 0)) then (k_56 ()) else (k_53 ()))))))) else (letJ (fun (_ : Unit) => some (.inl ())) (fun k_61 => (loop1 (fun rec_65 (n_64 : Int) => (bif (decide ((IntKind.i64.wrap (n_64 + more_34)) ≤ bound)) then ((p_coin_set_add N begun_32 n_64).bind fun r_69 => (letJ (fun (_ : Unit) => (rec_65 (IntKind.i64.wrap (n_64 + 1)))) (fun k_73 => (letJ (fun (b_72 : Int) => some (.inr b_72)) (fun k_76 => ((rec_36 r_69 (IntKind.i64.wrap (n_64 + 1)) (IntKind.i64.wrap (more_34 - 1))).bind fun s_70 => (caseS s_70 (fun t => k_73 ()) (fun t => k_76 t)))))))) else (k_61 ()))) N next_33))))
def hit (s : Nat) : Option (List Nat) → Unit ⊕ Int
  | none => .inl ()
  | some l => .inr ((addAll s l : Nat) : Int)
theorem rec_f (N : Nat) (hN : 1000 < N) (cs : List T_coin_claim) (h : OkC cs) (p : T_V8_i64) : ∀ (k M s a : Nat), k < M → k ≤ 8 → a ≤ 9 → s < 256 → (∀ t ∈ bits s, t < cs.length) → loop3 (prec N cs p (cs.length : Int)) M (s : Int) (a : Int) (k : Int) = some (hit s ((setsS k a cs.length).find? (lacks cs p s)))
  | k, 0, s, a, hM, _, _, _, _ => absurd hM (Nat.not_lt_zero _)
  | 0, M + 1, s, a, hM, _, _, hs, hb => by
    show prec N cs p (cs.length : Int) (loop3 (prec N cs p (cs.length : Int)) M) (s : Int) (a : Int) (0 : Int) = _
    unfold prec
    simp only [letJ_eq, beq_self_eq_true, cond_true, lack_p N hN cs h p s hs hb, Option.bind_some]
    have e : lacks cs p s [] = decide (lackV cs s p > 0) := rfl
    simp only [setsS, List.find?_cons, e]
    generalize decide (lackV cs s p > 0) = q
    cases q <;> rfl
  | k + 1, M + 1, s, a, hM, hk, ha, hs, hb => by
    have hc := h.1
    show prec N cs p (cs.length : Int) (loop3 (prec N cs p (cs.length : Int)) M) (s : Int) (a : Int) ((k + 1 : Nat) : Int) = _
    have IH := fun s' a' h1 h2 h3 => rec_f N hN cs h p k M s' a' (by omega) (by omega) h1 h2 h3
    generalize hR : loop3 (prec N cs p (cs.length : Int)) M = R at IH ⊢
    unfold prec
    simp only [letJ_eq, show ((((k + 1 : Nat) : Int) == 0) = false) by simp; omega, cond_false]
    refine loop1_T (fun x => x = some (hit s ((setsS (k + 1) a cs.length).find? (lacks cs p s)))) (fun n => ∃ a2 : Nat, n = (a2 : Int) ∧ a2 ≤ 9 ∧ (setsS (k + 1) a cs.length).find? (lacks cs p s) = (setsS (k + 1) a2 cs.length).find? (lacks cs p s)) (fun n => 10 - n.toNat) ?_ N (a : Int) ⟨a, rfl, ha, rfl⟩ (by omega)
    rintro rec n ⟨a2, rfl, h9, hf⟩ ih
    rw [w64 (x := (a2 : Int) + ((k + 1 : Nat) : Int)) (by omega) (by omega)]
    by_cases hle : a2 + (k + 1) ≤ cs.length
    · rw [show decide ((a2 : Int) + ((k + 1 : Nat) : Int) ≤ ((cs.length : Nat) : Int)) = true from decide_eq_true (by omega), cond_true, add_p N s a2 hs (by omega), Option.bind_some, nadd1 a2 (by omega), w64 (x := ((k + 1 : Nat) : Int) - 1) (by omega) (by omega), show ((k + 1 : Nat) : Int) - 1 = (k : Int) by omega]
      rw [IH (s ||| 2 ^ a2) (a2 + 1) (by omega) (add_lt hs (by omega)) (fun t ht => by
          obtain ⟨t1, t2⟩ := mem_bits.1 ht
          rw [Nat.testBit_or, Nat.testBit_two_pow] at t2
          simp only [Bool.or_eq_true, decide_eq_true_eq] at t2
          rcases t2 with t2 | t2
          · exact hb t (mem_bits.2 ⟨t1, t2⟩)
          · omega), Option.bind_some]
      rw [setsS_succ k a2 cs.length (by omega), List.find?_append, List.find?_map] at hf
      have he : (lacks cs p s ∘ fun x => a2 :: x) = lacks cs p (s ||| 2 ^ a2) := rfl
      rw [he] at hf
      cases hq : (setsS k (a2 + 1) cs.length).find? (lacks cs p (s ||| 2 ^ a2)) with
      | none =>
        rw [hq] at hf
        simp only [hit, caseS]
        exact ih _ ⟨a2 + 1, rfl, by omega, by rw [hf]; rfl⟩ (by omega)
      | some l =>
        rw [hq] at hf
        simp only [hit, caseS]
        rw [hf]
        rfl
    · rw [show decide ((a2 : Int) + ((k + 1 : Nat) : Int) ≤ ((cs.length : Nat) : Int)) = false from decide_eq_false (by omega), cond_false]
      rw [hf, setsS_none k a2 cs.length (by omega)]
      rfl
def Found (cs : List T_coin_claim) (p : T_V8_i64) (b : Int) : Prop := (b = 0 ∧ ∀ k, k ≤ cs.length → ∀ l ∈ setsS k 0 cs.length, lacks cs p 0 l = false) ∨ ∃ k l, k ≤ cs.length ∧ (setsS k 0 cs.length).find? (lacks cs p 0) = some l ∧ b = ((addAll 0 l : Nat) : Int) ∧ ∀ k', k' < k → ∀ l ∈ setsS k' 0 cs.length, lacks cs p 0 l = false
theorem proof_p (N : Nat) (hN : 1000 < N) (cs : List T_coin_claim) (h : OkC cs) (p : T_V8_i64) : ∃ b, p_coin_claims_proof N cs p = some b ∧ Found cs p b := by
  have hc := h.1
  unfold p_coin_claims_proof
  simp only [letJ_eq, show ∀ a b, p_coin_setsOf N a b = some (b, a) from fun _ _ => rfl, Option.bind_some]
  rw [nadd1 cs.length (by omega)]
  refine loop1_T (fun x => ∃ b, x = some b ∧ Found cs p b) (fun y => ∃ i : Nat, y = (i : Int) ∧ i ≤ cs.length + 1 ∧ ∀ k', k' < i → ∀ l ∈ setsS k' 0 cs.length, lacks cs p 0 l = false) (fun y => 10 - y.toNat) ?_ N 0 ⟨0, rfl, by omega, fun k hk => by omega⟩ (by omega)
  rintro rec y ⟨i, rfl, hi, hno⟩ ih
  by_cases hlt : i < cs.length + 1
  · rw [ltD hlt, cond_true]
    have e := rec_f N hN cs h p i N 0 0 (by omega) (by omega) (by omega) (by omega) (fun t ht => by simp [bits] at ht)
    unfold prec at e
    simp only [letJ_eq] at e
    rw [show ((0 : Nat) : Int) = 0 from rfl] at e
    rw [e, Option.bind_some, nadd1 i (by omega)]
    cases hq : (setsS i 0 cs.length).find? (lacks cs p 0) with
    | none =>
      simp only [hit, caseS]
      refine ih _ ⟨i + 1, rfl, by omega, fun k' hk' l hl => ?_⟩ (by omega)
      by_cases he : k' = i
      · subst he
        have := List.find?_eq_none.1 hq l hl
        simpa using this
      · exact hno k' (by omega) l hl
    | some l =>
      simp only [hit, caseS]
      exact ⟨_, rfl, .inr ⟨i, l, by omega, hq, rfl, hno⟩⟩
  · rw [show decide ((i : Int) < ((cs.length + 1 : Nat) : Int)) = false from decide_eq_false (by omega), cond_false]
    exact ⟨0, rfl, .inl ⟨rfl, fun k hk => hno k (by omega)⟩⟩
end Go.Proofs.Ytkpihepaaiofgaa
end
section
namespace Go.Proofs.Ytkpihepaaiofgaa
open Go.RowKit
set_option linter.unusedVariables false
set_option linter.unusedSimpArgs false
set_option maxRecDepth 10000
set_option maxHeartbeats 4000000

theorem asc_ext : ∀ (a b : List Nat), a.Pairwise (· < ·) → b.Pairwise (· < ·) → (∀ t, t ∈ a ↔ t ∈ b) → a = b
  | [], [], _, _, _ => rfl
  | [], y :: b, _, _, h => by have := (h y).2 (by simp); cases this
  | x :: a, [], _, _, h => by have := (h x).1 (by simp); cases this
  | x :: a, y :: b, ha, hb, h => by
    obtain ⟨a1, a2⟩ := List.pairwise_cons.1 ha
    obtain ⟨b1, b2⟩ := List.pairwise_cons.1 hb
    have hxy : x = y := by
      have h1 := (h x).1 (by simp)
      have h2 := (h y).2 (by simp)
      rcases List.mem_cons.1 h1 with h1 | h1
      · exact h1
      · rcases List.mem_cons.1 h2 with h2 | h2
        · exact h2.symm
        · have := b1 x h1
          have := a1 y h2
          omega
    subst hxy
    rw [asc_ext a b a2 b2 fun t => ?_]
    constructor
    · intro ht
      rcases List.mem_cons.1 ((h t).1 (by simp [ht])) with q | q
      · have := a1 t ht; omega
      · exact q
    · intro ht
      rcases List.mem_cons.1 ((h t).2 (by simp [ht])) with q | q
      · have := b1 t ht; omega
      · exact q
theorem bits_asc (s : Nat) : (bits s).Pairwise (· < ·) := List.Pairwise.filter _ List.pairwise_lt_range
theorem bits_addAll (l : List Nat) (h1 : l.Pairwise (· < ·)) (h2 : ∀ t ∈ l, t < 8) : bits (addAll 0 l) = l := by
  refine asc_ext _ _ (bits_asc _) h1 fun t => ?_
  rw [mem_bits, addAll_bit]
  simp only [Nat.zero_testBit, Bool.false_or, decide_eq_true_eq]
  exact ⟨fun q => q.2, fun q => ⟨h2 t q, q⟩⟩
theorem back_all : (List.range 256).all (fun s => decide (addAll 0 (bits s) = s)) = true := by kernel_rfl
theorem addAll_bits (s : Nat) (hs : s < 256) : addAll 0 (bits s) = s := by
  have h1 := List.all_eq_true.1 back_all s (by simpa using hs)
  simpa only [decide_eq_true_eq] using h1
theorem collect_p (N : Nat) (hN : 1000 < N) (s : Nat) (hs : s < 256) : p_slices_Collect_int_coin_set_numbers_1r N (s : Int) = some (up (bits s)) := by
  have e : p_slices_AppendSeq_int_intn_coin_set_numbers_1r N (s : Int) = some (up (bits s)) := by
    unfold p_slices_AppendSeq_int_intn_coin_set_numbers_1r
    simp only [letJ_eq]
    have key : ∀ (M q : Nat) (b : List Int), q < 256 → q < M → b.length + (bits q).length ≤ 1000 → loop2 (fun rec_19 (rest_17 : Int) (b_18 : List Int) => (bif (rest_17 != 0) then ((p_math_bits_TrailingZeros8 N rest_17).bind fun r_23 => (pushI b_18 ([r_23] : List Int)).bind fun l_36 => ((some (IntKind.u8.wrap (((BitVec.ofInt (IntKind.bits .u8) rest_17 &&& BitVec.ofInt (IntKind.bits .u8) (IntKind.u8.wrap (rest_17 - 1))).toNat : Nat) : Int))).bind fun n_37 => (rec_19 n_37 l_36))) else some b_18)) M (q : Int) b = some (b ++ up (bits q)) := by
      intro M
      induction M with
      | zero => intro q b _ h _; exact absurd h (Nat.not_lt_zero _)
      | succ M ih =>
        intro q b hq hM hl
        rw [loop2]
        by_cases h0 : q = 0
        · subst h0
          simp only [show (((0 : Nat) : Int) != 0) = false from rfl, cond_false]
          simp [bits, up]
        · obtain ⟨t, g1, g2, g3⟩ := tz_p N q h0 hq
          have hlow := low_lt q h0
          rw [g2] at hl
          simp only [List.length_cons] at hl
          rw [show ((q : Int) != 0) = true by simp; omega, cond_true, g1, Option.bind_some, pushI_ok (by simp; omega), Option.bind_some, Option.bind_some, g3, ih _ _ (by omega) (by omega) (by simp; omega), g2]
          simp [up]
    have hb := bits_len s
    exact key N s [] hs (by omega) (by simp; omega)
  unfold p_slices_Collect_int_coin_set_numbers_1r
  rw [e]
  rfl
theorem eqInts_tot (N : Nat) (hN : 1000 < N) (a b : List Int) (h : a.length ≤ 100) : ∃ q, p_bk_EqInts N a b = some q := by
  unfold p_bk_EqInts
  cases hq : (((a.length : Nat) : Int) != ((b.length : Nat) : Int)) with
  | true => exact ⟨_, rfl⟩
  | false =>
    rw [cond_false, letJ_eq]
    have hl : a.length = b.length := by
      have : ((a.length : Nat) : Int) = ((b.length : Nat) : Int) := by simpa using hq
      omega
    refine loop1_T (fun x => ∃ q, x = some q) (fun i => ∃ j : Nat, i = (j : Int) ∧ j ≤ a.length) (fun i => 200 - i.toNat) ?_ N 0 ⟨0, rfl, by omega⟩ (by omega)
    rintro rec i ⟨j, rfl, hj⟩ ih
    by_cases hlt : j < a.length
    · have hx : a[j]? = some a[j] := List.getElem?_eq_getElem hlt
      have hy : b[j]? = some b[j] := List.getElem?_eq_getElem (by omega)
      simp only [ltD hlt, cond_true, getD_at hx, getD_at hy, Option.bind_some, nadd1 j (by omega)]
      cases (a[j] != b[j]) with
      | true => exact ⟨_, rfl⟩
      | false => exact ih _ ⟨j + 1, rfl, by omega⟩ (by omega)
    · rw [show decide ((j : Int) < ((a.length : Nat) : Int)) = false from decide_eq_false (by omega), cond_false]
      exact ⟨_, rfl⟩
theorem short_p (N : Nat) (hN : 1000 < N) (nf nb : Nat) (c : Int) (hnf : nf ≤ 8) (hnb : nb ≤ 8) (hc0 : 0 ≤ c) (hc : c ≤ 1000000) (L : T_api_Ledger) (h : GoodL nf nb c L) : ∃ cs p, GoodC L cs ∧ (∀ f : Nat, f < 8 → p.l[f]? = some ((L.Funds[f]?.map (·.Amount)).getD 0)) ∧ ((p_coin_Short N L = some ([], 7) ∧ ∃ t, p_coin_Trace N L = some (t, 0)) ∨ ∃ k l, 1 ≤ k ∧ k ≤ cs.length ∧ (setsS k 0 cs.length).find? (lacks cs p 0) = some l ∧ (∀ k', k' < k → ∀ l ∈ setsS k' 0 cs.length, lacks cs p 0 l = false) ∧ p_coin_Short N L = some (up l, 0) ∧ p_coin_Trace N L = some ([], 4)) := by
  have g1 := h.nf; have g2 := h.nb
  obtain ⟨cs, e1, hcs⟩ := claimsOf_p N hN nf nb c hnf hnb L h
  obtain ⟨p, e2, hp⟩ := purseOf_p N hN L (by omega)
  have hok := hcs.ok (by omega)
  have hok1 := hok.1
  obtain ⟨m, e3, hm⟩ := missing_p N hN cs hok p
  have htr : (0 < m → p_coin_Trace N L = some ([], 4)) ∧ (m ≤ 0 → ∃ t, p_coin_Trace N L = some (t, 0)) := trace_q N hN nf nb c hnf hnb hc L h cs p m hcs e1 e2 e3
  obtain ⟨b, e4, hb⟩ := proof_p N hN cs hok p
  refine ⟨cs, p, hcs, hp, ?_⟩
  have hS : p_coin_Short N L = (bif (b == 0) then some ([], 7) else ((p_coin_set_numbers N b).bind fun r_9 => ((p_slices_Collect_int_coin_set_numbers_1r N r_9).bind fun r_10 => some (r_10, 0)))) := by
    unfold p_coin_Short
    simp only [check_p N hN nf nb c hnf hnb hc L h, Option.bind_some, bne_self_eq_false, cond_false, e1, e2, e4]
  rcases hb with ⟨rfl, hno⟩ | ⟨k, l, hk, hf, rfl, hno⟩
  · left
    refine ⟨by rw [hS]; rfl, htr.2 ?_⟩
    rcases hm.2.2 with h0 | ⟨u, hu, hub, hv⟩
    · omega
    · have hmem : bits u ∈ setsS (bits u).length 0 cs.length := (setsS_mem cs.length _ 0 _).2 ⟨rfl, bits_asc u, fun t ht => ⟨Nat.zero_le _, hub t ht⟩⟩
      have hlen : (bits u).length ≤ cs.length := by
        rcases asc_len (bits u) 0 cs.length (bits_asc u) (fun t ht => ⟨Nat.zero_le _, hub t ht⟩) with q | q
        · omega
        · rw [q]; simp
      have := hno _ hlen _ hmem
      unfold lacks at this
      rw [addAll_bits u hu, hv, decide_eq_false_iff_not] at this
      omega
  · right
    have hl := List.find?_some hf
    have hmem := List.mem_of_find?_eq_some hf
    obtain ⟨l1, l2, l3⟩ := (setsS_mem cs.length k 0 l).1 hmem
    unfold lacks at hl
    rw [decide_eq_true_eq] at hl
    have hk1 : 1 ≤ k := by
      by_cases h0 : k = 0
      · subst h0
        have : l = [] := List.length_eq_zero_iff.1 l1
        subst this
        have z : lackV cs (addAll 0 []) p = 0 := by
          have : bits 0 = [] := by simp [bits]
          have o : orAll cs [] = 0 := rfl
          unfold lackV addAll
          simp only [List.foldl_nil, this, o]
          rfl
        omega
      · omega
    have hlt : addAll 0 l < 256 := addAll_lt _ _ (by omega) fun t ht => by have := (l3 t ht).2; omega
    have hne : addAll 0 l ≠ 0 := by
      intro h0
      match l, l1 with
      | t :: r, l1 =>
        have := addAll_bit (t :: r) 0 t
        rw [h0] at this
        simp at this
      | [], l1 => simp at l1; omega
    refine ⟨k, l, hk1, hk, hf, hno, ?_, htr.1 ?_⟩
    · rw [hS, show ((((addAll 0 l : Nat) : Int)) == 0) = false by simpa using hne, cond_false, show p_coin_set_numbers N ((addAll 0 l : Nat) : Int) = some ((addAll 0 l : Nat) : Int) from rfl, Option.bind_some, collect_p N hN _ hlt, bits_addAll l l2 (fun t ht => by have := (l3 t ht).2; omega)]
      rfl
    · have := hm.2.1 l l2 (fun t ht => (l3 t ht).2)
      omega
theorem up_len (l : List Nat) : (up l).length = l.length := by simp [up]
theorem up_at {l : List Nat} {i : Nat} (h : i < l.length) : (up l)[i]? = some ((l[i] : Nat) : Int) := by
  unfold up
  rw [List.getElem?_map, List.getElem?_eq_getElem h]
  rfl
theorem short_law (N : Nat) (hN : 9223372036854775808 + 1000 < N) (zs : List Int) (hz : zs.length < 9223372036854775808) (haw : p_bl9_awake N = some true) : p_bl9_CoinShort N zs = some true := by
  have hN1 : 1000 < N := by omega
  unfold p_bl9_CoinShort
  obtain ⟨d, e⟩ := drumOf_p N zs (by omega) hz
  rw [e, Option.bind_some]; clear e
  obtain ⟨c, d1, e, hcm⟩ := any_p N d [5, 50] (by simp) (by simp)
  rw [e, Option.bind_some]; clear e
  have hcm : c = 5 ∨ c = 50 := by simpa using hcm
  dsimp only
  obtain ⟨L, d2, e, h⟩ := ledgerOf_p N hN1 d1 5 5 c (by omega) (by omega) (by omega) (by omega)
  rw [show p_bk_LedgerOf N d1 5 5 c = some (L, d2) from e, Option.bind_some]; clear e
  dsimp only
  have g1 := h.nf; have g2 := h.nb
  obtain ⟨cs, p, hcs, hp, hs⟩ := short_p N hN1 5 5 c (by omega) (by omega) (by omega) (by omega) L h
  have hcl := hcs.1
  rcases hs with ⟨e1, t, e2⟩ | ⟨k, l, k1, hk, hf, hno, e1, e2⟩
  · rw [e1, Option.bind_some, e2, Option.bind_some]
    simp only [beq_self_eq_true, cond_true, List.length_nil, haw, Option.bind_some]
    rfl
  · rw [e1, Option.bind_some, e2, Option.bind_some]
    have hmem := List.mem_of_find?_eq_some hf
    have hlk := List.find?_some hf
    obtain ⟨l1, l2, l3⟩ := (setsS_mem cs.length k 0 l).1 hmem
    -- the slack of a set
    have hsl : ∀ q a, a ∈ setsS q 0 cs.length → p_br9_Bits N (up a) = some ((addAll 0 a : Nat) : Int) ∧ p_br9_Slack N L ((addAll 0 a : Nat) : Int) = some (-(lackV cs (addAll 0 a) p)) := fun q a ha => by
      obtain ⟨a1, a2, a3⟩ := (setsS_mem cs.length q 0 a).1 ha
      have h8 : ∀ t ∈ a, t < 8 := fun t ht => by have := (a3 t ht).2; omega
      have hal : a.length ≤ 8 := by
        rcases asc_len a 0 cs.length a2 a3 with z | z
        · omega
        · rw [z]; simp
      refine ⟨bitsOf_p N hN1 a a2 h8 hal, slack_p N hN1 5 5 c (by omega) (by omega) (by omega) (by omega) L h cs hcs p hp _ (addAll_lt _ _ (by omega) h8) fun t ht => ?_⟩
      rw [bits_addAll a a2 h8] at ht
      exact (a3 t ht).2
    have h7 : (((0 : Int) == 7) : Bool) = false := rfl
    have h0 : ((((up l).length : Nat) : Int) == 0) = false := by rw [up_len, l1]; simp; omega
    simp only [h7, cond_false, bne_self_eq_false, h0, letJ_eq]
    refine loop1_T (fun x => x = some true) (fun i => ∃ j : Nat, i = (j : Int) ∧ j ≤ (up l).length) (fun i => 100 - i.toNat) ?_ N 0 ⟨0, rfl, by omega⟩ (by omega)
    rintro rec i ⟨j, rfl, hj⟩ ih
    rw [up_len] at hj
    by_cases hlt : j < (up l).length
    · have hjl : j < l.length := by rw [← up_len l]; exact hlt
      have hx := up_at hjl
      have hb := l3 _ (List.getElem_mem hjl)
      simp only [ltD hlt, cond_true, getD_at hx, Option.bind_some, nadd1 j (by omega)]
      rw [show decide (((l[j] : Nat) : Int) < 0) = false from decide_eq_false (by omega), cond_false, show decide (((l[j] : Nat) : Int) ≥ ((L.Bills.length : Nat) : Int)) = false from decide_eq_false (by omega), cond_false]
      by_cases hj0 : j = 0
      · subst hj0
        simp only [show decide (((0 : Nat) : Int) > 0) = false from rfl, cond_false]
        exact ih _ ⟨1, rfl, by omega⟩ (by omega)
      · have hy := up_at (show j - 1 < l.length by omega)
        have hp1 := (List.pairwise_iff_getElem.1 l2) (j - 1) j (by omega) hjl (by omega)
        rw [show decide ((j : Int) > 0) = true from decide_eq_true (by omega), cond_true, w64 (x := (j : Int) - 1) (by omega) (by omega), show (j : Int) - 1 = ((j - 1 : Nat) : Int) by omega, getD_at hy, Option.bind_some, show decide (((l[j] : Nat) : Int) ≤ ((l[j - 1] : Nat) : Int)) = false from decide_eq_false (by omega), cond_false]
        exact ih _ ⟨j + 1, rfl, by rw [up_len]; omega⟩ (by omega)
    · rw [show decide ((j : Int) < (((up l).length : Nat) : Int)) = false from decide_eq_false (by omega), cond_false]
      refine loop1_T (fun x => x = some true) (fun i => ∃ q : Nat, i = (q : Int) ∧ q ≤ k + 1 ∧ 1 ≤ q) (fun i => 100 - i.toNat) ?_ N 1 ⟨1, rfl, by omega, by omega⟩ (by omega)
      rintro rec2 i2 ⟨q, rfl, hq, hq1⟩ ih2
      by_cases hle : q ≤ k
      · rw [show decide ((q : Int) ≤ (((up l).length : Nat) : Int)) = true from decide_eq_true (by rw [up_len, l1]; omega), cond_true]
        have hset := sets_p q N 0 L.Bills.length (by omega) (by omega) (by omega) (by omega)
        rw [show p_br9_Sets N 0 ((L.Bills.length : Nat) : Int) (q : Int) = some ((setsS q 0 L.Bills.length).map up) from hset, Option.bind_some, ← hcl, nadd1 q (by omega)]
        have hgo := ih2 ((q + 1 : Nat) : Int) ⟨q + 1, rfl, by omega, by omega⟩ (by omega)
        have hlen := setsS_len cs.length (cs.length - 0) q 0 rfl
        have hpow : 2 ^ (cs.length - 0) ≤ 2 ^ 8 := Nat.pow_le_pow_right (by omega) (by omega)
        -- up to which one sets are looked at
        obtain ⟨J, J1, J2, J3⟩ : ∃ J : Nat, J ≤ (setsS q 0 cs.length).length ∧ (J < (setsS q 0 cs.length).length → (setsS q 0 cs.length)[J]? = some l) ∧ ∀ (i : Nat) a, i < J → (setsS q 0 cs.length)[i]? = some a → lacks cs p 0 a = false := by
          by_cases hqk : q < k
          · exact ⟨_, Nat.le_refl _, fun z => absurd z (Nat.lt_irrefl _), fun i a _ ha => hno q hqk a (List.mem_of_getElem? ha)⟩
          · have : q = k := by omega
            subst this
            obtain ⟨_, pa, pb, hab, hna⟩ := List.find?_eq_some_iff_append.1 hf
            refine ⟨pa.length, by rw [hab]; simp, fun _ => by rw [hab, List.getElem?_append_right (Nat.le_refl _)]; simp, fun i a hi ha => ?_⟩
            rw [hab, List.getElem?_append_left hi] at ha
            have := hna a (List.mem_of_getElem? ha)
            simpa using this
        refine loop1_T (fun x => x = some true) (fun i => ∃ r : Nat, i = (r : Int) ∧ r ≤ J) (fun i => 1000 - i.toNat) ?_ N 0 ⟨0, rfl, by omega⟩ (by omega)
        rintro rec3 i3 ⟨r, rfl, hr⟩ ih3
        by_cases hrl : r < ((setsS q 0 cs.length).map up).length
        · have hrl2 : r < (setsS q 0 cs.length).length := by simpa using hrl
          have hy : (setsS q 0 cs.length)[r]? = some (setsS q 0 cs.length)[r] := List.getElem?_eq_getElem hrl2
          have hx : ((setsS q 0 cs.length).map up)[r]? = some (up (setsS q 0 cs.length)[r]) := by rw [List.getElem?_map, hy]; rfl
          have hin := List.getElem_mem hrl2
          have hal := (setsS_mem cs.length q 0 _).1 hin
          obtain ⟨z, ez⟩ := eqInts_tot N hN1 (up (setsS q 0 cs.length)[r]) (up l) (by rw [up_len, hal.1]; omega)
          simp only [ltD hrl, cond_true, getD_at hx, Option.bind_some, ez]
          cases z with
          | true =>
            simp only [Bool.not_true, cond_false]
            exact hgo
          | false =>
            have hrJ : r < J := by
              by_cases hrJ : r < J
              · exact hrJ
              · have : r = J := by omega
                subst this
                have := J2 hrl2
                rw [hy] at this
                injection this with this
                rw [this, eqInts_t N (up l) (by rw [up_len]; omega) (by rw [up_len]; omega)] at ez
                cases ez
            obtain ⟨s1, s2⟩ := hsl q _ hin
            have hnl := J3 r _ hrJ hy
            unfold lacks at hnl
            rw [decide_eq_false_iff_not] at hnl
            simp only [Bool.not_false, cond_true, s1, s2, Option.bind_some, nadd1 r (by omega)]
            rw [show decide (-(lackV cs (addAll 0 (setsS q 0 cs.length)[r]) p) < 0) = false from decide_eq_false (by omega), cond_false]
            exact ih3 _ ⟨r + 1, rfl, by omega⟩ (by omega)
        · rw [show decide ((r : Int) < ((((setsS q 0 cs.length).map up).length : Nat) : Int)) = false from decide_eq_false (by omega), cond_false]
          exact hgo
      · rw [show decide ((q : Int) ≤ (((up l).length : Nat) : Int)) = false from decide_eq_false (by rw [up_len, l1]; omega), cond_false]
        obtain ⟨s1, s2⟩ := hsl k l hmem
        unfold lacks at hlk
        rw [decide_eq_true_eq] at hlk
        rw [s1, Option.bind_some, s2, Option.bind_some, show decide (-(lackV cs (addAll 0 l) p) < 0) = true from decide_eq_true (by omega), cond_true, haw]
        rfl
theorem awake_s : p_bl9_awake 18446744073709551616 = some true := by kernel_rfl
theorem short_m (zs : List Int) (h : zs.length < 9223372036854775808) : Does Try.prog 7 [.sl (zs.map (AV.int .i64)) none] [] fun v _ => v = .bool true :=
  (d_bl9_CoinShort 18446744073709551616 zs true (short_law _ (by omega) zs h awake_s)).mono fun v c h => h.1
end Go.Proofs.Ytkpihepaaiofgaa
end
section
namespace Go.Proofs.Ytkpihepaaiofgaa
open Go.RowKit Go.ChangeShapes Go.WideShapes Go.ChangeAt
set_option linter.unusedVariables false
set_option linter.unusedSimpArgs false

def nums (zs : List Int) : AV := .sl (zs.map fun z => .int .i64 z) none
theorem prog_own : ownKnob Try.prog.godebug = none := by kernel_rfl
theorem prog_laid : laidOutB Try.prog = true := by kernel_rfl

namespace coinShort
set_option maxRecDepth 100000 in
theorem lifted (hM : ∀ zs : List Int, (∀ z ∈ zs, (Lit.int .i64 z).wf = true) → zs.length ≤ maxLen → Does Try.prog 7 [nums zs] [] fun v _ => v = .bool true) (os : Os) (started : os.Started) (H : Type) (enc : TypeId × Value → H) :
    ReturnsInHanded {} Try.checked os 7 .any (Rows.coinShortSpec.pre6 enc Try.prog Try.f7 Rows.coinShortRow.domain false) (Rows.coinShortSpec.post enc Try.prog Try.f7 false true false false) := by
  refine returnsInHanded_of_change (C := Try.checked) prog_own started (by kernel_rfl) Try.func7
    (ChangeSpec.witness6 (enc := enc) (C := Try.checked) false ⟨#[], #[.slice none 0 0], []⟩ 8 (by kernel_rfl) (by kernel_rfl) (by kernel_rfl) (by kernel_rfl)) ?_
  intro W base args ds gs before hval0 hW hcnd _
  have hval : ∀ (j : Nat) t v, Try.f7.params[j]? = some t → args[j]? = some v → Value.okWide Try.prog W .any base t v := hval0
  have hW' := hW
  obtain ⟨p, q, hA0, hV, rfl, hfz, hnd⟩ := hW
  have hA : DataW.TrodAll enc Try.prog W 0 (fun _ => true) true Try.f7.params.toList args.toList ds p := hA0
  rw [Try.params7] at hA hval
  obtain ⟨v0, vs0, d0, ds0, p0, q0, hargs, rfl, rfl, h0, r0⟩ := trodAll_cons hA
  obtain ⟨rfl, rfl, rfl⟩ := trodAll_nil r0
  obtain rfl : args = #[v0] := by cases args; simp_all
  obtain ⟨rfl, rfl⟩ := trodVars_none hV
  obtain ⟨a0, len0, cap0, rfl⟩ := okWide_slice Try.underlying28 (hval 0 28 v0 rfl rfl)
  have k0 := h0
  have lt0 : ∀ x ∈ p0, x.block < W.heap.size := by obtain ⟨m, hm⟩ := k0; exact DataW.trod_lt m _ _ _ hm
  obtain ⟨zs, hwf, hlen, hvr⟩ := ints_vr Try.underlying28 Try.underlying3 (by kernel_rfl) h0
  clear hA0 hval0
  refine ((hM zs hwf hlen).law (us := #[.slice a0 len0 cap0]) ⟨rfl, fun i x u hx hu => ?_⟩).mono fun e W' ⟨he, bel⟩ => ?_
  · cases i with
    | zero => simp at hx hu; subst hx; subst hu; exact hvr
    | succ i => simp at hx
  subst he
  exact ⟨_, rfl, _, _, _, [], _, [], hW', trodAll_mk1 (shut_bool Try.underlying4 _), (trodAll_cons_mk (Below.trod prog_laid (by kernel_rfl) (of_decide_eq_true (by kernel_rfl)) k0 bel lt0) trodAll_mk0), rfl, bel.frame _, fun h => by cases h⟩

theorem frame (hM : ∀ zs : List Int, (∀ z ∈ zs, (Lit.int .i64 z).wf = true) → zs.length ≤ maxLen → Does Try.prog 7 [nums zs] [] fun v _ => v = .bool true) : Rows.CoinShortSaid :=
  OpenClaim.holds_of_wide 7 Try.f7 rfl rfl rfl rfl rfl rfl rfl ⟨rfl, rfl, rfl, rfl, rfl⟩ rfl rfl rfl rfl rfl (by kernel_rfl) Try.func7 (by kernel_rfl)
    (of_decide_eq_true (by kernel_rfl)) (by unfold Func.isWrapper; first | (rw [if_pos (by decide +kernel)]; kernel_rfl) | (rw [if_neg (by decide +kernel)]; exact ⟨rfl, rfl⟩))
    (fun os started H enc _ => lifted hM os started H enc)
end coinShort
end Go.Proofs.Ytkpihepaaiofgaa
end
