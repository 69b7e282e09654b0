/- Part 6 of what the law needs: own work, put together. -/
import Derived.ProofKit
import Derived.Test.YtkpihepaaiofgaaRows
import Derived.Test.YtkpihepaaiofgaaCoinBal4
section
namespace Go.Proofs.Ytkpihepaaiofgaa
open Go.RowKit
set_option linter.unusedVariables false
set_option linter.unusedSimpArgs false
set_option maxRecDepth 10000
set_option maxHeartbeats 4000000

theorem w64 {x : Int} (h0 : -9223372036854775808 ≤ x) (h1 : x < 9223372036854775808) : IntKind.i64.wrap x = x := by
  simp [IntKind.wrap, IntKind.bits, IntKind.signed]
  omega
theorem wu64 (x : Int) : 0 ≤ IntKind.u64.wrap x ∧ IntKind.u64.wrap x < 2 ^ 64 := by
  have e : IntKind.u64.wrap x = x % 2 ^ 64 := rfl
  omega
theorem wu64_id {x : Int} (h0 : 0 ≤ x) (h1 : x < 2 ^ 64) : IntKind.u64.wrap x = x := by
  have e : IntKind.u64.wrap x = x % 2 ^ 64 := rfl
  omega

section
variable {ρ : Type} {A B C : Type}
theorem loop2_T {body : (A → B → Option ρ) → A → B → Option ρ} (T : Option ρ → Prop) (P : A → B → Prop) (μ : A → B → Nat) (h : ∀ rec a b, P a b → (∀ a' b', P a' b' → μ a' b' < μ a b → T (rec a' b')) → T (body rec a b)) : ∀ (N : Nat) (a : A) (b : B), P a b → μ a b < N → T (loop2 body N a b)
  | 0, a, b, _, hm => absurd hm (Nat.not_lt_zero _)
  | n + 1, a, b, hp, hm => h (loop2 body n) a b hp fun a' b' hp' hm' => loop2_T T P μ h n a' b' hp' (by omega)
theorem loop3_T {body : (A → B → C → Option ρ) → A → B → C → Option ρ} (T : Option ρ → Prop) (P : A → B → C → Prop) (μ : A → B → C → Nat) (h : ∀ rec a b c, P a b c → (∀ a' b' c', P a' b' c' → μ a' b' c' < μ a b c → T (rec a' b' c')) → T (body rec a b c)) : ∀ (N : Nat) (a : A) (b : B) (c : C), P a b c → μ a b c < N → T (loop3 body N a b c)
  | 0, a, b, c, _, hm => absurd hm (Nat.not_lt_zero _)
  | n + 1, a, b, c, hp, hm => h (loop3 body n) a b c hp fun a' b' c' hp' hm' => loop3_T T P μ h n a' b' c' hp' (by omega)
end
theorem getI_nat {α : Type} (l : List α) (i : Nat) : getI l (i : Int) = l[i]? := by simp [getI]
theorem getI_lt {α : Type} {l : List α} {i : Int} (h0 : 0 ≤ i) (h1 : i < (l.length : Int)) : ∃ x, getI l i = some x ∧ l[i.toNat]? = some x ∧ x ∈ l := by
  have hlt : i.toNat < l.length := by omega
  refine ⟨l[i.toNat], ?_, List.getElem?_eq_getElem hlt, List.getElem_mem hlt⟩
  simp only [getI, h0, if_true]
  exact List.getElem?_eq_getElem hlt
theorem pushI_ok {α : Type} {l m : List α} (h : l.length + m.length ≤ 65536) : pushI l m = some (l ++ m) := if_pos h
theorem letJ_eq {κ ρ : Type} (K : κ) (f : κ → Option ρ) : letJ K f = f K := rfl

theorem hit_p (N : Nat) (d : T_bk_Drum) : ∃ y d', p_bk_Drum_hit N d = some (y, d') ∧ 0 ≤ y ∧ y < 2 ^ 64 := by
  refine ⟨_, _, rfl, ?_⟩
  exact wu64 _
theorem roll_p (N : Nat) (d : T_bk_Drum) (n : Int) (hn : n < 9223372036854775808) : ∃ r d', p_bk_Drum_Roll N d n = some (r, d') ∧ 0 ≤ r ∧ (n < 2 → r = 0) ∧ (2 ≤ n → r < n) := by
  unfold p_bk_Drum_Roll
  by_cases h2 : n < 2
  · simp only [h2, decide_true, cond_true]
    exact ⟨0, d, rfl, by omega, fun _ => rfl, fun h => by omega⟩
  · simp only [h2, decide_false, cond_false]
    obtain ⟨y, d', hy, h0, h1⟩ := hit_p N d
    have hu : IntKind.u64.wrap n = n := wu64_id (by omega) (by omega)
    have hnz : n ≠ 0 := by omega
    rw [hy, hu]
    simp only [Option.bind_some, nzI, hnz, if_false]
    have hsh : Int.fdiv y ((2 : Int) ^ (min (Int.toNat 1) (IntKind.bits .u64))) = y / 2 := by
      have : (2 : Int) ^ (min (Int.toNat 1) (IntKind.bits .u64)) = 2 := rfl
      rw [this, Int.fdiv_eq_ediv_of_nonneg _ (by omega)]
    rw [hsh]
    have hd0 : 0 ≤ y / 2 := by omega
    have hm : Int.tmod (y / 2) n = (y / 2) % n := Int.tmod_eq_emod_of_nonneg hd0
    have hm0 : 0 ≤ (y / 2) % n := Int.emod_nonneg _ hnz
    have hm1 : (y / 2) % n < n := Int.emod_lt_of_pos _ (by omega)
    rw [hm, w64 (x := y / 2 % n) (by omega) (by omega)]
    exact ⟨_, d', rfl, hm0, fun h => False.elim h, fun _ => hm1⟩
theorem any_p (N : Nat) (d : T_bk_Drum) (l : List Int) (hl : l ≠ []) (hlen : l.length < 1000) : ∃ r d', p_bk_Drum_Any N d l = some (r, d') ∧ r ∈ l := by
  unfold p_bk_Drum_Any
  have hpos : 0 < l.length := List.length_pos_iff.2 hl
  have hb : (((l.length : Nat) : Int) == 0) = false := by simp; omega
  rw [hb, cond_false]
  obtain ⟨r, d', h1, h2, h3, h4⟩ := roll_p N d ((l.length : Nat) : Int) (by omega)
  rw [h1]
  simp only [Option.bind_some]
  have hr : r < (l.length : Int) := by
    by_cases h : (l.length : Int) < 2
    · rw [h3 h]; omega
    · exact h4 (by omega)
  obtain ⟨x, e1, _, e3⟩ := getI_lt h2 hr
  rw [e1]
  exact ⟨x, d', rfl, e3⟩
theorem mid_p (N : Nat) (d : T_bk_Drum) (lo hi : Int) (h0 : -4611686018427387904 ≤ lo) (h1 : lo ≤ 4611686018427387903) (h2 : -4611686018427387904 ≤ hi) (h3 : hi ≤ 4611686018427387902) : ∃ r d', p_bk_Drum_Mid N d lo hi = some (r, d') ∧ lo ≤ r ∧ (lo ≤ hi → r ≤ hi) ∧ (hi < lo → r = lo) := by
  unfold p_bk_Drum_Mid
  rw [w64 (x := hi - lo) (by omega) (by omega)]
  by_cases hc : hi - lo + 1 < 9223372036854775808
  · rw [w64 (x := hi - lo + 1) (by omega) hc]
    obtain ⟨r, d', e1, e2, e3, e4⟩ := roll_p N d (hi - lo + 1) hc
    rw [e1]
    simp only [Option.bind_some]
    have hr : r ≤ hi - lo ∨ r = 0 := by
      by_cases h : hi - lo + 1 < 2
      · exact .inr (e3 h)
      · have := e4 (by omega); exact .inl (by omega)
    rw [w64 (by omega) (by omega)]
    exact ⟨_, d', rfl, by omega, fun h => by omega, fun h => by
      have := e3 (by omega)
      omega⟩
  · omega
theorem drumOf_step (N : Nat) (l : List Int) (rec : Int → Int → Option T_bk_Drum) (i q : Int) (h : i < 9223372036854775807) (h0 : 0 ≤ i) (ih : ∀ b', ∃ d, rec (i + 1) b' = some d) : ∃ d, ((p_bk_Drum_hit N (⟨q⟩ : T_bk_Drum)).bind fun r_14 => (rec (IntKind.i64.wrap (i + 1)) r_14.2.beat_)) = some d := by
  obtain ⟨y, d', g1, _, _⟩ := hit_p N ⟨q⟩
  rw [g1, w64 (x := i + 1) (by omega) (by omega)]
  exact ih _
theorem drumOf_p (N : Nat) (l : List Int) (hN : l.length < N) (hl : l.length < 9223372036854775808) : ∃ d, p_bk_DrumOf N l = some d := by
  unfold p_bk_DrumOf
  rw [letJ_eq]
  refine loop2_T (fun x => ∃ d, x = some d) (fun i b => 0 ≤ i ∧ i ≤ (l.length : Int)) (fun i b => l.length - i.toNat) ?_ N 0 _ ⟨by omega, by omega⟩ (by simpa using hN)
  rintro rec i b ⟨h0, h1⟩ ih
  by_cases hc : i < (l.length : Int)
  · rw [show decide (i < ((l.length : Nat) : Int)) = true from decide_eq_true hc, cond_true]
    obtain ⟨x, e1, _, _⟩ := getI_lt h0 hc
    rw [e1, Option.bind_some, Option.bind_some]
    exact drumOf_step N l rec i _ (by omega) h0 fun b' => ih _ _ ⟨by omega, by omega⟩ (by omega)
  · rw [show decide (i < ((l.length : Nat) : Int)) = false from decide_eq_false hc, cond_false]
    exact ⟨_, rfl⟩
section
variable {A B ρ : Type}
theorem st1 (n : Nat) (body : (Int → Option ρ) → Int → Option ρ) (r : Option ρ) (hend : ∀ rec, body rec (n : Int) = r) (hstep : ∀ rec (i : Nat), i < n → body rec (i : Int) = rec ((i + 1 : Nat) : Int)) : ∀ (N i : Nat), i ≤ n → n - i < N → loop1 body N (i : Int) = r
  | 0, i, _, h => absurd h (Nat.not_lt_zero _)
  | N + 1, i, hle, hN => by
    show body (loop1 body N) (i : Int) = _
    by_cases hlt : i < n
    · rw [hstep _ i hlt]; exact st1 n body r hend hstep N (i + 1) (by omega) (by omega)
    · have : i = n := by omega
      subst this
      exact hend _
theorem st2 (n : Nat) (st : Nat → A) (body : (Int → A → Option ρ) → Int → A → Option ρ) (r : Option ρ) (hend : ∀ rec, body rec (n : Int) (st n) = r) (hstep : ∀ rec (i : Nat), i < n → body rec (i : Int) (st i) = rec ((i + 1 : Nat) : Int) (st (i + 1))) : ∀ (N i : Nat), i ≤ n → n - i < N → loop2 body N (i : Int) (st i) = r
  | 0, i, _, h => absurd h (Nat.not_lt_zero _)
  | N + 1, i, hle, hN => by
    show body (loop2 body N) (i : Int) (st i) = _
    by_cases hlt : i < n
    · rw [hstep _ i hlt]; exact st2 n st body r hend hstep N (i + 1) (by omega) (by omega)
    · have : i = n := by omega
      subst this
      exact hend _
theorem st2z (n : Nat) (st : Nat → A) {body : (Int → A → Option ρ) → Int → A → Option ρ} {r : Option ρ} {a : A} {N : Nat} (ha : a = st 0) (hN : n < N) (hend : ∀ rec, body rec (n : Int) (st n) = r) (hstep : ∀ rec (i : Nat), i < n → body rec (i : Int) (st i) = rec ((i + 1 : Nat) : Int) (st (i + 1))) : loop2 body N 0 a = r := by
  subst ha; exact st2 n st body r hend hstep N 0 (Nat.zero_le _) (by omega)
end
theorem nadd1 (i : Nat) (h : i < 4611686018427387904) : IntKind.i64.wrap ((i : Int) + 1) = ((i + 1 : Nat) : Int) := by
  rw [w64 (x := (i : Int) + 1) (by omega) (by omega)]
  omega
theorem ltD {i n : Nat} (h : i < n) : decide ((i : Int) < ((n : Nat) : Int)) = true := decide_eq_true (by omega)
theorem ltE (n : Nat) : decide (((n : Nat) : Int) < ((n : Nat) : Int)) = false := decide_eq_false (by omega)

theorem rare_p (N : Nat) (d : T_bk_Drum) (n : Int) (hn : n < 9223372036854775808) : ∃ b d', p_bk_Drum_Rare N d n = some (b, d') := by
  unfold p_bk_Drum_Rare
  obtain ⟨r, d', e, _⟩ := roll_p N d n hn
  rw [e]
  exact ⟨_, _, rfl⟩
theorem roll_le (N : Nat) (d : T_bk_Drum) (n : Int) (h1 : 1 ≤ n) (hn : n < 9223372036854775808) : ∃ r d', p_bk_Drum_Roll N d n = some (r, d') ∧ 0 ≤ r ∧ r < n := by
  obtain ⟨r, d', e, h0, h2, h3⟩ := roll_p N d n hn
  refine ⟨r, d', e, h0, ?_⟩
  by_cases h : n < 2
  · rw [h2 h]; omega
  · exact h3 (by omega)

def pre (l : List Int) (i : Nat) : Int := (l.take i).sum
theorem getD_at {α : Type} [Inhabited α] {l : List α} {i : Nat} {x : α} (h : l[i]? = some x) : getI l (i : Int) = some x := by
  rw [getI_nat, h]
end Go.Proofs.Ytkpihepaaiofgaa
end
section
namespace Go.Proofs.Ytkpihepaaiofgaa
open Go.RowKit
set_option linter.unusedVariables false
set_option linter.unusedSimpArgs false
set_option maxRecDepth 10000
set_option maxHeartbeats 4000000

def bits (s : Nat) : List Nat := (List.range 8).filter fun t => s.testBit t
theorem mem_bits {s t : Nat} : t ∈ bits s ↔ t < 8 ∧ s.testBit t = true := by simp [bits]
def tzOk (s : Nat) : Bool := match p_math_bits_TrailingZeros8 0 (s : Int), bits s with
  | some t, x :: r => decide (t = (x : Int)) && (r == bits (s &&& (s - 1))) && decide ((IntKind.u8.wrap (((BitVec.ofInt (IntKind.bits .u8) (s : Int) &&& BitVec.ofInt (IntKind.bits .u8) (IntKind.u8.wrap ((s : Int) - 1))).toNat : Nat) : Int)) = ((s &&& (s - 1) : Nat) : Int))
  | _, _ => false
theorem tz_all : (List.range 256).all (fun s => s == 0 || tzOk s) = true := by kernel_rfl
theorem tz_p (N s : Nat) (h0 : s ≠ 0) (h : s < 256) : ∃ t : Nat, p_math_bits_TrailingZeros8 N (s : Int) = some (t : Int) ∧ bits s = t :: bits (s &&& (s - 1)) ∧ IntKind.u8.wrap (((BitVec.ofInt (IntKind.bits .u8) (s : Int) &&& BitVec.ofInt (IntKind.bits .u8) (IntKind.u8.wrap ((s : Int) - 1))).toNat : Nat) : Int) = ((s &&& (s - 1) : Nat) : Int) := by
  have h1 := List.all_eq_true.1 tz_all s (by simpa using h)
  have h2 : tzOk s = true := by
    rcases Bool.or_eq_true _ _ ▸ h1 with h3 | h3
    · exact absurd (by simpa using h3) h0
    · exact h3
  have hN : p_math_bits_TrailingZeros8 N (s : Int) = p_math_bits_TrailingZeros8 0 (s : Int) := rfl
  rw [hN]
  unfold tzOk at h2
  split at h2
  · rename_i t x r e1 e2
    simp only [Bool.and_eq_true, decide_eq_true_eq, beq_iff_eq] at h2
    obtain ⟨⟨h3, h4⟩, h5⟩ := h2
    exact ⟨x, by rw [e1, h3], by rw [e2, h4], h5⟩
  · cases h2
theorem low_lt (s : Nat) (h0 : s ≠ 0) : s &&& (s - 1) < s := by
  have := Nat.and_le_right (n := s) (m := s - 1)
  omega
theorem wu8 {x : Int} (h0 : 0 ≤ x) (h1 : x < 256) : IntKind.u8.wrap x = x := by
  have e : IntKind.u8.wrap x = x % 2 ^ 8 := rfl
  omega
theorem or_p (a b : Nat) (ha : a < 256) (hb : b < 256) : IntKind.u8.wrap (((BitVec.ofInt (IntKind.bits .u8) (a : Int) ||| BitVec.ofInt (IntKind.bits .u8) (b : Int)).toNat : Nat) : Int) = ((a ||| b : Nat) : Int) := by
  have e : (BitVec.ofInt 8 (a : Int) ||| BitVec.ofInt 8 (b : Int)).toNat = a ||| b := by
    rw [BitVec.toNat_or, BitVec.ofInt_natCast, BitVec.ofInt_natCast, BitVec.toNat_ofNat, BitVec.toNat_ofNat, Nat.mod_eq_of_lt (by omega), Nat.mod_eq_of_lt (by omega)]
  have hlt : a ||| b < 2 ^ 8 := Nat.or_lt_two_pow (by omega) (by omega)
  show IntKind.u8.wrap (((BitVec.ofInt 8 (a : Int) ||| BitVec.ofInt 8 (b : Int)).toNat : Nat) : Int) = _
  rw [e, wu8 (by omega) (by omega)]
theorem pow_all : (List.range 8).all (fun n => decide (IntKind.u8.wrap (1 * ((2 : Int) ^ (min (Int.toNat (n : Int)) (IntKind.bits .u8)))) = ((2 ^ n : Nat) : Int))) = true := by kernel_rfl
theorem pow_lt8 {n : Nat} (h : n < 8) : 2 ^ n < 256 := Nat.pow_lt_pow_right (a := 2) (by omega) h
theorem add_p (N s n : Nat) (hs : s < 256) (hn : n < 8) : p_coin_set_add N (s : Int) (n : Int) = some ((s ||| 2 ^ n : Nat) : Int) := by
  unfold p_coin_set_add
  have h1 := List.all_eq_true.1 pow_all n (by simpa using hn)
  simp only [decide_eq_true_eq] at h1
  have h2 : nnI (n : Int) = some () := by unfold nnI; rw [if_neg (by omega)]
  rw [h2, h1]
  simp only [Option.bind_some]
  rw [or_p s (2 ^ n) hs (pow_lt8 hn)]
theorem add_lt {s n : Nat} (hs : s < 256) (hn : n < 8) : s ||| 2 ^ n < 256 := Nat.or_lt_two_pow (n := 8) (by omega) (pow_lt8 hn)
def addAll (b : Nat) (l : List Nat) : Nat := l.foldl (fun s t => s ||| 2 ^ t) b
theorem addAll_lt : ∀ (l : List Nat) (b : Nat), b < 256 → (∀ t ∈ l, t < 8) → addAll b l < 256
  | [], b, h, _ => h
  | t :: l, b, h, hl => addAll_lt l _ (add_lt h (hl t (by simp))) fun u hu => hl u (by simp [hu])
theorem addAll_bit : ∀ (l : List Nat) (b t : Nat), (addAll b l).testBit t = (b.testBit t || decide (t ∈ l))
  | [], b, t => by simp [addAll]
  | u :: l, b, t => by
    have := addAll_bit l (b ||| 2 ^ u) t
    show (addAll (b ||| 2 ^ u) l).testBit t = _
    rw [this, Nat.testBit_or, Nat.testBit_two_pow, Bool.or_assoc]
    congr 1
    by_cases h : u = t
    · subst h; simp
    · have : t ≠ u := fun e => h e.symm
      simp [h, this]

section
variable {α A B C D ρ : Type}
theorem loop4_T {body : (A → B → C → D → Option ρ) → A → B → C → D → Option ρ} (T : Option ρ → Prop) (P : A → B → C → D → Prop) (μ : A → B → C → D → Nat) (h : ∀ rec a b c d, P a b c d → (∀ a' b' c' d', P a' b' c' d' → μ a' b' c' d' < μ a b c d → T (rec a' b' c' d')) → T (body rec a b c d)) : ∀ (N : Nat) (a : A) (b : B) (c : C) (d : D), P a b c d → μ a b c d < N → T (loop4 body N a b c d)
  | 0, a, b, c, d, _, hm => absurd hm (Nat.not_lt_zero _)
  | n + 1, a, b, c, d, hp, hm => h (loop4 body n) a b c d hp fun a' b' c' d' hp' hm' => loop4_T T P μ h n a' b' c' d' hp' (by omega)
theorem invL (l : List α) (T : Option ρ → Prop) (I : Nat → B → Prop) {body : (Int → B → Option ρ) → Int → B → Option ρ} (hend : ∀ rec b, I l.length b → T (body rec (l.length : Int) b)) (hstep : ∀ rec (i : Nat) x b, l[i]? = some x → i < l.length → I i b → (∀ b', I (i + 1) b' → T (rec ((i + 1 : Nat) : Int) b')) → T (body rec (i : Int) b)) : ∀ (N i : Nat) (b : B), i ≤ l.length → l.length - i < N → I i b → T (loop2 body N (i : Int) b)
  | 0, i, b, _, h, _ => absurd h (Nat.not_lt_zero _)
  | N + 1, i, b, hle, hN, hI => by
    show T (body (loop2 body N) (i : Int) b)
    by_cases hlt : i < l.length
    · exact hstep _ i l[i] b (List.getElem?_eq_getElem hlt) hlt hI fun b' hb' => invL l T I hend hstep N (i + 1) b' (by omega) (by omega) hb'
    · have : i = l.length := by omega
      subst this
      exact hend _ b hI
theorem invL' (l : List α) (T : Option ρ → Prop) (I : Nat → B → Prop) {body : (B → Int → Option ρ) → B → Int → Option ρ} (hend : ∀ rec b, I l.length b → T (body rec b (l.length : Int))) (hstep : ∀ rec (i : Nat) x b, l[i]? = some x → i < l.length → I i b → (∀ b', I (i + 1) b' → T (rec b' ((i + 1 : Nat) : Int))) → T (body rec b (i : Int))) : ∀ (N i : Nat) (b : B), i ≤ l.length → l.length - i < N → I i b → T (loop2 body N b (i : Int))
  | 0, i, b, _, h, _ => absurd h (Nat.not_lt_zero _)
  | N + 1, i, b, hle, hN, hI => by
    show T (body (loop2 body N) b (i : Int))
    by_cases hlt : i < l.length
    · exact hstep _ i l[i] b (List.getElem?_eq_getElem hlt) hlt hI fun b' hb' => invL' l T I hend hstep N (i + 1) b' (by omega) (by omega) hb'
    · have : i = l.length := by omega
      subst this
      exact hend _ b hI
theorem invZ (l : List α) (T : Option ρ → Prop) (I : Nat → B → Prop) {body : (Int → B → Option ρ) → Int → B → Option ρ} {N : Nat} {b : B} (hN : l.length < N) (hI : I 0 b) (hend : ∀ rec b, I l.length b → T (body rec (l.length : Int) b)) (hstep : ∀ rec (i : Nat) x b, l[i]? = some x → i < l.length → I i b → (∀ b', I (i + 1) b' → T (rec ((i + 1 : Nat) : Int) b')) → T (body rec (i : Int) b)) : T (loop2 body N 0 b) := invL l T I hend hstep N 0 b (by omega) (by omega) hI
theorem invZ' (l : List α) (T : Option ρ → Prop) (I : Nat → B → Prop) {body : (B → Int → Option ρ) → B → Int → Option ρ} {N : Nat} {b : B} (hN : l.length < N) (hI : I 0 b) (hend : ∀ rec b, I l.length b → T (body rec b (l.length : Int))) (hstep : ∀ rec (i : Nat) x b, l[i]? = some x → i < l.length → I i b → (∀ b', I (i + 1) b' → T (rec b' ((i + 1 : Nat) : Int))) → T (body rec b (i : Int))) : T (loop2 body N b 0) := invL' l T I hend hstep N 0 b (by omega) (by omega) hI
theorem foldZ (l : List α) (f : B → α → B) (K : B → Option ρ) {body : (Int → B → Option ρ) → Int → B → Option ρ} {N : Nat} {b : B} (hN : l.length < N) (hend : ∀ rec b, body rec (l.length : Int) b = K b) (hstep : ∀ rec (i : Nat) x b, l[i]? = some x → i < l.length → body rec (i : Int) b = rec ((i + 1 : Nat) : Int) (f b x)) : loop2 body N 0 b = K (l.foldl f b) := by
  refine st2z l.length (fun i => (l.take i).foldl f b) rfl hN (fun rec => by rw [hend, List.take_length]) fun rec i hi => ?_
  have hx : l[i]? = some l[i] := List.getElem?_eq_getElem hi
  rw [hstep rec i _ _ hx hi, List.take_add_one, hx, List.foldl_append]
  rfl
end
theorem foldSum {α : Type} (g : α → Int) (m : Int) (h0 : 0 ≤ m) : ∀ (l : List α) (b : Int), (∀ x ∈ l, -m ≤ g x ∧ g x ≤ m) → -9223372036854775808 ≤ b - m * (l.length : Int) → b + m * (l.length : Int) < 9223372036854775808 → l.foldl (fun b x => IntKind.i64.wrap (b + g x)) b = b + (l.map g).sum
  | [], b, _, _, _ => by simp
  | x :: l, b, h, h1, h2 => by
    have hx := h x (by simp)
    have e : m * ((l.length + 1 : Nat) : Int) = m * (l.length : Int) + m := by rw [Int.natCast_add, Int.mul_add]; simp
    have hp : 0 ≤ m * (l.length : Int) := Int.mul_nonneg h0 (by omega)
    simp only [List.length_cons, e] at h1 h2
    simp only [List.foldl_cons, List.map_cons, List.sum_cons]
    rw [w64 (x := b + g x) (by omega) (by omega), foldSum g m h0 l (b + g x) (fun y hy => h y (by simp [hy])) (by omega) (by omega)]
    omega
theorem sum_bnd {α : Type} (g : α → Int) (m : Int) (h0 : 0 ≤ m) : ∀ (l : List α), (∀ x ∈ l, 0 ≤ g x ∧ g x ≤ m) → 0 ≤ (l.map g).sum ∧ (l.map g).sum ≤ m * (l.length : Int)
  | [], _ => by simp
  | x :: l, h => by
    have hx := h x (by simp)
    have ih := sum_bnd g m h0 l fun y hy => h y (by simp [hy])
    have e : m * ((l.length + 1 : Nat) : Int) = m * (l.length : Int) + m := by rw [Int.natCast_add, Int.mul_add]; simp
    simp only [List.map_cons, List.sum_cons, List.length_cons, e]
    omega
theorem sum_le {α : Type} (g h : α → Int) : ∀ (l : List α), (∀ x ∈ l, g x ≤ h x) → (l.map g).sum ≤ (l.map h).sum
  | [], _ => by simp
  | x :: l, hl => by
    have hx := hl x (by simp)
    have ih := sum_le g h l fun y hy => hl y (by simp [hy])
    simp only [List.map_cons, List.sum_cons]
    omega
theorem sum_add {α : Type} (g h : α → Int) : ∀ (l : List α), (l.map fun x => g x + h x).sum = (l.map g).sum + (l.map h).sum
  | [] => by simp
  | x :: l => by
    have ih := sum_add g h l
    simp only [List.map_cons, List.sum_cons, ih]
    omega
theorem sum_filter (p : Nat → Bool) (g : Nat → Int) : ∀ (l : List Nat), ((l.filter p).map g).sum = (l.map fun t => if p t then g t else 0).sum
  | [] => by simp
  | x :: l => by
    have ih := sum_filter p g l
    cases hp : p x <;> simp [List.filter_cons, hp, ih]
theorem sum_at {α : Type} (g : α → Int) : ∀ (l : List α) (m : Nat), l.length ≤ m → ((List.range m).map fun i => (l[i]?.map g).getD 0).sum = (l.map g).sum
  | [], m, _ => by
    have : ∀ k : List Nat, (k.map fun i => (([] : List α)[i]?.map g).getD 0).sum = 0 := by
      intro k
      induction k with
      | nil => simp
      | cons a k ih => simpa using ih
    simpa using this (List.range m)
  | x :: l, 0, h => by simp at h
  | x :: l, m + 1, h => by
    have ih := sum_at g l m (by simpa using h)
    rw [List.range_succ_eq_map, List.map_cons, List.map_map, List.sum_cons, List.map_cons, List.sum_cons, ← ih]
    simp
    rfl
theorem asc_len : ∀ (l : List Nat) (a b : Nat), l.Pairwise (· < ·) → (∀ t ∈ l, a ≤ t ∧ t < b) → a + l.length ≤ b ∨ l = []
  | [], a, b, _, _ => .inr rfl
  | x :: l, a, b, hp, h => by
    obtain ⟨h1, h2⟩ := List.pairwise_cons.1 hp
    have hx := h x (by simp)
    rcases asc_len l (x + 1) b h2 (fun t ht => ⟨h1 t ht, (h t (by simp [ht])).2⟩) with h3 | h3
    · left; simp; omega
    · subst h3; left; simp; omega
end Go.Proofs.Ytkpihepaaiofgaa
end
section
namespace Go.Proofs.Ytkpihepaaiofgaa
open Go.RowKit
set_option linter.unusedVariables false
set_option linter.unusedSimpArgs false
set_option maxRecDepth 10000
set_option maxHeartbeats 4000000

def GoodUses (u : List Int) (k : Int) : Prop := (u.length : Int) ≤ k ∧ u.Pairwise (· < ·) ∧ ∀ x ∈ u, 0 ≤ x ∧ x < k
def GoodFund (c : Int) (f : T_api_Fund) : Prop := 0 ≤ f.Day ∧ f.Day ≤ 9 ∧ f.Day ≤ f.Until ∧ f.Until ≤ 20 ∧ 0 ≤ f.Amount ∧ f.Amount ≤ 2 * c ∧ GoodUses f.Uses 3
def GoodBill (c : Int) (b : T_api_Bill) : Prop := 3 ≤ b.Day ∧ b.Day ≤ 12 ∧ 0 ≤ b.Use ∧ b.Use ≤ 2 ∧ 0 ≤ b.Amount ∧ b.Amount ≤ c
structure GoodL (nf nb : Nat) (c : Int) (L : T_api_Ledger) : Prop where
  nf : L.Funds.length ≤ nf
  nb : L.Bills.length ≤ nb
  fund : ∀ f ∈ L.Funds, GoodFund c f
  bill : ∀ b ∈ L.Bills, GoodBill c b
theorem goodUses_push {u : List Int} {k : Int} (h : GoodUses u k) (hk : 0 ≤ k) : GoodUses (u ++ [k]) (k + 1) := by
  obtain ⟨h1, h2, h3⟩ := h
  refine ⟨by simp; omega, ?_, ?_⟩
  · rw [List.pairwise_append]
    refine ⟨h2, by simp, fun a ha b hb => ?_⟩
    have := h3 a ha
    simp at hb
    omega
  · intro x hx
    rcases List.mem_append.1 hx with hx | hx
    · have := h3 x hx; omega
    · simp at hx; omega
theorem goodUses_up {u : List Int} {k : Int} (h : GoodUses u k) : GoodUses u (k + 1) := by
  obtain ⟨h1, h2, h3⟩ := h
  exact ⟨by omega, h2, fun x hx => by have := h3 x hx; omega⟩

theorem uses_l {ρ : Type} (N : Nat) (hN : 1000 < N) (T : Option ρ → Prop) (K : Int → List Int → Option ρ) (hK : ∀ b u, GoodUses u 3 → T (K b u)) (b0 : Int) : T (loop3 (fun rec_30 (use_27 : Int) (b_28 : Int) (b_29 : List Int) => (bif (decide (use_27 < 3)) then (letJ (fun (b_34 : Int) (b_35 : List Int) => (rec_30 (IntKind.i64.wrap (use_27 + 1)) b_34 b_35)) (fun k_36 => ((p_bk_Drum_Rare N (⟨b_28⟩ : T_bk_Drum) 3).bind fun r_39 => (bif (!r_39.1) then ((pushI b_29 ([use_27] : List Int)).bind fun l_41 => (k_36 r_39.2.beat_ l_41)) else (k_36 r_39.2.beat_ b_29))))) else (K b_28 b_29))) N 0 b0 []) := by
  refine loop3_T T (fun k b (u : List Int) => 0 ≤ k ∧ k ≤ 3 ∧ GoodUses u k) (fun k b u => 3 - k.toNat) ?_ N 0 _ [] ⟨by omega, by omega, by simp, by simp, by simp⟩ (by omega)
  rintro rec2 k b2 us ⟨k0, k3, hus⟩ ih2
  by_cases hk : k < 3
  · rw [show decide (k < 3) = true from decide_eq_true hk, cond_true, letJ_eq]
    obtain ⟨q, d6, e⟩ := rare_p N ⟨b2⟩ 3 (by omega)
    rw [e, Option.bind_some]; clear e
    have hln := hus.1
    have hw : IntKind.i64.wrap (k + 1) = k + 1 := w64 (by omega) (by omega)
    have hpu : pushI us [k] = some (us ++ [k]) := pushI_ok (by simp; omega)
    cases q with
    | true =>
      simp only [Bool.not_true, cond_false, hw]
      exact ih2 _ _ _ ⟨by omega, by omega, goodUses_up hus⟩ (by omega)
    | false =>
      simp only [Bool.not_false, cond_true, hw, hpu, Option.bind_some]
      exact ih2 _ _ _ ⟨by omega, by omega, goodUses_push hus k0⟩ (by omega)
  · rw [show decide (k < 3) = false from decide_eq_false hk, cond_false]
    have hk3 : k = 3 := by omega
    subst hk3
    exact hK _ _ hus
theorem funds_l {ρ : Type} (N : Nat) (hN : 1000 < N) (nf : Nat) (c : Int) (hnf : nf ≤ 100) (hc0 : 0 ≤ c) (hc : c ≤ 1000000) (T : Option ρ → Prop) (K : Int → List T_api_Fund → Option ρ) (hK : ∀ b l, l.length ≤ nf → (∀ f ∈ l, GoodFund c f) → T (K b l)) (r b0 : Int) (r0 : 0 ≤ r) (r1 : r ≤ (nf : Int)) : T (loop3 (fun rec_14 (i_11 : Int) (b_12 : Int) (b_13 : List T_api_Fund) => (bif (decide (i_11 > 0)) then ((p_bk_Drum_Roll N (⟨b_12⟩ : T_bk_Drum) 10).bind fun r_18 => ((p_bk_Drum_Any N r_18.2 [(IntKind.i64.wrap (r_18.1 + 4)), 20]).bind fun r_19 => ((p_bk_Drum_Mid N r_19.2 r_18.1 r_19.1).bind fun r_20 => ((p_bk_Drum_Roll N r_20.2 (IntKind.i64.wrap ((IntKind.i64.wrap (2 * c)) + 1))).bind fun r_21 => (letJ (fun (b_22 : Int) (b_23 : List Int) => ((pushI b_13 ([(⟨r_18.1, r_20.1, r_21.1, b_23⟩ : T_api_Fund)] : List T_api_Fund)).bind fun l_42 => (rec_14 (IntKind.i64.wrap (i_11 - 1)) b_22 l_42))) (fun k_24 => (loop3 (fun rec_30 (use_27 : Int) (b_28 : Int) (b_29 : List Int) => (bif (decide (use_27 < 3)) then (letJ (fun (b_34 : Int) (b_35 : List Int) => (rec_30 (IntKind.i64.wrap (use_27 + 1)) b_34 b_35)) (fun k_36 => ((p_bk_Drum_Rare N (⟨b_28⟩ : T_bk_Drum) 3).bind fun r_39 => (bif (!r_39.1) then ((pushI b_29 ([use_27] : List Int)).bind fun l_41 => (k_36 r_39.2.beat_ l_41)) else (k_36 r_39.2.beat_ b_29))))) else (k_24 b_28 b_29))) N 0 r_21.2.beat_ []))))))) else (K b_12 b_13))) N r b0 []) := by
  refine loop3_T T (fun i b (l : List T_api_Fund) => 0 ≤ i ∧ (l.length : Int) + i ≤ (nf : Int) ∧ ∀ f ∈ l, GoodFund c f) (fun i b l => i.toNat) ?_ N r _ [] ⟨r0, by simp; omega, by simp⟩ (by omega)
  rintro rec i b l ⟨i0, hi, hl⟩ ih
  by_cases hp : i > 0
  · rw [show decide (i > 0) = true from decide_eq_true hp, cond_true]
    obtain ⟨day, d2, e, h1, h2⟩ := roll_le N ⟨b⟩ 10 (by omega) (by omega)
    rw [e, Option.bind_some]; clear e
    dsimp only
    rw [w64 (x := day + 4) (by omega) (by omega)]
    obtain ⟨u, d3, e, hu⟩ := any_p N d2 [day + 4, 20] (by simp) (by simp)
    rw [e, Option.bind_some]; clear e
    dsimp only
    have hu : u = day + 4 ∨ u = 20 := by simpa using hu
    obtain ⟨til, d4, e, t0, t1, _⟩ := mid_p N d3 day u (by omega) (by omega) (by omega) (by omega)
    have t1 := t1 (by omega)
    rw [e, Option.bind_some]; clear e
    dsimp only
    rw [w64 (x := 2 * c) (by omega) (by omega), w64 (x := 2 * c + 1) (by omega) (by omega)]
    obtain ⟨am, d5, e, a0, a1⟩ := roll_le N d4 (2 * c + 1) (by omega) (by omega)
    rw [e, Option.bind_some]; clear e
    dsimp only
    rw [letJ_eq]
    refine uses_l N hN T _ (fun b3 us hus => ?_) _
    have hpu : pushI l [(⟨day, til, am, us⟩ : T_api_Fund)] = some (l ++ [⟨day, til, am, us⟩]) := pushI_ok (by simp; omega)
    rw [hpu, Option.bind_some, w64 (x := i - 1) (by omega) (by omega)]
    refine ih _ _ _ ⟨by omega, by simp; omega, ?_⟩ (by omega)
    intro f hf
    rcases List.mem_append.1 hf with hf | hf
    · exact hl f hf
    · obtain rfl := List.mem_singleton.1 hf
      refine ⟨?_, ?_, ?_, ?_, ?_, ?_, hus⟩ <;> dsimp only <;> omega
  · rw [show decide (i > 0) = false from decide_eq_false hp, cond_false]
    exact hK _ _ (by omega) hl
theorem bills_l {ρ : Type} (N : Nat) (hN : 1000 < N) (nb : Nat) (c : Int) (hnb : nb ≤ 100) (hc0 : 0 ≤ c) (hc : c ≤ 1000000) (T : Option ρ → Prop) (K : Int → List T_api_Bill → Option ρ) (hK : ∀ b l, l.length ≤ nb → (∀ f ∈ l, GoodBill c f) → T (K b l)) (r b0 : Int) (r0 : 0 ≤ r) (r1 : r ≤ (nb : Int)) : T (loop3 (fun rec_52 (i_49 : Int) (b_50 : Int) (b_51 : List T_api_Bill) => (bif (decide (i_49 > 0)) then ((p_bk_Drum_Mid N (⟨b_50⟩ : T_bk_Drum) 3 12).bind fun r_56 => ((p_bk_Drum_Roll N r_56.2 3).bind fun r_57 => ((p_bk_Drum_Roll N r_57.2 (IntKind.i64.wrap (c + 1))).bind fun r_58 => ((pushI b_51 ([(⟨r_56.1, r_57.1, r_58.1⟩ : T_api_Bill)] : List T_api_Bill)).bind fun l_60 => (rec_52 (IntKind.i64.wrap (i_49 - 1)) r_58.2.beat_ l_60))))) else (K b_50 b_51))) N r b0 []) := by
  refine loop3_T T (fun i b (l : List T_api_Bill) => 0 ≤ i ∧ (l.length : Int) + i ≤ (nb : Int) ∧ ∀ f ∈ l, GoodBill c f) (fun i b l => i.toNat) ?_ N r _ [] ⟨r0, by simp; omega, by simp⟩ (by omega)
  rintro rec3 j b3 m ⟨j0, hj, hm⟩ ih3
  by_cases hq : j > 0
  · rw [show decide (j > 0) = true from decide_eq_true hq, cond_true]
    obtain ⟨day, d8, e, h1, h2, _⟩ := mid_p N ⟨b3⟩ 3 12 (by omega) (by omega) (by omega) (by omega)
    have h2 := h2 (by omega)
    rw [e, Option.bind_some]; clear e
    dsimp only
    obtain ⟨use, d9, e, u0, u1⟩ := roll_le N d8 3 (by omega) (by omega)
    rw [e, Option.bind_some]; clear e
    dsimp only
    rw [w64 (x := c + 1) (by omega) (by omega)]
    obtain ⟨am, d10, e, a0, a1⟩ := roll_le N d9 (c + 1) (by omega) (by omega)
    rw [e, Option.bind_some]; clear e
    dsimp only
    have hpu : pushI m [(⟨day, use, am⟩ : T_api_Bill)] = some (m ++ [⟨day, use, am⟩]) := pushI_ok (by simp; omega)
    rw [hpu, Option.bind_some, w64 (x := j - 1) (by omega) (by omega)]
    refine ih3 _ _ _ ⟨by omega, by simp; omega, ?_⟩ (by omega)
    intro f hf
    rcases List.mem_append.1 hf with hf | hf
    · exact hm f hf
    · obtain rfl := List.mem_singleton.1 hf
      refine ⟨?_, ?_, ?_, ?_, ?_, ?_⟩ <;> dsimp only <;> omega
  · rw [show decide (j > 0) = false from decide_eq_false hq, cond_false]
    exact hK _ _ (by omega) hm
theorem ledgerOf_p (N : Nat) (hN : 1000 < N) (d : T_bk_Drum) (nf nb : Nat) (c : Int) (hnf : nf ≤ 100) (hnb : nb ≤ 100) (hc0 : 0 ≤ c) (hc : c ≤ 1000000) : ∃ L d', p_bk_LedgerOf N d (nf : Int) (nb : Int) c = some (L, d') ∧ GoodL nf nb c L := by
  unfold p_bk_LedgerOf
  rw [w64 (x := (nf : Int) + 1) (by omega) (by omega)]
  obtain ⟨r, d1, e, r0, r1⟩ := roll_le N d ((nf : Int) + 1) (by omega) (by omega)
  rw [e, Option.bind_some]; clear e
  dsimp only
  rw [letJ_eq]
  refine funds_l N hN nf c hnf hc0 hc (fun x => ∃ L d', x = some (L, d') ∧ GoodL nf nb c L) _ (fun b fs h1 h2 => ?_) r _ r0 (by omega)
  rw [w64 (x := (nb : Int) + 1) (by omega) (by omega)]
  obtain ⟨r2, d7, e, s0, s1⟩ := roll_le N ⟨b⟩ ((nb : Int) + 1) (by omega) (by omega)
  rw [e, Option.bind_some]; clear e
  dsimp only
  rw [letJ_eq]
  refine bills_l N hN nb c hnb hc0 hc (fun x => ∃ L d', x = some (L, d') ∧ GoodL nf nb c L) _ (fun b bs h3 h4 => ?_) r2 _ s0 (by omega)
  exact ⟨_, _, rfl, h1, h3, h2, h4⟩

theorem isDate_p (N : Nat) (n : Int) (h0 : 0 ≤ n) (h1 : n ≤ 3650) : p_coin_isDate N n = some true := by
  unfold p_coin_isDate p_coin_within
  simp [show n ≥ 0 from h0, h1]
theorem isUse_p (N : Nat) (n : Int) (h0 : 0 ≤ n) (h1 : n ≤ 7) : p_coin_isUse N n = some true := by
  unfold p_coin_isUse p_coin_within
  simp [show n ≥ 0 from h0, h1]
theorem isAmount_p (N : Nat) (n : Int) (h0 : 0 ≤ n) (h1 : n ≤ 1000000000) : p_coin_isAmount N n = some true := by
  unfold p_coin_isAmount p_coin_within
  simp [show n ≥ 0 from h0, h1]
theorem checkUses_p (N : Nat) (hN : 1000 < N) (u : List Int) (h : GoodUses u 3) : p_coin_checkUses N u = some 0 := by
  obtain ⟨h1, h2, h3⟩ := h
  unfold p_coin_checkUses
  simp only [letJ_eq]
  refine st1 u.length _ (some 0) ?_ ?_ N 0 (by omega) (by omega)
  · intro rec
    simp only [ltE, cond_false]
  · intro rec i hi
    have hx : u[i]? = some u[i] := List.getElem?_eq_getElem hi
    have hb := h3 _ (List.getElem_mem hi)
    simp only [ltD hi, cond_true, getD_at hx, Option.bind_some, isUse_p N _ hb.1 (by omega), Bool.not_true, cond_false, nadd1 i (by omega)]
    by_cases h0 : i = 0
    · subst h0
      simp
    · have hlt : i - 1 < u.length := by omega
      have hy : u[i - 1]? = some u[i - 1] := List.getElem?_eq_getElem hlt
      have hlt2 := (List.pairwise_iff_getElem.1 h2) (i - 1) i hlt hi (by omega)
      rw [show decide ((i : Int) > 0) = true from decide_eq_true (by omega), cond_true, w64 (x := (i : Int) - 1) (by omega) (by omega), show (i : Int) - 1 = ((i - 1 : Nat) : Int) by omega, getD_at hy, Option.bind_some, show decide (u[i] ≤ u[i - 1]) = false from decide_eq_false (by omega), cond_false]
theorem checkFund_p (N : Nat) (hN : 1000 < N) (c : Int) (hc : c ≤ 1000000) (f : T_api_Fund) (h : GoodFund c f) : p_coin_checkFund N f = some 0 := by
  obtain ⟨h1, h2, h3, h4, h5, h6, h7⟩ := h
  have hl := h7.1
  unfold p_coin_checkFund
  simp only [letJ_eq]
  simp only [isDate_p N f.Day h1 (by omega), isDate_p N f.Until (by omega) (by omega), isAmount_p N f.Amount h5 (by omega), checkUses_p N hN _ h7, Option.bind_some, Bool.not_true, cond_false]
  rw [show decide (f.Day > f.Until) = false from decide_eq_false (by omega), cond_false, show decide (((f.Uses.length : Nat) : Int) > 8) = false from decide_eq_false (by omega), cond_false]
theorem check_p (N : Nat) (hN : 1000 < N) (nf nb : Nat) (c : Int) (hnf : nf ≤ 8) (hnb : nb ≤ 8) (hc : c ≤ 1000000) (L : T_api_Ledger) (h : GoodL nf nb c L) : p_coin_Check N L = some 0 := by
  have g1 := h.nf; have g2 := h.nb
  unfold p_coin_Check
  simp only [letJ_eq]
  rw [show decide (((L.Funds.length : Nat) : Int) > 8) = false from decide_eq_false (by omega), cond_false]
  refine st1 L.Funds.length _ (some 0) ?_ ?_ N 0 (by omega) (by omega)
  · intro rec
    simp only [ltE, cond_false]
    rw [show decide (((L.Bills.length : Nat) : Int) > 8) = false from decide_eq_false (by omega), cond_false]
    refine st1 L.Bills.length _ (some 0) ?_ ?_ N 0 (by omega) (by omega)
    · intro rec
      simp only [ltE, cond_false]
    · intro rec i hi
      have hx : L.Bills[i]? = some L.Bills[i] := List.getElem?_eq_getElem hi
      obtain ⟨b1, b2, b3, b4, b5, b6⟩ := h.bill _ (List.getElem_mem hi)
      simp only [ltD hi, cond_true, getD_at hx, Option.bind_some, isDate_p N _ (show 0 ≤ L.Bills[i].Day by omega) (by omega), isUse_p N _ b3 (by omega), isAmount_p N _ b5 (by omega), Bool.not_true, cond_false, nadd1 i (by omega)]
  · intro rec i hi
    have hx : L.Funds[i]? = some L.Funds[i] := List.getElem?_eq_getElem hi
    simp only [ltD hi, cond_true, getD_at hx, Option.bind_some, checkFund_p N hN c hc _ (h.fund _ (List.getElem_mem hi)), bne_self_eq_false, cond_false, nadd1 i (by omega)]

def come (L : T_api_Ledger) (day : Int) : Int := (L.Funds.map fun f => if f.Day > day then 0 else f.Amount).sum
def paid (L : T_api_Ledger) (day : Int) : Int := (L.Bills.map fun b => if b.Day > day then 0 else b.Amount).sum
theorem comes_p (N : Nat) (hN : 1000 < N) (nf nb : Nat) (c : Int) (hnf : nf ≤ 8) (hnb : nb ≤ 8) (hc0 : 0 ≤ c) (hc : c ≤ 1000000) (L : T_api_Ledger) (h : GoodL nf nb c L) (day : Int) : p_coin_sum_api_Fund_api_Fund_1r_coin_Balance_1 N L.Funds day = some (come L day) := by
  have g1 := h.nf
  unfold p_coin_sum_api_Fund_api_Fund_1r_coin_Balance_1
  simp only [letJ_eq]
  rw [foldZ L.Funds (fun b f => IntKind.i64.wrap (b + (if f.Day > day then 0 else f.Amount))) (fun b => some b) (by omega) (fun rec b => by simp only [ltE, cond_false]) (fun rec i x b hx hi => by
    have e : p_coin_Balance_1 N x day = some (if x.Day > day then 0 else x.Amount) := by
      unfold p_coin_Balance_1 p_coin_amountUntil
      by_cases hd : x.Day > day <;> simp [hd]
    simp only [ltD hi, cond_true, getD_at hx, Option.bind_some, e, nadd1 i (by omega)])]
  rw [foldSum (fun f : T_api_Fund => if f.Day > day then 0 else f.Amount) 2000000 (by omega) L.Funds 0 (fun f hf => ?_) (by omega) (by omega)]
  · simp [come]
  · obtain ⟨_, _, _, _, h5, h6, _⟩ := h.fund f hf
    split <;> omega
theorem pays_p (N : Nat) (hN : 1000 < N) (nf nb : Nat) (c : Int) (hnf : nf ≤ 8) (hnb : nb ≤ 8) (hc0 : 0 ≤ c) (hc : c ≤ 1000000) (L : T_api_Ledger) (h : GoodL nf nb c L) (day : Int) : p_coin_sum_api_Bill_api_Bill_1r_coin_Balance_2 N L.Bills day = some (paid L day) := by
  have g1 := h.nb
  unfold p_coin_sum_api_Bill_api_Bill_1r_coin_Balance_2
  simp only [letJ_eq]
  rw [foldZ L.Bills (fun b f => IntKind.i64.wrap (b + (if f.Day > day then 0 else f.Amount))) (fun b => some b) (by omega) (fun rec b => by simp only [ltE, cond_false]) (fun rec i x b hx hi => by
    have e : p_coin_Balance_2 N x day = some (if x.Day > day then 0 else x.Amount) := by
      unfold p_coin_Balance_2 p_coin_amountUntil
      by_cases hd : x.Day > day <;> simp [hd]
    simp only [ltD hi, cond_true, getD_at hx, Option.bind_some, e, nadd1 i (by omega)])]
  rw [foldSum (fun f : T_api_Bill => if f.Day > day then 0 else f.Amount) 2000000 (by omega) L.Bills 0 (fun f hf => ?_) (by omega) (by omega)]
  · simp [paid]
  · obtain ⟨_, _, _, _, h5, h6⟩ := h.bill f hf
    split <;> omega
theorem come_bd {nf nb : Nat} {c : Int} (hnf : nf ≤ 8) (hc0 : 0 ≤ c) (hc : c ≤ 1000000) {L : T_api_Ledger} (h : GoodL nf nb c L) (day : Int) : 0 ≤ come L day ∧ come L day ≤ 16000000 := by
  have g1 := h.nf
  have := sum_bnd (fun f : T_api_Fund => if f.Day > day then 0 else f.Amount) 2000000 (by omega) L.Funds (fun f hf => by
    obtain ⟨_, _, _, _, h5, h6, _⟩ := h.fund f hf
    split <;> omega)
  unfold come
  omega
theorem paid_bd {nf nb : Nat} {c : Int} (hnb : nb ≤ 8) (hc0 : 0 ≤ c) (hc : c ≤ 1000000) {L : T_api_Ledger} (h : GoodL nf nb c L) (day : Int) : 0 ≤ paid L day ∧ paid L day ≤ 16000000 := by
  have g1 := h.nb
  have := sum_bnd (fun f : T_api_Bill => if f.Day > day then 0 else f.Amount) 2000000 (by omega) L.Bills (fun f hf => by
    obtain ⟨_, _, _, _, h5, h6⟩ := h.bill f hf
    split <;> omega)
  unfold paid
  omega
theorem balance_p (N : Nat) (hN : 1000 < N) (nf nb : Nat) (c : Int) (hnf : nf ≤ 8) (hnb : nb ≤ 8) (hc0 : 0 ≤ c) (hc : c ≤ 1000000) (L : T_api_Ledger) (h : GoodL nf nb c L) (day : Int) (h0 : 0 ≤ day) (h1 : day ≤ 3650) : p_coin_Balance N L day = some (come L day - paid L day, 0) := by
  unfold p_coin_Balance
  have b1 := come_bd hnf hc0 hc h day
  have b2 := paid_bd hnb hc0 hc h day
  simp only [check_p N hN nf nb c hnf hnb hc L h, Option.bind_some, bne_self_eq_false, cond_false, isDate_p N day h0 h1, Bool.not_true, show p_slices_Values_api_Fund_api_Fund N L.Funds = some L.Funds from rfl, show p_slices_Values_api_Bill_api_Bill N L.Bills = some L.Bills from rfl, comes_p N hN nf nb c hnf hnb hc0 hc L h day, pays_p N hN nf nb c hnf hnb hc0 hc L h day, w64 (x := come L day - paid L day) (by omega) (by omega)]
end Go.Proofs.Ytkpihepaaiofgaa
end
section
namespace Go.Proofs.Ytkpihepaaiofgaa
open Go.RowKit
set_option linter.unusedVariables false
set_option linter.unusedSimpArgs false
set_option maxRecDepth 10000
set_option maxHeartbeats 4000000

theorem numT {B ρ : Type} (T : Option ρ → Prop) (P : Nat → Prop) (f : B → Nat → B) (r : B) {body : (Int → B → Option ρ) → Int → B → Option ρ} (hend : ∀ rec, T (body rec 0 r)) (hstep : ∀ rec (s t : Nat) b, (∀ N, p_math_bits_TrailingZeros8 N (s : Int) = some (t : Int)) → IntKind.u8.wrap (((BitVec.ofInt (IntKind.bits .u8) (s : Int) &&& BitVec.ofInt (IntKind.bits .u8) (IntKind.u8.wrap ((s : Int) - 1))).toNat : Nat) : Int) = ((s &&& (s - 1) : Nat) : Int) → (((s : Int) != 0) = true) → P t → body rec (s : Int) b = rec ((s &&& (s - 1) : Nat) : Int) (f b t)) : ∀ (N s : Nat) (b : B), s < 256 → (∀ t ∈ bits s, P t) → s < N → (bits s).foldl f b = r → T (loop2 body N (s : Int) b)
  | 0, s, b, _, _, h, _ => absurd h (Nat.not_lt_zero _)
  | N + 1, s, b, hs, hP, hN, hr => by
    show T (body (loop2 body N) (s : Int) b)
    by_cases h0 : s = 0
    · subst h0
      have : b = r := hr
      subst this
      exact hend _
    · obtain ⟨t, _, e2, e3⟩ := tz_p 0 s h0 hs
      have e1 : ∀ N, p_math_bits_TrailingZeros8 N (s : Int) = some (t : Int) := fun N => by
        obtain ⟨t', g1, g2, _⟩ := tz_p N s h0 hs
        rw [g1]
        rw [e2] at g2
        injection g2 with g2
        rw [g2]
      rw [hstep _ s t b e1 e3 (by simp; omega) (hP t (by rw [e2]; simp))]
      refine numT T P f r hend hstep N _ _ (by have := low_lt s h0; omega) (fun u hu => hP u (by rw [e2]; simp [hu])) (by have := low_lt s h0; omega) ?_
      rw [e2] at hr
      exact hr

theorem has_all : (List.range 256).all (fun s => (List.range 8).all fun n => decide ((IntKind.u8.wrap (((BitVec.ofInt (IntKind.bits .u8) (Int.fdiv (s : Int) ((2 : Int) ^ (min (Int.toNat (n : Int)) (IntKind.bits .u8)))) &&& BitVec.ofInt (IntKind.bits .u8) 1).toNat : Nat) : Int) == 1) = s.testBit n)) = true := by kernel_rfl
theorem has_p (N s n : Nat) (hs : s < 256) (hn : n < 8) : p_coin_set_has N (s : Int) (n : Int) = some (s.testBit n) := by
  unfold p_coin_set_has
  have h1 := List.all_eq_true.1 (List.all_eq_true.1 has_all s (by simpa using hs)) n (by simpa using hn)
  simp only [decide_eq_true_eq] at h1
  have h2 : nnI (n : Int) = some () := by unfold nnI; rw [if_neg (by omega)]
  rw [h2]
  simp only [Option.bind_some]
  rw [h1]
def can (F : T_api_Fund) (B : T_api_Bill) : Bool := decide (F.Day ≤ B.Day ∧ B.Day ≤ F.Until ∧ B.Use ∈ F.Uses)
theorem usesOf_p (N : Nat) (hN : 1000 < N) (F : T_api_Fund) (h : GoodUses F.Uses 3) : p_coin_usesOf N F = some ((addAll 0 (F.Uses.map Int.toNat) : Nat) : Int) := by
  obtain ⟨h1, h2, h3⟩ := h
  have e : p_coin_each_coin_set_add N F.Uses 0 = some ((addAll 0 (F.Uses.map Int.toNat) : Nat) : Int) := by
   unfold p_coin_each_coin_set_add
   simp only [letJ_eq]
   exact (st2z F.Uses.length (fun i => ((addAll 0 ((F.Uses.take i).map Int.toNat) : Nat) : Int)) (r := some ((addAll 0 (F.Uses.map Int.toNat) : Nat) : Int)) rfl (by omega) (fun rec => by simp only [ltE, cond_false, List.take_length]) (fun rec i hi => by
    have hx : F.Uses[i]? = some F.Uses[i] := List.getElem?_eq_getElem hi
    have hb := h3 _ (List.getElem_mem hi)
    obtain ⟨n, hn⟩ : ∃ n : Nat, F.Uses[i] = (n : Int) := ⟨F.Uses[i].toNat, by omega⟩
    have hlt : addAll 0 ((F.Uses.take i).map Int.toNat) < 256 := addAll_lt _ _ (by omega) fun t ht => by
      obtain ⟨x, hx, rfl⟩ := List.mem_map.1 ht
      have := h3 x (List.mem_of_mem_take hx)
      omega
    simp only [ltD hi, cond_true, getD_at hx, Option.bind_some, nadd1 i (by omega)]
    rw [hn, add_p N _ n hlt (by omega), Option.bind_some]
    congr 1
    rw [List.take_add_one, hx, hn, List.map_append]
    unfold addAll
    rw [List.foldl_append]
    rfl))
  unfold p_coin_usesOf
  rw [e]
  rfl
theorem canPay_p (N : Nat) (hN : 1000 < N) (c : Int) (F : T_api_Fund) (B : T_api_Bill) (hF : GoodFund c F) (hB : GoodBill c B) : p_coin_canPay N F B = some (can F B) := by
  obtain ⟨h1, h2, h3, h4, h5, h6, h7⟩ := hF
  obtain ⟨b1, b2, b3, b4, b5, b6⟩ := hB
  unfold p_coin_canPay p_coin_within
  by_cases c1 : F.Day ≤ B.Day
  · by_cases c2 : B.Day ≤ F.Until
    · rw [show decide (B.Day ≥ F.Day) = true from decide_eq_true c1, cond_true, Option.bind_some, show decide (B.Day ≤ F.Until) = true from decide_eq_true c2, cond_true, usesOf_p N hN F h7, Option.bind_some]
      obtain ⟨n, hn⟩ : ∃ n : Nat, B.Use = (n : Int) := ⟨B.Use.toNat, by omega⟩
      have hlt : addAll 0 (F.Uses.map Int.toNat) < 256 := addAll_lt _ _ (by omega) fun t ht => by
        obtain ⟨x, hx, rfl⟩ := List.mem_map.1 ht
        have := h7.2.2 x hx
        omega
      rw [hn, has_p N _ n hlt (by omega), Option.bind_some, addAll_bit]
      unfold can
      congr 1
      simp only [Nat.zero_testBit, Bool.false_or]
      apply decide_eq_decide.2
      rw [hn]
      constructor
      · intro h
        obtain ⟨x, hx, e⟩ := List.mem_map.1 h
        have := h7.2.2 x hx
        have : x = (n : Int) := by omega
        subst this
        exact ⟨c1, c2, hx⟩
      · intro h
        exact List.mem_map.2 ⟨_, h.2.2, by simp⟩
    · rw [show decide (B.Day ≥ F.Day) = true from decide_eq_true c1, cond_true, Option.bind_some, show decide (B.Day ≤ F.Until) = false from decide_eq_false c2, cond_false]
      unfold can
      rw [decide_eq_false (by omega)]
  · rw [show decide (B.Day ≥ F.Day) = false from decide_eq_false c1, cond_false, Option.bind_some, cond_false]
    unfold can
    rw [decide_eq_false (by omega)]
def GoodX (L : T_api_Ledger) (B : T_api_Bill) (x : T_coin_claim) : Prop := x.amount_ = B.Amount ∧ ∃ s : Nat, x.payers_ = (s : Int) ∧ s < 256 ∧ ∀ f : Nat, s.testBit f = true ↔ ∃ F, L.Funds[f]? = some F ∧ can F B = true
def GoodC (L : T_api_Ledger) (cs : List T_coin_claim) : Prop := cs.length = L.Bills.length ∧ ∀ (i : Nat) (B : T_api_Bill), L.Bills[i]? = some B → ∃ x : T_coin_claim, cs[i]? = some x ∧ GoodX L B x
theorem claimsOf_p (N : Nat) (hN : 1000 < N) (nf nb : Nat) (c : Int) (hnf : nf ≤ 8) (hnb : nb ≤ 8) (L : T_api_Ledger) (h : GoodL nf nb c L) : ∃ cs, p_coin_claimsOf N L = some cs ∧ GoodC L cs := by
  have g1 := h.nf; have g2 := h.nb
  unfold p_coin_claimsOf
  simp only [letJ_eq]
  refine invZ' L.Bills (fun x => ∃ cs, x = some cs ∧ GoodC L cs) (fun i (cs : List T_coin_claim) => cs.length = i ∧ ∀ (k : Nat) (B : T_api_Bill), k < i → L.Bills[k]? = some B → ∃ x : T_coin_claim, cs[k]? = some x ∧ GoodX L B x) (by omega) ⟨rfl, fun k B hk => by omega⟩ ?_ ?_
  · rintro rec cs ⟨h1, h2⟩
    simp only [ltE, cond_false]
    exact ⟨cs, rfl, h1, fun i B hB => h2 i B (List.getElem?_eq_some_iff.1 hB).1 hB⟩
  · rintro rec i B cs hB hi ⟨h1, h2⟩ ih
    simp only [ltD hi, cond_true, getD_at hB, Option.bind_some]
    have hgB := h.bill B (List.mem_of_getElem? hB)
    refine invZ L.Funds (fun x => ∃ cs, x = some cs ∧ GoodC L cs) (fun j (b : Int) => ∃ s : Nat, b = (s : Int) ∧ s < 256 ∧ ∀ f : Nat, s.testBit f = true ↔ f < j ∧ ∃ F, L.Funds[f]? = some F ∧ can F B = true) (by omega) ⟨0, rfl, by omega, fun f => by simp⟩ ?_ ?_
    · rintro rec2 b ⟨s, rfl, hs, hb⟩
      simp only [ltE, cond_false]
      rw [pushI_ok (by simp; omega), Option.bind_some, nadd1 i (by omega)]
      refine ih _ ⟨by simp; omega, fun k B' hk hB' => ?_⟩
      by_cases hlt : k < i
      · obtain ⟨x, e, g⟩ := h2 k B' hlt hB'
        exact ⟨x, by rw [List.getElem?_append_left (by omega), e], g⟩
      · have : k = i := by omega
        subst this
        rw [hB] at hB'
        injection hB' with hB'
        subst hB'
        refine ⟨_, by rw [← h1, List.getElem?_concat_length], rfl, s, rfl, hs, fun f => (hb f).trans ⟨fun q => q.2, fun q => ⟨?_, q⟩⟩⟩
        obtain ⟨F, hF, _⟩ := q
        exact (List.getElem?_eq_some_iff.1 hF).1
    · rintro rec2 j F b hF hj ⟨s, rfl, hs, hb⟩ ih2
      have hgF := h.fund F (List.mem_of_getElem? hF)
      simp only [ltD hj, cond_true, getD_at hF, Option.bind_some, canPay_p N hN c F B hgF hgB, nadd1 j (by omega)]
      cases hq : can F B with
      | true =>
        rw [cond_true, add_p N s j hs (by omega), Option.bind_some]
        refine ih2 _ ⟨_, rfl, add_lt hs (by omega), fun f => ?_⟩
        rw [Nat.testBit_or, Nat.testBit_two_pow]
        constructor
        · intro q
          simp only [Bool.or_eq_true, decide_eq_true_eq] at q
          rcases q with q | q
          · obtain ⟨q1, q2⟩ := (hb f).1 q
            exact ⟨by omega, q2⟩
          · subst q
            exact ⟨by omega, F, hF, hq⟩
        · rintro ⟨q1, q2⟩
          simp only [Bool.or_eq_true, decide_eq_true_eq]
          by_cases hfj : f = j
          · exact .inr hfj.symm
          · exact .inl ((hb f).2 ⟨by omega, q2⟩)
      | false =>
        rw [cond_false]
        refine ih2 _ ⟨s, rfl, hs, fun f => ?_⟩
        constructor
        · intro q
          obtain ⟨q1, q2⟩ := (hb f).1 q
          exact ⟨by omega, q2⟩
        · rintro ⟨q1, F', q2, q3⟩
          by_cases hfj : f = j
          · subst hfj
            rw [hF] at q2
            injection q2 with q2
            subst q2
            rw [hq] at q3
            cases q3
          · exact (hb f).2 ⟨by omega, F', q2, q3⟩
theorem V8_len (p : T_V8_i64) : p.l.length = 8 := rfl
theorem purseOf_p (N : Nat) (hN : 1000 < N) (L : T_api_Ledger) (h : L.Funds.length ≤ 8) : ∃ p : T_V8_i64, p_coin_purseOf N L = some p ∧ ∀ f : Nat, f < 8 → p.l[f]? = some ((L.Funds[f]?.map (·.Amount)).getD 0) := by
  unfold p_coin_purseOf
  simp only [letJ_eq]
  refine invZ L.Funds (fun x => ∃ p : T_V8_i64, x = some p ∧ ∀ f : Nat, f < 8 → p.l[f]? = some ((L.Funds[f]?.map (·.Amount)).getD 0)) (fun i (z : T_V8_i64) => ∀ f : Nat, f < 8 → z.l[f]? = some (if f < i then (L.Funds[f]?.map (·.Amount)).getD 0 else 0)) (by omega) (fun f hf => ?_) ?_ ?_
  · rw [if_neg (by omega)]
    match f, hf with
    | 0, _ => rfl
    | 1, _ => rfl
    | 2, _ => rfl
    | 3, _ => rfl
    | 4, _ => rfl
    | 5, _ => rfl
    | 6, _ => rfl
    | 7, _ => rfl
  · rintro rec z hz
    simp only [ltE, cond_false]
    refine ⟨z, rfl, fun f hf => ?_⟩
    rw [hz f hf]
    split
    · rfl
    · rw [List.getElem?_eq_none (by omega)]
      rfl
  · rintro rec i F z hF hi hz ih
    simp only [ltD hi, cond_true, getD_at hF, Option.bind_some, nadd1 i (by omega)]
    rw [show idxI (i : Int) 8 = some () by unfold idxI; rw [if_pos (by omega)], Option.bind_some, Int.toNat_natCast]
    refine ih _ fun f hf => ?_
    rw [T_V8_i64.l_ofl _ (by rw [List.length_set]; rfl), List.getElem?_set]
    by_cases hfi : i = f
    · subst hfi
      rw [if_pos rfl, if_pos (by rw [V8_len]; omega), if_pos (by omega), hF]
      rfl
    · rw [if_neg hfi, hz f hf]
      by_cases hlt : f < i
      · rw [if_pos hlt, if_pos (by omega)]
      · rw [if_neg hlt, if_neg (by omega)]

def OkC (cs : List T_coin_claim) : Prop := cs.length ≤ 8 ∧ ∀ x ∈ cs, ∃ s : Nat, x.payers_ = (s : Int) ∧ s < 256
theorem GoodC.ok {L : T_api_Ledger} {cs : List T_coin_claim} (h : GoodC L cs) (hb : L.Bills.length ≤ 8) : OkC cs := by
  refine ⟨by rw [h.1]; exact hb, fun x hx => ?_⟩
  obtain ⟨i, hi⟩ := List.mem_iff_getElem?.1 hx
  have hlt := (List.getElem?_eq_some_iff.1 hi).1
  obtain ⟨y, e, _, s, g1, g2, _⟩ := h.2 i _ (List.getElem?_eq_getElem (show i < L.Bills.length by rw [← h.1]; exact hlt))
  rw [hi] at e
  injection e with e
  subst e
  exact ⟨s, g1, g2⟩
def amt (cs : List T_coin_claim) (t : Nat) : Int := (cs[t]?.map (·.amount_)).getD 0
def pay (cs : List T_coin_claim) (t : Nat) : Nat := (cs[t]?.map (·.payers_.toNat)).getD 0
def lft (p : T_V8_i64) (t : Nat) : Int := p.l[t]?.getD 0
def orAll (cs : List T_coin_claim) (l : List Nat) : Nat := l.foldl (fun b t => b ||| pay cs t) 0
def lackV (cs : List T_coin_claim) (s : Nat) (p : T_V8_i64) : Int := IntKind.i64.wrap ((bits s).foldl (fun b t => IntKind.i64.wrap (b + amt cs t)) 0 - (bits (orAll cs (bits s))).foldl (fun b t => IntKind.i64.wrap (b + lft p t)) 0)
theorem pay_p {cs : List T_coin_claim} (h : OkC cs) {t : Nat} {x : T_coin_claim} (hx : cs[t]? = some x) : x.payers_ = (pay cs t : Int) ∧ pay cs t < 256 := by
  obtain ⟨s, e, hs⟩ := h.2 x (List.mem_of_getElem? hx)
  have : pay cs t = s := by unfold pay; rw [hx]; simp [e]
  rw [this]
  exact ⟨e, hs⟩
theorem orAll_fold (cs : List T_coin_claim) (h : ∀ t, pay cs t < 256) : ∀ (l : List Nat) (a : Nat), a < 256 → l.foldl (fun (b : Int) t => IntKind.u8.wrap (((BitVec.ofInt (IntKind.bits .u8) b ||| BitVec.ofInt (IntKind.bits .u8) (pay cs t : Int)).toNat : Nat) : Int)) (a : Int) = ((l.foldl (fun b t => b ||| pay cs t) a : Nat) : Int) ∧ l.foldl (fun b t => b ||| pay cs t) a < 256
  | [], a, ha => ⟨rfl, ha⟩
  | t :: l, a, ha => by
    have := orAll_fold cs h l (a ||| pay cs t) (Nat.or_lt_two_pow (n := 8) ha (h t))
    simp only [List.foldl_cons]
    rw [or_p a (pay cs t) ha (h t)]
    exact this
theorem orAll_bit (cs : List T_coin_claim) : ∀ (l : List Nat) (a f : Nat), (l.foldl (fun b t => b ||| pay cs t) a).testBit f = true ↔ a.testBit f = true ∨ ∃ t ∈ l, (pay cs t).testBit f = true
  | [], a, f => by simp
  | u :: l, a, f => by
    have := orAll_bit cs l (a ||| pay cs u) f
    simp only [List.foldl_cons, this, Nat.testBit_or, Bool.or_eq_true, List.mem_cons, exists_eq_or_imp]
    exact or_assoc
theorem payAll {cs : List T_coin_claim} (h : OkC cs) (t : Nat) : pay cs t < 256 := by
  cases hx : cs[t]? with
  | none => unfold pay; rw [hx]; simp
  | some x => exact (pay_p h hx).2
theorem sumA_p (N : Nat) (hN : 1000 < N) (cs : List T_coin_claim) (s : Nat) (hs : s < 256) (hb : ∀ t ∈ bits s, t < cs.length) : p_coin_sum_int_coin_set_numbers_1r_coin_claims_amount N (s : Int) cs = some ((bits s).foldl (fun b t => IntKind.i64.wrap (b + amt cs t)) 0) := by
  unfold p_coin_sum_int_coin_set_numbers_1r_coin_claims_amount
  simp only [letJ_eq]
  refine numT (fun x => x = some ((bits s).foldl (fun b t => IntKind.i64.wrap (b + amt cs t)) 0)) (fun t => t < cs.length) (fun b t => IntKind.i64.wrap (b + amt cs t)) _ (fun rec => ?_) (fun rec s t b e1 e2 e3 ht => ?_) N s 0 hs hb (by omega) rfl
  · simp only [bne_self_eq_false, cond_false]
  · have hx : cs[t]? = some cs[t] := List.getElem?_eq_getElem ht
    have ea : p_coin_claims_amount N cs (t : Int) = some (amt cs t) := by
      unfold p_coin_claims_amount amt
      rw [getI_nat, hx]
      rfl
    simp only [e3, cond_true, e1 N, Option.bind_some, ea, e2]
theorem sumP_p (N : Nat) (hN : 1000 < N) (p : T_V8_i64) (s : Nat) (hs : s < 256) : p_coin_sum_int_coin_set_numbers_1r_coin_purse_of N (s : Int) p = some ((bits s).foldl (fun b t => IntKind.i64.wrap (b + lft p t)) 0) := by
  unfold p_coin_sum_int_coin_set_numbers_1r_coin_purse_of
  simp only [letJ_eq]
  refine numT (fun x => x = some ((bits s).foldl (fun b t => IntKind.i64.wrap (b + lft p t)) 0)) (fun t => t < 8) (fun b t => IntKind.i64.wrap (b + lft p t)) _ (fun rec => ?_) (fun rec s t b e1 e2 e3 ht => ?_) N s 0 hs (fun t ht => (mem_bits.1 ht).1) (by omega) rfl
  · simp only [bne_self_eq_false, cond_false]
  · have hx : p.l[t]? = some p.l[t] := List.getElem?_eq_getElem ht
    have ea : p_coin_purse_of N p (t : Int) = some (lft p t) := by
      unfold p_coin_purse_of lft
      rw [show idxI (t : Int) 8 = some () by unfold idxI; rw [if_pos (by omega)], Option.bind_some, Int.toNat_natCast, hx]
      rfl
    simp only [e3, cond_true, e1 N, Option.bind_some, ea, e2]
theorem lack_p (N : Nat) (hN : 1000 < N) (cs : List T_coin_claim) (h : OkC cs) (p : T_V8_i64) (s : Nat) (hs : s < 256) (hb : ∀ t ∈ bits s, t < cs.length) : p_coin_claims_lack N cs (s : Int) p = some (lackV cs s p) := by
  unfold p_coin_claims_lack
  simp only [letJ_eq, show ∀ x, p_coin_set_numbers N x = some x from fun _ => rfl, Option.bind_some]
  obtain ⟨o1, o2⟩ := orAll_fold cs (payAll h) (bits s) 0 (by omega)
  refine numT (fun x => x = some (lackV cs s p)) (fun t => t < cs.length) (fun (b : Int) t => IntKind.u8.wrap (((BitVec.ofInt (IntKind.bits .u8) b ||| BitVec.ofInt (IntKind.bits .u8) (pay cs t : Int)).toNat : Nat) : Int)) _ (fun rec => ?_) (fun rec s t b e1 e2 e3 ht => ?_) N s 0 hs hb (by omega) o1
  · simp only [bne_self_eq_false, cond_false]
    rw [sumA_p N hN cs s hs hb, Option.bind_some, sumP_p N hN p _ o2]
    rfl
  · have hx : cs[t]? = some cs[t] := List.getElem?_eq_getElem ht
    simp only [e3, cond_true, e1 N, Option.bind_some, getD_at hx, (pay_p h hx).1, e2]

def mrec (N : Nat) (cs : List T_coin_claim) (p : T_V8_i64) (bound : Int) : (Int → Int → Int → Int → Option Int) → Int → Int → Int → Int → Option Int := fun rec_35 (begun_30 : Int) (next_31 : Int) (more_32 : Int) (b_33 : Int) => (bif (more_32 == 0) then (letJ (fun (b_52 : Int) => some b_52) (fun k_53 => ((p_coin_claims_lack N cs begun_30 p).bind fun r_56 => (k_53 (if r_56 > b_33 then r_56 else b_33))))) else (letJ (fun (b_58 : Int) => some b_58) (fun k_59 => (loop2 (fun rec_64 (n_62 : Int) (b_63 : Int) => (bif (decide ((IntKind.i64.wrap (n_62 + more_32)) ≤ bound)) then ((p_coin_set_add N begun_30 n_62).bind fun r_68 => (letJ (fun (b_71 : Int) => (rec_64 (IntKind.i64.wrap (n_62 + 1)) b_71)) (fun k_72 => ((rec_35 r_68 (IntKind.i64.wrap (n_62 + 1)) (IntKind.i64.wrap (more_32 - 1)) b_63).bind fun s_69 => ((fun t => k_72 t) s_69))))) else (k_59 b_63))) N next_31 b_33))))
def Most (cs : List T_coin_claim) (p : T_V8_i64) (Q : List Nat → Prop) (s : Nat) (b b' : Int) : Prop := b ≤ b' ∧ (∀ l : List Nat, l.Pairwise (· < ·) → Q l → lackV cs (addAll s l) p ≤ b') ∧ (b' = b ∨ ∃ u, u < 256 ∧ (∀ t ∈ bits u, t < cs.length) ∧ lackV cs u p = b')
theorem rec_m (N : Nat) (hN : 1000 < N) (cs : List T_coin_claim) (h : OkC cs) (p : T_V8_i64) : ∀ (k M s a : Nat) (b : Int), k < M → k ≤ 8 → a ≤ 9 → s < 256 → (∀ t ∈ bits s, t < cs.length) → ∃ b', loop4 (mrec N cs p (cs.length : Int)) M (s : Int) (a : Int) (k : Int) b = some b' ∧ Most cs p (fun l => l.length = k ∧ ∀ t ∈ l, a ≤ t ∧ t < cs.length) s b b'
  | k, 0, s, a, b, hM, _, _, _, _ => absurd hM (Nat.not_lt_zero _)
  | 0, M + 1, s, a, b, hM, _, _, hs, hb => by
    show ∃ b', mrec N cs p (cs.length : Int) (loop4 (mrec N cs p (cs.length : Int)) M) (s : Int) (a : Int) (0 : Int) b = some b' ∧ _
    unfold mrec
    simp only [letJ_eq, beq_self_eq_true, cond_true, lack_p N hN cs h p s hs hb, Option.bind_some]
    refine ⟨_, rfl, ?_, ?_, ?_⟩
    · split <;> omega
    · rintro l _ ⟨hl, _⟩
      have : l = [] := List.length_eq_zero_iff.1 hl
      subst this
      show lackV cs s p ≤ _
      split <;> omega
    · split
      · exact .inr ⟨s, hs, hb, rfl⟩
      · exact .inl rfl
  | k + 1, M + 1, s, a, b, hM, hk, ha, hs, hb => by
    have hc := h.1
    show ∃ b', mrec N cs p (cs.length : Int) (loop4 (mrec N cs p (cs.length : Int)) M) (s : Int) (a : Int) ((k + 1 : Nat) : Int) b = some b' ∧ _
    have IH := fun s' a' b' h1 h2 h3 => rec_m N hN cs h p k M s' a' b' (by omega) (by omega) h1 h2 h3
    generalize hR : loop4 (mrec N cs p (cs.length : Int)) M = R at IH ⊢
    unfold mrec
    simp only [letJ_eq, show ((((k + 1 : Nat) : Int) == 0) = false) by simp; omega, cond_false]
    refine loop2_T (fun x => ∃ b', x = some b' ∧ Most cs p (fun l => l.length = k + 1 ∧ ∀ t ∈ l, a ≤ t ∧ t < cs.length) s b b') (fun n b2 => ∃ a2 : Nat, n = (a2 : Int) ∧ a ≤ a2 ∧ a2 ≤ 9 ∧ Most cs p (fun l => (l.length = k + 1 ∧ ∀ t ∈ l, a ≤ t ∧ t < cs.length) ∧ ∀ t, l.head? = some t → t < a2) s b b2) (fun n b2 => 10 - n.toNat) ?_ N (a : Int) b ⟨a, rfl, by omega, by omega, by omega, ?_, .inl rfl⟩ (by omega)
    · rintro rec n b2 ⟨a2, rfl, h1, h9, h2, h3, h4⟩ ih
      rw [w64 (x := (a2 : Int) + ((k + 1 : Nat) : Int)) (by omega) (by omega)]
      by_cases hle : a2 + (k + 1) ≤ cs.length
      · rw [show decide ((a2 : Int) + ((k + 1 : Nat) : Int) ≤ ((cs.length : Nat) : Int)) = true from decide_eq_true (by omega), cond_true, add_p N s a2 hs (by omega), Option.bind_some, nadd1 a2 (by omega), w64 (x := ((k + 1 : Nat) : Int) - 1) (by omega) (by omega), show ((k + 1 : Nat) : Int) - 1 = (k : Int) by omega]
        obtain ⟨b3, e, q1, q2, q3⟩ := IH (s ||| 2 ^ a2) (a2 + 1) b2 (by omega) (add_lt hs (by omega)) (fun t ht => by
          obtain ⟨t1, t2⟩ := mem_bits.1 ht
          rw [Nat.testBit_or, Nat.testBit_two_pow] at t2
          simp only [Bool.or_eq_true, decide_eq_true_eq] at t2
          rcases t2 with t2 | t2
          · exact hb t (mem_bits.2 ⟨t1, t2⟩)
          · omega)
        rw [e, Option.bind_some]
        refine ih _ _ ⟨a2 + 1, rfl, by omega, by omega, by omega, ?_, ?_⟩ (by omega)
        · rintro l hl ⟨⟨l1, l2⟩, l3⟩
          match l, hl, l1, l2, l3 with
          | t :: r, hl, l1, l2, l3 =>
            obtain ⟨p1, p2⟩ := List.pairwise_cons.1 hl
            have ht := l3 t rfl
            by_cases hta : t < a2
            · have := h3 (t :: r) hl ⟨⟨l1, l2⟩, fun u hu => by simp at hu; omega⟩
              omega
            · have : t = a2 := by omega
              subst this
              exact q2 r p2 ⟨by simpa using l1, fun u hu => ⟨p1 u hu, (l2 u (by simp [hu])).2⟩⟩
        · rcases q3 with q3 | q3
          · rw [q3]; exact h4
          · exact .inr q3
      · rw [show decide ((a2 : Int) + ((k + 1 : Nat) : Int) ≤ ((cs.length : Nat) : Int)) = false from decide_eq_false (by omega), cond_false]
        refine ⟨b2, rfl, h2, ?_, h4⟩
        rintro l hl ⟨l1, l2⟩
        refine h3 l hl ⟨⟨l1, l2⟩, fun t ht => ?_⟩
        match l, hl, l1, l2, ht with
        | u :: r, hl, l1, l2, ht =>
          simp only [List.head?_cons, Option.some.injEq] at ht
          subst ht
          obtain ⟨p1, p2⟩ := List.pairwise_cons.1 hl
          have := asc_len (u :: r) u cs.length hl (fun v hv => by
            rcases List.mem_cons.1 hv with hv | hv
            · subst hv; exact ⟨Nat.le_refl _, (l2 _ (by simp)).2⟩
            · exact ⟨Nat.le_of_lt (p1 v hv), (l2 v (by simp [hv])).2⟩)
          rcases this with this | this
          · omega
          · cases this
    · rintro l hl ⟨⟨l1, l2⟩, l3⟩
      match l, l1, l2, l3 with
      | t :: r, l1, l2, l3 =>
        have := l3 t rfl
        have := (l2 t (by simp)).1
        omega
theorem missing_p (N : Nat) (hN : 1000 < N) (cs : List T_coin_claim) (h : OkC cs) (p : T_V8_i64) : ∃ m, p_coin_claims_missing N cs p = some m ∧ Most cs p (fun l => ∀ t ∈ l, t < cs.length) 0 0 m := by
  have hc := h.1
  unfold p_coin_claims_missing
  simp only [letJ_eq, show ∀ a b, p_coin_setsOf N a b = some (b, a) from fun _ _ => rfl, Option.bind_some]
  rw [nadd1 cs.length (by omega)]
  refine loop2_T (fun x => ∃ m, x = some m ∧ Most cs p (fun l => ∀ t ∈ l, t < cs.length) 0 0 m) (fun y b => ∃ i : Nat, y = (i : Int) ∧ i ≤ cs.length + 1 ∧ Most cs p (fun l => (∀ t ∈ l, t < cs.length) ∧ l.length < i) 0 0 b) (fun y b => 10 - y.toNat) ?_ N 0 0 ⟨0, rfl, by omega, by omega, fun l _ q => absurd q.2 (Nat.not_lt_zero _), .inl rfl⟩ (by omega)
  rintro rec y b ⟨i, rfl, hi, h1, h2, h3⟩ ih
  by_cases hlt : i < cs.length + 1
  · rw [ltD hlt, cond_true]
    obtain ⟨b2, e, q1, q2, q3⟩ := rec_m N hN cs h p i N 0 0 b (by omega) (by omega) (by omega) (by omega) (fun t ht => by simp [bits] at ht)
    have e' := e
    unfold mrec at e'
    simp only [letJ_eq] at e'
    rw [show ((0 : Nat) : Int) = 0 from rfl] at e'
    rw [e', Option.bind_some, nadd1 i (by omega)]
    refine ih _ _ ⟨i + 1, rfl, by omega, by omega, ?_, ?_⟩ (by omega)
    · rintro l hl ⟨l1, l2⟩
      by_cases hli : l.length < i
      · have := h2 l hl ⟨l1, hli⟩
        omega
      · exact q2 l hl ⟨by omega, fun t ht => ⟨Nat.zero_le _, l1 t ht⟩⟩
    · rcases q3 with q3 | q3
      · rw [q3]; exact h3
      · exact .inr q3
  · rw [show decide ((i : Int) < ((cs.length + 1 : Nat) : Int)) = false from decide_eq_false (by omega), cond_false]
    refine ⟨b, rfl, h1, ?_, h3⟩
    intro l hl l1
    refine h2 l hl ⟨l1, ?_⟩
    rcases asc_len l 0 cs.length hl (fun t ht => ⟨Nat.zero_le _, l1 t ht⟩) with q | q
    · omega
    · subst q; simp; omega
end Go.Proofs.Ytkpihepaaiofgaa
end
section
namespace Go.Proofs.Ytkpihepaaiofgaa
open Go.RowKit
set_option linter.unusedVariables false
set_option linter.unusedSimpArgs false
set_option maxRecDepth 10000
set_option maxHeartbeats 4000000

theorem with_p (N : Nat) (p : T_V8_i64) (t : Nat) (x : Int) (h : t < 8) : ∃ z, p_coin_purse_with N p (t : Int) x = some z := by
  unfold p_coin_purse_with
  rw [show idxI (t : Int) 8 = some () by unfold idxI; rw [if_pos (by omega)], Option.bind_some]
  exact ⟨_, rfl⟩
theorem at_p (p : T_V8_i64) (t : Nat) (h : t < 8) : p.l[Int.toNat (t : Int)]? = some (lft p t) := by
  have hx : p.l[t]? = some p.l[t] := List.getElem?_eq_getElem h
  rw [Int.toNat_natCast]
  unfold lft
  rw [hx]
  rfl
theorem payFirst_p (N : Nat) (hN : 1000 < N) (cs : List T_coin_claim) (h : OkC cs) (hne : 0 < cs.length) (p : T_V8_i64) : ∃ r, p_coin_claims_payFirst N cs p = some r := by
  have hc := h.1
  unfold p_coin_claims_payFirst
  have hx : cs[0]? = some cs[0] := List.getElem?_eq_getElem hne
  have hg : getI cs 0 = some cs[0] := getD_at (i := 0) hx
  have hpart : partI cs 1 ((cs.length : Nat) : Int) = some (cs.drop 1) := by
    unfold partI
    rw [if_pos (by omega)]
    simp
  have hb : OkC (cs.drop 1) := ⟨by simp; omega, fun x hx => h.2 x (List.mem_of_mem_drop hx)⟩
  obtain ⟨e1, e2⟩ := pay_p h hx
  simp only [hg, hpart, Option.bind_some, show ∀ x, p_coin_set_numbers N x = some x from fun _ => rfl, letJ_eq]
  rw [e1]
  refine loop4_T (fun x => ∃ r, x = some r) (fun rest z1 z2 b => ∃ s : Nat, rest = (s : Int) ∧ s < 256) (fun rest z1 z2 b => rest.toNat) ?_ N _ _ _ _ ⟨_, rfl, e2⟩ (by omega)
  rintro rec rest z1 z2 b ⟨s, rfl, hs⟩ ih
  by_cases h0 : s = 0
  · subst h0
    simp only [show (((0 : Nat) : Int) != 0) = false from rfl, cond_false]
    exact ⟨_, rfl⟩
  · obtain ⟨t, g1, g2, g3⟩ := tz_p N s h0 hs
    have ht : t < 8 := (mem_bits.1 (show t ∈ bits s by rw [g2]; simp)).1
    have hi : idxI (t : Int) 8 = some () := by unfold idxI; rw [if_pos (by omega)]
    have hlow := low_lt s h0
    rw [show (((s : Nat) : Int) != 0) = true by simp; omega, cond_true, g1, Option.bind_some]
    obtain ⟨w1, q⟩ := with_p N z1 t 0 ht
    rw [q, Option.bind_some]; clear q
    obtain ⟨m, q, _⟩ := missing_p N hN _ hb w1
    simp only [q, Option.bind_some, hi, at_p z1 t ht]; clear q
    obtain ⟨w2, q⟩ := with_p N z2 t (if (IntKind.i64.wrap (lft z1 t - m)) < b then (IntKind.i64.wrap (lft z1 t - m)) else b) ht
    simp only [q, Option.bind_some]; clear q
    obtain ⟨w3, q⟩ := with_p N z1 t (IntKind.i64.wrap (lft z1 t - (if (IntKind.i64.wrap (lft z1 t - m)) < b then (IntKind.i64.wrap (lft z1 t - m)) else b))) ht
    simp only [q, Option.bind_some, g3]; clear q
    exact ih _ _ _ _ ⟨_, rfl, by omega⟩ (by omega)
theorem trace_p (N : Nat) (hN : 1000 < N) (nf nb : Nat) (c : Int) (hnf : nf ≤ 8) (hnb : nb ≤ 8) (hc : c ≤ 1000000) (L : T_api_Ledger) (h : GoodL nf nb c L) : ∃ cs p m, GoodC L cs ∧ (∀ f : Nat, f < 8 → p.l[f]? = some ((L.Funds[f]?.map (·.Amount)).getD 0)) ∧ Most cs p (fun l => ∀ t ∈ l, t < cs.length) 0 0 m ∧ ((0 < m ∧ p_coin_Trace N L = some ([], 4)) ∨ (m ≤ 0 ∧ ∃ t, p_coin_Trace N L = some (t, 0))) := by
  have g1 := h.nf; have g2 := h.nb
  obtain ⟨cs, e1, hcs⟩ := claimsOf_p N hN nf nb c hnf hnb L h
  obtain ⟨p, e2, hp⟩ := purseOf_p N hN L (by omega)
  have hok := hcs.ok (by omega)
  have hok1 := hok.1
  obtain ⟨m, e3, hm⟩ := missing_p N hN cs hok p
  refine ⟨cs, p, m, hcs, hp, hm, ?_⟩
  unfold p_coin_Trace
  simp only [check_p N hN nf nb c hnf hnb hc L h, Option.bind_some, bne_self_eq_false, cond_false, e1, e2, e3]
  by_cases hpos : m > 0
  · rw [show decide (m > 0) = true from decide_eq_true hpos, cond_true]
    exact .inl ⟨hpos, rfl⟩
  · rw [show decide (m > 0) = false from decide_eq_false hpos, cond_false]
    refine .inr ⟨by omega, ?_⟩
    have mk1 : mkI ((cs.length : Nat) : Int) = some cs.length := by unfold mkI; rw [if_pos (by omega)]; simp
    have mk2 : mkI ((L.Funds.length : Nat) : Int) = some L.Funds.length := by unfold mkI; rw [if_pos (by omega)]; simp
    rw [mk1, Option.bind_some]
    simp only [letJ_eq]
    refine loop4_T (fun x => ∃ t, x = some (t, 0)) (fun y z (w : List (List Int)) (z2 : T_V8_i64) => ∃ i : Nat, y = (i : Int) ∧ i ≤ cs.length ∧ w.length = cs.length) (fun y z w z2 => 100 - y.toNat) ?_ N 0 _ _ _ ⟨0, rfl, by omega, by simp⟩ (by omega)
    rintro rec y z w z2 ⟨i, rfl, hi, hw⟩ ih
    by_cases hlt : i < cs.length
    · have hpart : partI cs (i : Int) ((cs.length : Nat) : Int) = some (cs.drop i) := by
        unfold partI
        rw [if_pos (by omega)]
        simp
      have hb : OkC (cs.drop i) := ⟨by simp; omega, fun x hx => hok.2 x (List.mem_of_mem_drop hx)⟩
      obtain ⟨r, e⟩ := payFirst_p N hN (cs.drop i) hb (by simp; omega) z
      have hx : w[i]? = some w[i] := List.getElem?_eq_getElem (by omega)
      have hcp : copyI (List.replicate L.Funds.length 0) L.Funds.length r.1.l 8 = some (r.1.l.take L.Funds.length ++ (List.replicate L.Funds.length 0).drop 8) := by
        unfold copyI
        rw [if_pos ⟨by simp, V8_len _⟩]
      have hln : lenI (r.1.l.take L.Funds.length ++ (List.replicate L.Funds.length (0 : Int)).drop 8) L.Funds.length = some () := by
        unfold lenI
        rw [if_pos (by rw [List.length_append, List.length_take, List.length_drop, List.length_replicate, V8_len]; omega)]
      rw [ltD hlt, cond_true, hpart, Option.bind_some, e, Option.bind_some, mk2, Option.bind_some, show idxI (i : Int) cs.length = some () by unfold idxI; rw [if_pos (by omega)], Option.bind_some, Int.toNat_natCast, hx, Option.bind_some, Option.bind_some, hcp, Option.bind_some, hln, Option.bind_some, nadd1 i (by omega)]
      exact ih _ _ _ _ ⟨i + 1, rfl, by omega, by simp [hw]⟩ (by omega)
    · rw [show decide ((i : Int) < ((cs.length : Nat) : Int)) = false from decide_eq_false (by omega), cond_false]
      rw [show lenI w cs.length = some () by unfold lenI; rw [if_pos hw], Option.bind_some]
      exact ⟨_, rfl⟩

theorem bits_len (s : Nat) : (bits s).length ≤ 8 := by
  have := List.length_filter_le (fun t => s.testBit t) (List.range 8)
  simpa [bits] using this
theorem amtAt {nf nb : Nat} {c : Int} {L : T_api_Ledger} (h : GoodL nf nb c L) {cs : List T_coin_claim} (hc : GoodC L cs) {i : Nat} {B : T_api_Bill} (hB : L.Bills[i]? = some B) : amt cs i = B.Amount := by
  obtain ⟨x, e, g, _⟩ := hc.2 i B hB
  unfold amt
  rw [e]
  exact g
theorem lftAt {L : T_api_Ledger} {p : T_V8_i64} (hp : ∀ f : Nat, f < 8 → p.l[f]? = some ((L.Funds[f]?.map (·.Amount)).getD 0)) {f : Nat} (hf : f < 8) : lft p f = (L.Funds[f]?.map (·.Amount)).getD 0 := by
  unfold lft
  rw [hp f hf]
  rfl
theorem lackV_sum {nf nb : Nat} {c : Int} (hnf : nf ≤ 8) (hnb : nb ≤ 8) (hc0 : 0 ≤ c) (hc : c ≤ 1000000) {L : T_api_Ledger} (h : GoodL nf nb c L) {cs : List T_coin_claim} (hcs : GoodC L cs) {p : T_V8_i64} (hp : ∀ f : Nat, f < 8 → p.l[f]? = some ((L.Funds[f]?.map (·.Amount)).getD 0)) (s : Nat) : lackV cs s p = ((bits s).map (amt cs)).sum - ((bits (orAll cs (bits s))).map (lft p)).sum ∧ 0 ≤ ((bits s).map (amt cs)).sum ∧ ((bits s).map (amt cs)).sum ≤ 16000000 ∧ 0 ≤ ((bits (orAll cs (bits s))).map (lft p)).sum ∧ ((bits (orAll cs (bits s))).map (lft p)).sum ≤ 16000000 := by
  have ha : ∀ t, 0 ≤ amt cs t ∧ amt cs t ≤ 2000000 := fun t => by
    cases hB : L.Bills[t]? with
    | none =>
      have : cs[t]? = none := by
        rw [List.getElem?_eq_none_iff] at hB ⊢
        rw [hcs.1]
        exact hB
      unfold amt
      rw [this]
      simp
    | some B =>
      obtain ⟨_, _, _, _, b5, b6⟩ := h.bill B (List.mem_of_getElem? hB)
      rw [amtAt h hcs hB]
      omega
  have hl : ∀ t, t < 8 → 0 ≤ lft p t ∧ lft p t ≤ 2000000 := fun t ht => by
    rw [lftAt hp ht]
    cases hF : L.Funds[t]? with
    | none => simp
    | some F =>
      obtain ⟨_, _, _, _, b5, b6, _⟩ := h.fund F (List.mem_of_getElem? hF)
      simp only [Option.map_some, Option.getD_some]
      omega
  have l1 := bits_len s
  have l2 := bits_len (orAll cs (bits s))
  have s1 := sum_bnd (amt cs) 2000000 (by omega) (bits s) (fun t _ => ha t)
  have s2 := sum_bnd (lft p) 2000000 (by omega) (bits (orAll cs (bits s))) (fun t ht => hl t (mem_bits.1 ht).1)
  refine ⟨?_, by omega, by omega, by omega, by omega⟩
  unfold lackV
  rw [foldSum (amt cs) 2000000 (by omega) (bits s) 0 (fun t _ => by have := ha t; omega) (by omega) (by omega), foldSum (lft p) 2000000 (by omega) (bits (orAll cs (bits s))) 0 (fun t ht => by have := hl t (mem_bits.1 ht).1; omega) (by omega) (by omega), w64 (by omega) (by omega)]
  omega
theorem bal_nonneg {nf nb : Nat} {c : Int} (hnf : nf ≤ 8) (hnb : nb ≤ 8) (hc0 : 0 ≤ c) (hc : c ≤ 1000000) {L : T_api_Ledger} (h : GoodL nf nb c L) {cs : List T_coin_claim} (hcs : GoodC L cs) {p : T_V8_i64} (hp : ∀ f : Nat, f < 8 → p.l[f]? = some ((L.Funds[f]?.map (·.Amount)).getD 0)) {m : Int} (hm : Most cs p (fun l => ∀ t ∈ l, t < cs.length) 0 0 m) (h0 : m ≤ 0) (day : Int) : 0 ≤ come L day - paid L day := by
  have g1 := h.nf; have g2 := h.nb
  have e0 := hcs.1
  let q : Nat → Bool := fun i => match L.Bills[i]? with | some B => decide (B.Day ≤ day) | none => false
  let l := (List.range L.Bills.length).filter q
  have hl := hm.2.1 l (List.Pairwise.filter _ List.pairwise_lt_range) (fun t ht => by
    have := (List.mem_filter.1 ht).1
    rw [List.mem_range] at this
    omega)
  have hbit : ∀ t, (addAll 0 l).testBit t = decide (t ∈ l) := fun t => by rw [addAll_bit]; simp
  generalize hu : addAll 0 l = u at hl hbit
  obtain ⟨k1, k2, k3, k4, k5⟩ := lackV_sum hnf hnb hc0 hc h hcs hp u
  have eA : ((bits u).map (amt cs)).sum = paid L day := by
    unfold bits paid
    rw [sum_filter, ← sum_at _ L.Bills 8 (by omega)]
    congr 1
    refine List.map_congr_left fun i hi => ?_
    rw [hbit]
    cases hB : L.Bills[i]? with
    | none =>
      have : i ∉ l := fun hi => by
        have := (List.mem_filter.1 hi).2
        simp only [q, hB] at this
        cases this
      simp [this]
    | some B =>
      have hlt := (List.getElem?_eq_some_iff.1 hB).1
      have : i ∈ l ↔ B.Day ≤ day := by
        simp only [l, List.mem_filter, List.mem_range, q, hB, decide_eq_true_eq]
        exact ⟨fun x => x.2, fun x => ⟨hlt, x⟩⟩
      rw [amtAt h hcs hB]
      simp only [this, Option.map_some, Option.getD_some, decide_eq_true_eq]
      by_cases hd : B.Day ≤ day
      · rw [if_pos hd, if_neg (by omega)]
      · rw [if_neg hd, if_pos (by omega)]
  have eB : ((bits (orAll cs (bits u))).map (lft p)).sum ≤ come L day := by
    unfold come
    rw [← sum_at _ L.Funds 8 (by omega)]
    unfold bits
    rw [sum_filter]
    refine sum_le _ _ _ fun f hf => ?_
    rw [List.mem_range] at hf
    split
    · rename_i hb
      rcases (orAll_bit cs _ 0 f).1 hb with hb | ⟨t, ht, hb⟩
      · simp at hb
      · have ht2 := (List.mem_filter.1 ht).2
        rw [hbit, decide_eq_true_eq] at ht2
        obtain ⟨t1, t2⟩ := List.mem_filter.1 ht2
        rw [List.mem_range] at t1
        have hB : L.Bills[t]? = some L.Bills[t] := List.getElem?_eq_getElem t1
        simp only [q, hB, decide_eq_true_eq] at t2
        obtain ⟨x, e, _, s, x1, x2, x3⟩ := hcs.2 t _ hB
        have : pay cs t = s := by unfold pay; rw [e]; simp [x1]
        rw [this] at hb
        obtain ⟨F, hF, hcan⟩ := (x3 f).1 hb
        unfold can at hcan
        rw [decide_eq_true_eq] at hcan
        rw [lftAt hp hf, hF]
        simp only [Option.map_some, Option.getD_some]
        rw [if_neg (by omega)]
        exact Int.le_refl _
    · cases hF : L.Funds[f]? with
      | none => simp
      | some F =>
        obtain ⟨_, _, _, _, b5, b6, _⟩ := h.fund F (List.mem_of_getElem? hF)
        simp only [Option.map_some, Option.getD_some]
        split <;> omega
  omega
end Go.Proofs.Ytkpihepaaiofgaa
end
section
namespace Go.Proofs.Ytkpihepaaiofgaa
open Go.RowKit
set_option linter.unusedVariables false
set_option linter.unusedSimpArgs false
set_option maxRecDepth 10000
set_option maxHeartbeats 4000000
attribute [local simp] ren ren1 AV.plain AV.plain1 AV.clean cleanL cleanI cleanBo cleanSt cleanII KL_bk_Drum KL_api_Fund KL_api_Bill KL_api_Ledger KL_coin_claim KL_V8_i64 KL_api_Span A_bk_Drum C_bk_Drum A_api_Fund C_api_Fund A_api_Bill C_api_Bill A_api_Ledger C_api_Ledger A_coin_claim C_coin_claim A_V8_i64 C_V8_i64 A_api_Span C_api_Span back back1 fadeS fadeV List.idxOf? List.findIdx? List.findIdx?.go re re1 KB_bk_Drum KB_api_Fund KB_api_Bill KB_api_Ledger KB_coin_claim KB_V8_i64 KB_api_Span
def p_bl9_CoinBalance (N : Nat) (nums_1 : (List Int)) : Option (Bool) := ((p_bk_DrumOf N nums_1).bind fun r_2 => ((p_bk_LedgerOf N r_2 5 5 50).bind fun r_3 => ((p_coin_Trace N r_3.1).bind fun r_4 => (letJ (fun (_ : Unit) => (bif (r_4.2 == 0) then ((p_bl9_awake N).bind fun r_58 => some r_58) else (bif (r_4.2 == 4) then ((p_bl9_awake N).bind fun r_60 => some r_60) else some false))) (fun k_5 => (loop2 (fun rec_10 (before_8 : Int) (day_9 : Int) => (bif (decide (day_9 < 25)) then ((p_coin_Balance N r_3.1 day_9).bind fun r_14 => (letJ (fun (before_15 : Int) => (letJ (fun (before_32 : Int) => (letJ (fun (y_49 : Bool) => (bif y_49 then some false else (rec_10 before_32 (IntKind.i64.wrap (day_9 + 1))))) (fun k_50 => (bif (r_14.2 != 0) then (k_50 true) else (bif (r_14.1 != before_32) then (k_50 true) else (bif (r_4.2 == 0) then (k_50 (decide (r_14.1 < 0))) else (k_50 false))))))) (fun k_33 => (loop2 (fun rec_38 (before_36 : Int) (i_37 : Int) => (bif (decide (i_37 < ((r_3.1.Bills.length : Nat) : Int))) then (letJ (fun (before_42 : Int) => (rec_38 before_42 (IntKind.i64.wrap (i_37 + 1)))) (fun k_43 => ((getI r_3.1.Bills i_37).bind fun x_46 => (bif (x_46.Day == day_9) then ((getI r_3.1.Bills i_37).bind fun x_48 => (k_43 (IntKind.i64.wrap (before_36 - x_48.Amount)))) else (k_43 before_36))))) else (k_33 before_36))) N before_15 0)))) (fun k_16 => (loop2 (fun rec_21 (before_19 : Int) (i_20 : Int) => (bif (decide (i_20 < ((r_3.1.Funds.length : Nat) : Int))) then (letJ (fun (before_25 : Int) => (rec_21 before_25 (IntKind.i64.wrap (i_20 + 1)))) (fun k_26 => ((getI r_3.1.Funds i_20).bind fun x_29 => (bif (x_29.Day == day_9) then ((getI r_3.1.Funds i_20).bind fun x_31 => (k_26 (IntKind.i64.wrap (before_19 + x_31.Amount)))) else (k_26 before_19))))) else (k_16 before_19))) N before_8 0)))) else (k_5 ()))) N 0 0))))))
def v_bl9_CoinBalance (r : Bool) : AV := .bool r
attribute [local simp] v_bl9_CoinBalance
theorem d_bl9_CoinBalance (N : Nat) (nums_1 : (List Int)) (r : Bool) (h : p_bl9_CoinBalance N nums_1 = some r) : Does Try.prog 11 [.sl (nums_1.map (AV.int .i64)) none] [] fun v c => v = v_bl9_CoinBalance r ∧ c = [] := by
  unfold p_bl9_CoinBalance at h
  refine Does.ofL comp11 _ _ rfl rfl ?_
  refine Ex.seq ?_
  refine regH 1 [] [0] [] (mkS 100 [(0, .sl (nums_1.map (AV.int .i64)) none)]) (⟨[], []⟩) (by kernel_rfl) trivial rfl ?_
  refine Ex.seq ?_
  obtain ⟨r_2, hr_2, h⟩ := Option.bind_eq_some_iff.1 h
  refine Ex.reg ?_
  refine runH 1 [] [12] [] (mkS 100 [(12, .sl (nums_1.map (AV.int .i64)) none)]) (⟨[], []⟩) (by kernel_rfl) trivial ?_
  refine ExO.callL (v' := .ptr 0 0) [] [.sl (nums_1.map (AV.int .i64)) none] rfl rfl (a_bk_DrumOf nums_1) rfl rfl (d_bk_DrumOf N nums_1 r_2 hr_2) rfl (by simp) ?_
  obtain ⟨r_3, hr_3, h⟩ := Option.bind_eq_some_iff.1 h
  refine ExO.callL [0] [.ptr 0 0, .int .i64 5, .int .i64 5, .int .i64 50] rfl rfl (by simp; try rfl) rfl (by simp) (d_bk_LedgerOf N r_2 5 5 50 r_3 hr_3) (b_bk_LedgerOf _ _ _ _) (by simp) ?_
  refine runH 2 [] [3] [] (mkS 100 [(3, .ptr 1 0)]) (⟨[(C_bk_Drum r_3.2), (C_api_Ledger r_3.1)], []⟩) (by kernel_rfl) trivial ?_
  refine ExO.nil ?_
  refine Ex.seq ?_
  obtain ⟨r_4, hr_4, h⟩ := Option.bind_eq_some_iff.1 h
  refine Ex.reg ?_
  refine runH 1 [] [3, 16] [] (mkS 100 [(3, .ptr 1 0), (16, (A_api_Ledger r_3.1))]) (⟨[(C_bk_Drum r_3.2), (C_api_Ledger r_3.1)], []⟩) (by kernel_rfl) trivial ?_
  refine ExO.callL [] [(A_api_Ledger r_3.1)] rfl rfl (a_coin_Trace r_3.1) rfl rfl (d_coin_Trace N r_3.1 r_4 hr_4) (b_coin_Trace _ _ _ _) rfl ?_
  refine runH 5 [] [3, 5] [] (mkS 100 [(3, .ptr 1 0), (5, .int .i64 r_4.2)]) (⟨[(C_bk_Drum r_3.2), (C_api_Ledger r_3.1)], []⟩) (by kernel_rfl) trivial ?_
  refine ExO.nil ?_
  refine Ex.seq ?_
  refine regH 1 [] [3, 5, 6] [] (mkS 100 [(3, .ptr 1 0), (5, .int .i64 r_4.2), (6, .int .i64 0)]) (⟨[(C_bk_Drum r_3.2), (C_api_Ledger r_3.1)], []⟩) (by kernel_rfl) trivial rfl ?_
  refine Ex.seq ?_
  refine Ex.seq ?_
  refine regH 1 [] [3, 5, 6, 7] [] (mkS 100 [(3, .ptr 1 0), (5, .int .i64 r_4.2), (6, .int .i64 0), (7, .int .i64 0)]) (⟨[(C_bk_Drum r_3.2), (C_api_Ledger r_3.1)], []⟩) (by kernel_rfl) trivial rfl ?_
  obtain ⟨K_6, hK_7, h⟩ := letE h
  refine Ex.blockJ (fun a S => K_6 () = some r ∧ a = mkS 100 [(5, .int .i64 r_4.2)] ∧ S = ⟨[], []⟩) ?_ ?_
  · obtain ⟨B_11, hB_12, h⟩ := loop2I h
    refine Ex.loopF (fun k a S => ∃ (before_8 : Int), ∃ (day_9 : Int), loop2 B_11 k before_8 day_9 = some r ∧ a = mkS 100 [(3, .ptr 1 0), (5, .int .i64 r_4.2), (6, .int .i64 before_8), (7, .int .i64 day_9)] ∧ S = ⟨[(C_bk_Drum r_3.2), (C_api_Ledger r_3.1)], []⟩) N ⟨_, _, Forgets.refl _ _ _, 0, 0, h, rfl, rfl⟩ ?_
    rintro k a S ⟨before_8, day_9, h, rfl, rfl⟩
    cases k with
    | zero => exact (loop2Z h).elim
    | succ k =>
      replace h := loop2S h hB_12
      refine Ex.seq ?_
      refine Ex.seq ?_
      refine regH 2 [] [3, 5, 6, 7, 21] [] (mkS 100 [(3, .ptr 1 0), (5, .int .i64 r_4.2), (6, .int .i64 before_8), (7, .int .i64 day_9), (21, .bool (decide (day_9 < 25)))]) (⟨[(C_bk_Drum r_3.2), (C_api_Ledger r_3.1)], []⟩) (by kernel_rfl) trivial rfl ?_
      rcases condI h with ⟨hc_13, h⟩ | ⟨hc_13, h⟩
      · refine Ex.condT _ rfl hc_13 ?_
        refine Ex.skip ?_
        refine Ex.seq ?_
        refine Ex.blockK ?_
        refine Ex.seq ?_
        obtain ⟨r_14, hr_14, h⟩ := Option.bind_eq_some_iff.1 h
        refine Ex.reg ?_
        refine runH 2 [] [3, 5, 6, 7, 25, 26] [] (mkS 100 [(3, .ptr 1 0), (5, .int .i64 r_4.2), (6, .int .i64 before_8), (7, .int .i64 day_9), (25, (A_api_Ledger r_3.1)), (26, .int .i64 day_9)]) (⟨[(C_bk_Drum r_3.2), (C_api_Ledger r_3.1)], []⟩) (by kernel_rfl) trivial ?_
        refine ExO.callL [] [(A_api_Ledger r_3.1), .int .i64 day_9] rfl rfl (a_coin_Balance r_3.1 day_9) rfl rfl (d_coin_Balance N r_3.1 day_9 r_14 hr_14) (b_coin_Balance _ _ _ _) rfl ?_
        refine runH 5 [] [3, 5, 6, 7, 8, 9] [] (mkS 100 [(3, .ptr 1 0), (5, .int .i64 r_4.2), (6, .int .i64 before_8), (7, .int .i64 day_9), (8, .int .i64 r_14.1), (9, .int .i64 r_14.2)]) (⟨[(C_bk_Drum r_3.2), (C_api_Ledger r_3.1)], []⟩) (by kernel_rfl) trivial ?_
        refine ExO.nil ?_
        refine Ex.seq ?_
        refine Ex.seq ?_
        refine regH 1 [] [3, 5, 6, 7, 8, 9, 10] [] (mkS 100 [(3, .ptr 1 0), (5, .int .i64 r_4.2), (6, .int .i64 before_8), (7, .int .i64 day_9), (8, .int .i64 r_14.1), (9, .int .i64 r_14.2), (10, .int .i64 0)]) (⟨[(C_bk_Drum r_3.2), (C_api_Ledger r_3.1)], []⟩) (by kernel_rfl) trivial rfl ?_
        obtain ⟨K_17, hK_18, h⟩ := letE h
        refine Ex.blockJ (fun a S => ∃ (before_15 : Int), K_17 before_15 = some r ∧ a = mkS 100 [(3, .ptr 1 0), (5, .int .i64 r_4.2), (6, .int .i64 before_15), (7, .int .i64 day_9), (8, .int .i64 r_14.1), (9, .int .i64 r_14.2)] ∧ S = ⟨[(C_bk_Drum r_3.2), (C_api_Ledger r_3.1)], []⟩) ?_ ?_
        · obtain ⟨B_22, hB_23, h⟩ := loop2I h
          refine Ex.loopF (fun k a S => ∃ (before_19 : Int), ∃ (i_20 : Int), loop2 B_22 k before_19 i_20 = some r ∧ a = mkS 100 [(3, .ptr 1 0), (5, .int .i64 r_4.2), (6, .int .i64 before_19), (7, .int .i64 day_9), (8, .int .i64 r_14.1), (9, .int .i64 r_14.2), (10, .int .i64 i_20)] ∧ S = ⟨[(C_bk_Drum r_3.2), (C_api_Ledger r_3.1)], []⟩) N ⟨_, _, Forgets.refl _ _ _, before_8, 0, h, rfl, rfl⟩ ?_
          rintro k a S ⟨before_19, i_20, h, rfl, rfl⟩
          cases k with
          | zero => exact (loop2Z h).elim
          | succ k =>
            replace h := loop2S h hB_23
            refine Ex.seq ?_
            refine Ex.seq ?_
            refine regH 5 [(3, .eq (.int .i64 ((r_3.1.Funds.length : Nat) : Int)))] [3, 5, 6, 7, 8, 9, 10, 34] [AV.int .i64 (((r_3.1.Funds.map A_api_Fund).length : Nat) : Int) = AV.int .i64 ((r_3.1.Funds.length : Nat) : Int)] (mkS 100 [(3, .ptr 1 0), (5, .int .i64 r_4.2), (6, .int .i64 before_19), (7, .int .i64 day_9), (8, .int .i64 r_14.1), (9, .int .i64 r_14.2), (10, .int .i64 i_20), (34, .bool (decide (i_20 < ((r_3.1.Funds.length : Nat) : Int))))]) (⟨[(C_bk_Drum r_3.2), (C_api_Ledger r_3.1)], []⟩) (by kernel_rfl) ⟨lenM _ _, trivial⟩ rfl ?_
            rcases condI h with ⟨hc_24, h⟩ | ⟨hc_24, h⟩
            · refine Ex.condT _ rfl hc_24 ?_
              refine Ex.skip ?_
              refine Ex.seq ?_
              obtain ⟨K_27, hK_28, h⟩ := letE h
              refine Ex.blockJ (fun a S => ∃ (before_25 : Int), K_27 before_25 = some r ∧ a = mkS 100 [(3, .ptr 1 0), (5, .int .i64 r_4.2), (6, .int .i64 before_25), (7, .int .i64 day_9), (8, .int .i64 r_14.1), (9, .int .i64 r_14.2), (10, .int .i64 i_20)] ∧ S = ⟨[(C_bk_Drum r_3.2), (C_api_Ledger r_3.1)], []⟩) ?_ ?_
              · refine Ex.seq ?_
                obtain ⟨x_29, hx_29, h⟩ := Option.bind_eq_some_iff.1 h
                refine regH 8 [(3, .rop (C_api_Fund x_29))] [3, 5, 6, 7, 8, 9, 10, 44] [LGet (r_3.1.Funds.map A_api_Fund) i_20 4 (C_api_Fund x_29)] (mkS 100 [(3, .ptr 1 0), (5, .int .i64 r_4.2), (6, .int .i64 before_19), (7, .int .i64 day_9), (8, .int .i64 r_14.1), (9, .int .i64 r_14.2), (10, .int .i64 i_20), (44, .bool (x_29.Day == day_9))]) (⟨[(C_bk_Drum r_3.2), (C_api_Ledger r_3.1)], []⟩) (by kernel_rfl) ⟨LGet.of hx_29 rfl, trivial⟩ rfl ?_
                rcases condI h with ⟨hc_30, h⟩ | ⟨hc_30, h⟩
                · refine Ex.condT _ rfl hc_30 ?_
                  obtain ⟨x_31, hx_31, h⟩ := Option.bind_eq_some_iff.1 h
                  refine regH 9 [(4, .rop (C_api_Fund x_31))] [3, 5, 6, 7, 8, 9, 10] [LGet (r_3.1.Funds.map A_api_Fund) i_20 4 (C_api_Fund x_31)] (mkS 100 [(3, .ptr 1 0), (5, .int .i64 r_4.2), (6, .int .i64 (IntKind.i64.wrap (before_19 + x_31.Amount))), (7, .int .i64 day_9), (8, .int .i64 r_14.1), (9, .int .i64 r_14.2), (10, .int .i64 i_20)]) (⟨[(C_bk_Drum r_3.2), (C_api_Ledger r_3.1)], []⟩) (by kernel_rfl) ⟨LGet.of hx_31 rfl, trivial⟩ rfl ?_
                  (try simp only [reduceCtorEq, AEx.ex.injEq, Nat.reduceEqDiff, if_true, if_false])
                  exact ⟨_, _, Forgets.refl _ _ _, (IntKind.i64.wrap (before_19 + x_31.Amount)), h, rfl, rfl⟩
                · refine Ex.condF _ rfl hc_30 ?_
                  refine Ex.skip ?_
                  (try simp only [reduceCtorEq, AEx.ex.injEq, Nat.reduceEqDiff, if_true, if_false])
                  exact ⟨_, _, forgetK [3, 5, 6, 7, 8, 9, 10], before_19, h, rfl, rfl⟩
              · rintro a S ⟨before_25, h, rfl, rfl⟩
                subst hK_28
                refine regH 3 [] [3, 5, 6, 7, 8, 9, 10] [] (mkS 100 [(3, .ptr 1 0), (5, .int .i64 r_4.2), (6, .int .i64 before_25), (7, .int .i64 day_9), (8, .int .i64 r_14.1), (9, .int .i64 r_14.2), (10, .int .i64 (IntKind.i64.wrap (i_20 + 1)))]) (⟨[(C_bk_Drum r_3.2), (C_api_Ledger r_3.1)], []⟩) (by kernel_rfl) trivial rfl ?_
                dsimp only
                exact ⟨_, _, Forgets.refl _ _ _, k, Nat.lt_succ_self k, before_25, (IntKind.i64.wrap (i_20 + 1)), h, rfl, rfl⟩
            · refine Ex.condF _ rfl hc_24 ?_
              refine Ex.exit ?_
              (try simp only [reduceCtorEq, AEx.ex.injEq, Nat.reduceEqDiff, if_true, if_false])
              exact ⟨_, _, forgetK [3, 5, 6, 7, 8, 9], before_19, h, rfl, rfl⟩
        · rintro a S ⟨before_15, h, rfl, rfl⟩
          subst hK_18
          refine Ex.seq ?_
          refine Ex.seq ?_
          refine regH 1 [] [3, 5, 6, 7, 8, 9, 11] [] (mkS 100 [(3, .ptr 1 0), (5, .int .i64 r_4.2), (6, .int .i64 before_15), (7, .int .i64 day_9), (8, .int .i64 r_14.1), (9, .int .i64 r_14.2), (11, .int .i64 0)]) (⟨[(C_bk_Drum r_3.2), (C_api_Ledger r_3.1)], []⟩) (by kernel_rfl) trivial rfl ?_
          obtain ⟨K_34, hK_35, h⟩ := letE h
          refine Ex.blockJ (fun a S => ∃ (before_32 : Int), K_34 before_32 = some r ∧ a = mkS 100 [(3, .ptr 1 0), (5, .int .i64 r_4.2), (6, .int .i64 before_32), (7, .int .i64 day_9), (8, .int .i64 r_14.1), (9, .int .i64 r_14.2)] ∧ S = ⟨[(C_bk_Drum r_3.2), (C_api_Ledger r_3.1)], []⟩) ?_ ?_
          · obtain ⟨B_39, hB_40, h⟩ := loop2I h
            refine Ex.loopF (fun k a S => ∃ (before_36 : Int), ∃ (i_37 : Int), loop2 B_39 k before_36 i_37 = some r ∧ a = mkS 100 [(3, .ptr 1 0), (5, .int .i64 r_4.2), (6, .int .i64 before_36), (7, .int .i64 day_9), (8, .int .i64 r_14.1), (9, .int .i64 r_14.2), (11, .int .i64 i_37)] ∧ S = ⟨[(C_bk_Drum r_3.2), (C_api_Ledger r_3.1)], []⟩) N ⟨_, _, Forgets.refl _ _ _, before_15, 0, h, rfl, rfl⟩ ?_
            rintro k a S ⟨before_36, i_37, h, rfl, rfl⟩
            cases k with
            | zero => exact (loop2Z h).elim
            | succ k =>
              replace h := loop2S h hB_40
              refine Ex.seq ?_
              refine Ex.seq ?_
              refine regH 5 [(3, .eq (.int .i64 ((r_3.1.Bills.length : Nat) : Int)))] [3, 5, 6, 7, 8, 9, 11, 57] [AV.int .i64 (((r_3.1.Bills.map A_api_Bill).length : Nat) : Int) = AV.int .i64 ((r_3.1.Bills.length : Nat) : Int)] (mkS 100 [(3, .ptr 1 0), (5, .int .i64 r_4.2), (6, .int .i64 before_36), (7, .int .i64 day_9), (8, .int .i64 r_14.1), (9, .int .i64 r_14.2), (11, .int .i64 i_37), (57, .bool (decide (i_37 < ((r_3.1.Bills.length : Nat) : Int))))]) (⟨[(C_bk_Drum r_3.2), (C_api_Ledger r_3.1)], []⟩) (by kernel_rfl) ⟨lenM _ _, trivial⟩ rfl ?_
              rcases condI h with ⟨hc_41, h⟩ | ⟨hc_41, h⟩
              · refine Ex.condT _ rfl hc_41 ?_
                refine Ex.skip ?_
                refine Ex.seq ?_
                obtain ⟨K_44, hK_45, h⟩ := letE h
                refine Ex.blockJ (fun a S => ∃ (before_42 : Int), K_44 before_42 = some r ∧ a = mkS 100 [(3, .ptr 1 0), (5, .int .i64 r_4.2), (6, .int .i64 before_42), (7, .int .i64 day_9), (8, .int .i64 r_14.1), (9, .int .i64 r_14.2), (11, .int .i64 i_37)] ∧ S = ⟨[(C_bk_Drum r_3.2), (C_api_Ledger r_3.1)], []⟩) ?_ ?_
                · refine Ex.seq ?_
                  obtain ⟨x_46, hx_46, h⟩ := Option.bind_eq_some_iff.1 h
                  refine regH 8 [(3, .rop (C_api_Bill x_46))] [3, 5, 6, 7, 8, 9, 11, 67] [LGet (r_3.1.Bills.map A_api_Bill) i_37 3 (C_api_Bill x_46)] (mkS 100 [(3, .ptr 1 0), (5, .int .i64 r_4.2), (6, .int .i64 before_36), (7, .int .i64 day_9), (8, .int .i64 r_14.1), (9, .int .i64 r_14.2), (11, .int .i64 i_37), (67, .bool (x_46.Day == day_9))]) (⟨[(C_bk_Drum r_3.2), (C_api_Ledger r_3.1)], []⟩) (by kernel_rfl) ⟨LGet.of hx_46 rfl, trivial⟩ rfl ?_
                  rcases condI h with ⟨hc_47, h⟩ | ⟨hc_47, h⟩
                  · refine Ex.condT _ rfl hc_47 ?_
                    obtain ⟨x_48, hx_48, h⟩ := Option.bind_eq_some_iff.1 h
                    refine regH 9 [(4, .rop (C_api_Bill x_48))] [3, 5, 6, 7, 8, 9, 11] [LGet (r_3.1.Bills.map A_api_Bill) i_37 3 (C_api_Bill x_48)] (mkS 100 [(3, .ptr 1 0), (5, .int .i64 r_4.2), (6, .int .i64 (IntKind.i64.wrap (before_36 - x_48.Amount))), (7, .int .i64 day_9), (8, .int .i64 r_14.1), (9, .int .i64 r_14.2), (11, .int .i64 i_37)]) (⟨[(C_bk_Drum r_3.2), (C_api_Ledger r_3.1)], []⟩) (by kernel_rfl) ⟨LGet.of hx_48 rfl, trivial⟩ rfl ?_
                    (try simp only [reduceCtorEq, AEx.ex.injEq, Nat.reduceEqDiff, if_true, if_false])
                    exact ⟨_, _, Forgets.refl _ _ _, (IntKind.i64.wrap (before_36 - x_48.Amount)), h, rfl, rfl⟩
                  · refine Ex.condF _ rfl hc_47 ?_
                    refine Ex.skip ?_
                    (try simp only [reduceCtorEq, AEx.ex.injEq, Nat.reduceEqDiff, if_true, if_false])
                    exact ⟨_, _, forgetK [3, 5, 6, 7, 8, 9, 11], before_36, h, rfl, rfl⟩
                · rintro a S ⟨before_42, h, rfl, rfl⟩
                  subst hK_45
                  refine regH 3 [] [3, 5, 6, 7, 8, 9, 11] [] (mkS 100 [(3, .ptr 1 0), (5, .int .i64 r_4.2), (6, .int .i64 before_42), (7, .int .i64 day_9), (8, .int .i64 r_14.1), (9, .int .i64 r_14.2), (11, .int .i64 (IntKind.i64.wrap (i_37 + 1)))]) (⟨[(C_bk_Drum r_3.2), (C_api_Ledger r_3.1)], []⟩) (by kernel_rfl) trivial rfl ?_
                  dsimp only
                  exact ⟨_, _, Forgets.refl _ _ _, k, Nat.lt_succ_self k, before_42, (IntKind.i64.wrap (i_37 + 1)), h, rfl, rfl⟩
              · refine Ex.condF _ rfl hc_41 ?_
                refine Ex.exit ?_
                (try simp only [reduceCtorEq, AEx.ex.injEq, Nat.reduceEqDiff, if_true, if_false])
                exact ⟨_, _, forgetK [3, 5, 6, 7, 8, 9], before_36, h, rfl, rfl⟩
          · rintro a S ⟨before_32, h, rfl, rfl⟩
            subst hK_35
            obtain ⟨K_51, hK_52, h⟩ := letE h
            refine Ex.seqJ (fun a S => ∃ (y_49 : Bool), K_51 y_49 = some r ∧ a = mkS 100 [(3, .ptr 1 0), (5, .int .i64 r_4.2), (6, .int .i64 before_32), (7, .int .i64 day_9), (90, .bool y_49)] ∧ S = ⟨[(C_bk_Drum r_3.2), (C_api_Ledger r_3.1)], []⟩) ?_ ?_
            · rcases condI h with ⟨hc_53, h⟩ | ⟨hc_53, h⟩
              · refine regH 15 [(2, .eq (.bool true))] [3, 5, 6, 7, 90] [AV.bool (r_14.2 != 0) = AV.bool true] (mkS 100 [(3, .ptr 1 0), (5, .int .i64 r_4.2), (6, .int .i64 before_32), (7, .int .i64 day_9), (90, .bool true)]) (⟨[(C_bk_Drum r_3.2), (C_api_Ledger r_3.1)], []⟩) (by kernel_rfl) ⟨congrArg AV.bool hc_53, trivial⟩ rfl ?_
                (try simp only [reduceCtorEq, AEx.ex.injEq, Nat.reduceEqDiff, if_true, if_false])
                exact ⟨_, _, Forgets.refl _ _ _, true, h, rfl, rfl⟩
              · rcases condI h with ⟨hc_54, h⟩ | ⟨hc_54, h⟩
                · refine regH 15 [(2, .eq (.bool false)), (7, .eq (.bool true))] [3, 5, 6, 7, 90] [AV.bool (r_14.2 != 0) = AV.bool false, AV.bool (r_14.1 != before_32) = AV.bool true] (mkS 100 [(3, .ptr 1 0), (5, .int .i64 r_4.2), (6, .int .i64 before_32), (7, .int .i64 day_9), (90, .bool true)]) (⟨[(C_bk_Drum r_3.2), (C_api_Ledger r_3.1)], []⟩) (by kernel_rfl) ⟨congrArg AV.bool hc_53, congrArg AV.bool hc_54, trivial⟩ rfl ?_
                  (try simp only [reduceCtorEq, AEx.ex.injEq, Nat.reduceEqDiff, if_true, if_false])
                  exact ⟨_, _, Forgets.refl _ _ _, true, h, rfl, rfl⟩
                · rcases condI h with ⟨hc_55, h⟩ | ⟨hc_55, h⟩
                  · refine regH 15 [(2, .eq (.bool false)), (7, .eq (.bool false)), (10, .eq (.bool true))] [3, 5, 6, 7, 90] [AV.bool (r_14.2 != 0) = AV.bool false, AV.bool (r_14.1 != before_32) = AV.bool false, AV.bool (r_4.2 == 0) = AV.bool true] (mkS 100 [(3, .ptr 1 0), (5, .int .i64 r_4.2), (6, .int .i64 before_32), (7, .int .i64 day_9), (90, .bool (decide (r_14.1 < 0)))]) (⟨[(C_bk_Drum r_3.2), (C_api_Ledger r_3.1)], []⟩) (by kernel_rfl) ⟨congrArg AV.bool hc_53, congrArg AV.bool hc_54, congrArg AV.bool hc_55, trivial⟩ rfl ?_
                    (try simp only [reduceCtorEq, AEx.ex.injEq, Nat.reduceEqDiff, if_true, if_false])
                    exact ⟨_, _, Forgets.refl _ _ _, (decide (r_14.1 < 0)), h, rfl, rfl⟩
                  · refine regH 15 [(2, .eq (.bool false)), (7, .eq (.bool false)), (10, .eq (.bool false))] [3, 5, 6, 7, 90] [AV.bool (r_14.2 != 0) = AV.bool false, AV.bool (r_14.1 != before_32) = AV.bool false, AV.bool (r_4.2 == 0) = AV.bool false] (mkS 100 [(3, .ptr 1 0), (5, .int .i64 r_4.2), (6, .int .i64 before_32), (7, .int .i64 day_9), (90, .bool false)]) (⟨[(C_bk_Drum r_3.2), (C_api_Ledger r_3.1)], []⟩) (by kernel_rfl) ⟨congrArg AV.bool hc_53, congrArg AV.bool hc_54, congrArg AV.bool hc_55, trivial⟩ rfl ?_
                    (try simp only [reduceCtorEq, AEx.ex.injEq, Nat.reduceEqDiff, if_true, if_false])
                    exact ⟨_, _, Forgets.refl _ _ _, false, h, rfl, rfl⟩
            · rintro a S ⟨y_49, h, rfl, rfl⟩
              subst hK_52
              rcases condI h with ⟨hc_56, h⟩ | ⟨hc_56, h⟩
              · refine Ex.condT _ rfl hc_56 ?_
                refine Ex.seq ?_
                refine regH 1 [] [2] [] (mkS 100 [(2, .bool false)]) (⟨[(C_bk_Drum r_3.2), (C_api_Ledger r_3.1)], []⟩) (by kernel_rfl) trivial rfl ?_
                refine Ex.ret ?_
                obtain rfl := Option.some.inj h
                exact ⟨.inr rfl, .bool false, by kernel_rfl, by kernel_rfl, by kernel_rfl, by kernel_rfl⟩
              · refine Ex.condF _ rfl hc_56 ?_
                refine Ex.skip ?_
                refine regH 3 [] [3, 5, 6, 7] [] (mkS 100 [(3, .ptr 1 0), (5, .int .i64 r_4.2), (6, .int .i64 before_32), (7, .int .i64 (IntKind.i64.wrap (day_9 + 1)))]) (⟨[(C_bk_Drum r_3.2), (C_api_Ledger r_3.1)], []⟩) (by kernel_rfl) trivial rfl ?_
                dsimp only
                exact ⟨_, _, Forgets.refl _ _ _, k, Nat.lt_succ_self k, before_32, (IntKind.i64.wrap (day_9 + 1)), h, rfl, rfl⟩
      · refine Ex.condF _ rfl hc_13 ?_
        refine Ex.exit ?_
        (try simp only [reduceCtorEq, AEx.ex.injEq, Nat.reduceEqDiff, if_true, if_false])
        exact ⟨_, _, forgetA (m := 100) 0 [] [(5, .int .i64 r_4.2)] [] [] (by simp [setAll]) (by simp) ⟨rfl, trivial⟩ (by simp) rfl (by decide), h, rfl, rfl⟩
  · rintro a S ⟨h, rfl, rfl⟩
    subst hK_7
    refine Ex.seq ?_
    rcases condI h with ⟨hc_57, h⟩ | ⟨hc_57, h⟩
    · obtain ⟨r_58, hr_58, h⟩ := Option.bind_eq_some_iff.1 h
      refine Ex.reg ?_
      refine runH 7 [(2, .eq (.bool true))] [97] [AV.bool (r_4.2 == 0) = AV.bool true] (mkS 100 [(97, .bool true)]) (⟨[], []⟩) (by kernel_rfl) ⟨congrArg AV.bool hc_57, trivial⟩ ?_
      refine ExO.callL [] [] rfl rfl (a_bl9_awake) rfl rfl (d_bl9_awake N r_58 hr_58) (b_bl9_awake _ _ _ _) rfl ?_
      refine runH 2 [] [2] [] (mkS 100 [(2, .bool r_58)]) (⟨[], []⟩) (by kernel_rfl) trivial ?_
      refine ExO.nil ?_
      refine Ex.ret ?_
      obtain rfl := Option.some.inj h
      exact ⟨.inr rfl, .bool r_58, by kernel_rfl, by kernel_rfl, by kernel_rfl, by kernel_rfl⟩
    · rcases condI h with ⟨hc_59, h⟩ | ⟨hc_59, h⟩
      · obtain ⟨r_60, hr_60, h⟩ := Option.bind_eq_some_iff.1 h
        refine Ex.reg ?_
        refine runH 7 [(2, .eq (.bool false)), (6, .eq (.bool true))] [97] [AV.bool (r_4.2 == 0) = AV.bool false, AV.bool (r_4.2 == 4) = AV.bool true] (mkS 100 [(97, .bool true)]) (⟨[], []⟩) (by kernel_rfl) ⟨congrArg AV.bool hc_57, congrArg AV.bool hc_59, trivial⟩ ?_
        refine ExO.callL [] [] rfl rfl (a_bl9_awake) rfl rfl (d_bl9_awake N r_60 hr_60) (b_bl9_awake _ _ _ _) rfl ?_
        refine runH 2 [] [2] [] (mkS 100 [(2, .bool r_60)]) (⟨[], []⟩) (by kernel_rfl) trivial ?_
        refine ExO.nil ?_
        refine Ex.ret ?_
        obtain rfl := Option.some.inj h
        exact ⟨.inr rfl, .bool r_60, by kernel_rfl, by kernel_rfl, by kernel_rfl, by kernel_rfl⟩
      · refine regH 10 [(2, .eq (.bool false)), (6, .eq (.bool false))] [2] [AV.bool (r_4.2 == 0) = AV.bool false, AV.bool (r_4.2 == 4) = AV.bool false] (mkS 100 [(2, .bool false)]) (⟨[], []⟩) (by kernel_rfl) ⟨congrArg AV.bool hc_57, congrArg AV.bool hc_59, trivial⟩ rfl ?_
        refine Ex.ret ?_
        obtain rfl := Option.some.inj h
        exact ⟨.inr rfl, .bool false, by kernel_rfl, by kernel_rfl, by kernel_rfl, by kernel_rfl⟩
end Go.Proofs.Ytkpihepaaiofgaa
end
section
namespace Go.Proofs.Ytkpihepaaiofgaa
open Go.RowKit
set_option linter.unusedVariables false
set_option linter.unusedSimpArgs false
set_option maxRecDepth 10000
set_option maxHeartbeats 4000000

theorem foldT {α B ρ : Type} (l : List α) (T : Option ρ → Prop) (f : B → α → B) {body : (B → Int → Option ρ) → B → Int → Option ρ} {N : Nat} {b : B} (hN : l.length < N) (hend : ∀ rec, T (body rec (l.foldl f b) (l.length : Int))) (hstep : ∀ rec (i : Nat) x b, l[i]? = some x → i < l.length → body rec b (i : Int) = rec (f b x) ((i + 1 : Nat) : Int)) : T (loop2 body N b 0) := by
  refine invZ' l T (fun i b' => b' = (l.take i).foldl f b) hN rfl (fun rec b' hb => ?_) (fun rec i x b' hx hi hb ih => ?_)
  · rw [hb, List.take_length]
    exact hend rec
  · rw [hstep rec i x b' hx hi]
    refine ih _ ?_
    rw [hb, List.take_add_one, hx, List.foldl_append]
    rfl
theorem foldIf {α : Type} (p : α → Bool) (g : α → Int) (m : Int) (h0 : 0 ≤ m) : ∀ (l : List α) (b : Int), (∀ x ∈ l, 0 ≤ g x ∧ g x ≤ m) → -9223372036854775808 ≤ b → b + m * (l.length : Int) < 9223372036854775808 → l.foldl (fun b x => bif p x then IntKind.i64.wrap (b + g x) else b) b = b + (l.map fun x => bif p x then g x else 0).sum
  | [], b, _, _, _ => by simp
  | x :: l, b, h, h1, h2 => by
    have hx := h x (by simp)
    have e : m * ((l.length + 1 : Nat) : Int) = m * (l.length : Int) + m := by rw [Int.natCast_add, Int.mul_add]; simp
    have hp : 0 ≤ m * (l.length : Int) := Int.mul_nonneg h0 (by omega)
    simp only [List.length_cons, e] at h1 h2
    simp only [List.foldl_cons, List.map_cons, List.sum_cons]
    cases p x with
    | true =>
      simp only [cond_true]
      rw [w64 (x := b + g x) (by omega) (by omega), foldIf p g m h0 l (b + g x) (fun y hy => h y (by simp [hy])) (by omega) (by omega)]
      omega
    | false =>
      simp only [cond_false]
      rw [foldIf p g m h0 l b (fun y hy => h y (by simp [hy])) (by omega) (by omega)]
      omega
theorem foldIfN {α : Type} (p : α → Bool) (g : α → Int) (m : Int) (h0 : 0 ≤ m) : ∀ (l : List α) (b : Int), (∀ x ∈ l, 0 ≤ g x ∧ g x ≤ m) → -9223372036854775808 ≤ b - m * (l.length : Int) → b < 9223372036854775808 → l.foldl (fun b x => bif p x then IntKind.i64.wrap (b - g x) else b) b = b - (l.map fun x => bif p x then g x else 0).sum
  | [], b, _, _, _ => by simp
  | x :: l, b, h, h1, h2 => by
    have hx := h x (by simp)
    have e : m * ((l.length + 1 : Nat) : Int) = m * (l.length : Int) + m := by rw [Int.natCast_add, Int.mul_add]; simp
    have hp : 0 ≤ m * (l.length : Int) := Int.mul_nonneg h0 (by omega)
    simp only [List.length_cons, e] at h1 h2
    simp only [List.foldl_cons, List.map_cons, List.sum_cons]
    cases p x with
    | true =>
      simp only [cond_true]
      rw [w64 (x := b - g x) (by omega) (by omega), foldIfN p g m h0 l (b - g x) (fun y hy => h y (by simp [hy])) (by omega) (by omega)]
      omega
    | false =>
      simp only [cond_false]
      rw [foldIfN p g m h0 l b (fun y hy => h y (by simp [hy])) (by omega) (by omega)]
      omega
theorem come_day (L : T_api_Ledger) (d : Int) : come L d = come L (d - 1) + (L.Funds.map fun f => bif f.Day == d then f.Amount else 0).sum := by
  unfold come
  rw [← sum_add]
  congr 1
  refine List.map_congr_left fun f _ => ?_
  by_cases h1 : f.Day = d
  · simp [h1]
    omega
  · have : (f.Day == d) = false := by simpa using h1
    rw [this, cond_false]
    by_cases h2 : f.Day > d
    · rw [if_pos h2, if_pos (by omega)]; omega
    · rw [if_neg h2, if_neg (by omega)]; omega
theorem paid_day (L : T_api_Ledger) (d : Int) : paid L d = paid L (d - 1) + (L.Bills.map fun f => bif f.Day == d then f.Amount else 0).sum := by
  unfold paid
  rw [← sum_add]
  congr 1
  refine List.map_congr_left fun f _ => ?_
  by_cases h1 : f.Day = d
  · simp [h1]
    omega
  · have : (f.Day == d) = false := by simpa using h1
    rw [this, cond_false]
    by_cases h2 : f.Day > d
    · rw [if_pos h2, if_pos (by omega)]; omega
    · rw [if_neg h2, if_neg (by omega)]; omega
theorem sum_zero {α : Type} (g : α → Int) : ∀ (l : List α), (∀ x ∈ l, g x = 0) → (l.map g).sum = 0
  | [], _ => rfl
  | x :: l, h => by simp [h x (by simp), sum_zero g l fun y hy => h y (by simp [hy])]
theorem balance_law (N : Nat) (hN : 9223372036854775808 + 1000 < N) (zs : List Int) (hz : zs.length < 9223372036854775808) (haw : p_bl9_awake N = some true) : p_bl9_CoinBalance N zs = some true := by
  have hN1 : 1000 < N := by omega
  unfold p_bl9_CoinBalance
  obtain ⟨d, e⟩ := drumOf_p N zs (by omega) hz
  rw [e, Option.bind_some]; clear e
  obtain ⟨L, d2, e, h⟩ := ledgerOf_p N hN1 d 5 5 50 (by omega) (by omega) (by omega) (by omega)
  rw [show p_bk_LedgerOf N d 5 5 50 = some (L, d2) from e, Option.bind_some]; clear e
  dsimp only
  have g1 := h.nf; have g2 := h.nb
  obtain ⟨cs, p, m, hcs, hp, hm, ht⟩ := trace_p N hN1 5 5 50 (by omega) (by omega) (by omega) L h
  obtain ⟨t, k, e, hk⟩ : ∃ t k, p_coin_Trace N L = some (t, k) ∧ (k = 4 ∨ (k = 0 ∧ m ≤ 0)) := by
    rcases ht with ⟨_, e⟩ | ⟨h0, t, e⟩
    · exact ⟨_, _, e, .inl rfl⟩
    · exact ⟨_, _, e, .inr ⟨rfl, h0⟩⟩
  rw [e, Option.bind_some]; clear e ht
  dsimp only
  simp only [letJ_eq]
  refine loop2_T (fun x => x = some true) (fun before day => ∃ i : Nat, day = (i : Int) ∧ i ≤ 25 ∧ before = come L ((i : Int) - 1) - paid L ((i : Int) - 1)) (fun _ day => 100 - day.toNat) ?_ N 0 0 ⟨0, rfl, by omega, ?_⟩ (by omega)
  · rintro rec before day ⟨i, rfl, hi, hb⟩ ih
    by_cases hlt : (i : Int) < 25
    · rw [show decide ((i : Int) < 25) = true from decide_eq_true hlt, cond_true, balance_p N hN1 5 5 50 (by omega) (by omega) (by omega) (by omega) L h (i : Int) (by omega) (by omega), Option.bind_some]
      have b1 := come_bd (by omega) (by omega) (by omega) h ((i : Int) - 1)
      have b2 := paid_bd (by omega) (by omega) (by omega) h ((i : Int) - 1)
      have b3 := come_day L (i : Int)
      have b4 := paid_day L (i : Int)
      have b5 := come_bd (by omega) (by omega) (by omega) h (i : Int)
      have b6 := paid_bd (by omega) (by omega) (by omega) h (i : Int)
      refine foldT L.Funds (fun x => x = some true) (fun b (f : T_api_Fund) => bif f.Day == (i : Int) then IntKind.i64.wrap (b + f.Amount) else b) (by omega) (fun rec2 => ?_) (fun rec2 j x b hx hj => ?_)
      · simp only [ltE, cond_false]
        rw [foldIf (fun f : T_api_Fund => f.Day == (i : Int)) (fun f => f.Amount) 100 (by omega) L.Funds before (fun f hf => by
          obtain ⟨_, _, _, _, b5, b6, _⟩ := h.fund f hf
          omega) (by omega) (by omega)]
        refine foldT L.Bills (fun x => x = some true) (fun b (f : T_api_Bill) => bif f.Day == (i : Int) then IntKind.i64.wrap (b - f.Amount) else b) (by omega) (fun rec3 => ?_) (fun rec3 j x b hx hj => ?_)
        · simp only [ltE, cond_false]
          rw [foldIfN (fun f : T_api_Bill => f.Day == (i : Int)) (fun f => f.Amount) 100 (by omega) L.Bills _ (fun f hf => by
            obtain ⟨_, _, _, _, b5, b6⟩ := h.bill f hf
            omega) (by omega) (by omega)]
          have hv : before + (L.Funds.map fun x => bif x.Day == (i : Int) then x.Amount else 0).sum - (L.Bills.map fun x => bif x.Day == (i : Int) then x.Amount else 0).sum = come L (i : Int) - paid L (i : Int) := by omega
          rw [hv, nadd1 i (by omega)]
          simp only [bne_self_eq_false, cond_false]
          have hgo := ih (come L (i : Int) - paid L (i : Int)) ((i + 1 : Nat) : Int) ⟨i + 1, rfl, by omega, by rw [show ((i + 1 : Nat) : Int) - 1 = (i : Int) by omega]⟩ (by omega)
          rcases hk with hk | ⟨hk, hm0⟩
          · subst hk
            exact hgo
          · subst hk
            have := bal_nonneg (by omega) (by omega) (by omega) (by omega) h hcs hp hm hm0 (i : Int)
            simp only [beq_self_eq_true, cond_true]
            rw [show decide (come L (i : Int) - paid L (i : Int) < 0) = false from decide_eq_false (by omega), cond_false]
            exact hgo
        · simp only [ltD hj, cond_true, getD_at hx, Option.bind_some, nadd1 j (by omega)]
          cases hq : (x.Day == (i : Int)) <;> simp only [hq, cond_true, cond_false]
      · simp only [ltD hj, cond_true, getD_at hx, Option.bind_some, nadd1 j (by omega)]
        cases hq : (x.Day == (i : Int)) <;> simp only [hq, cond_true, cond_false]
    · rw [show decide ((i : Int) < 25) = false from decide_eq_false hlt, cond_false, haw]
      rcases hk with hk | ⟨hk, _⟩
      · subst hk; rfl
      · subst hk; rfl
  · have z1 : come L (((0 : Nat) : Int) - 1) = 0 := by
      unfold come
      refine sum_zero _ _ fun f hf => ?_
      obtain ⟨b1, _⟩ := h.fund f hf
      rw [if_pos (by omega)]
    have z2 : paid L (((0 : Nat) : Int) - 1) = 0 := by
      unfold paid
      refine sum_zero _ _ fun f hf => ?_
      obtain ⟨b1, _⟩ := h.bill f hf
      rw [if_pos (by omega)]
    rw [z1, z2]
    rfl
theorem awake_b : p_bl9_awake 18446744073709551616 = some true := by kernel_rfl
theorem balance_m (zs : List Int) (h : zs.length < 9223372036854775808) : Does Try.prog 11 [.sl (zs.map (AV.int .i64)) none] [] fun v _ => v = .bool true :=
  (d_bl9_CoinBalance 18446744073709551616 zs true (balance_law _ (by omega) zs h awake_b)).mono fun v c h => h.1
end Go.Proofs.Ytkpihepaaiofgaa
end
section
namespace Go.Proofs.Ytkpihepaaiofgaa
open Go.RowKit Go.ChangeShapes Go.WideShapes Go.ChangeAt
set_option linter.unusedVariables false
set_option linter.unusedSimpArgs false

def nums (zs : List Int) : AV := .sl (zs.map fun z => .int .i64 z) none
theorem prog_own : ownKnob Try.prog.godebug = none := by kernel_rfl
theorem prog_laid : laidOutB Try.prog = true := by kernel_rfl

namespace coinBalance
set_option maxRecDepth 100000 in
theorem lifted (hM : ∀ zs : List Int, (∀ z ∈ zs, (Lit.int .i64 z).wf = true) → zs.length ≤ maxLen → Does Try.prog 11 [nums zs] [] fun v _ => v = .bool true) (os : Os) (started : os.Started) (H : Type) (enc : TypeId × Value → H) :
    ReturnsInHanded {} Try.checked os 11 .any (Rows.coinBalanceSpec.pre6 enc Try.prog Try.f11 Rows.coinBalanceRow.domain false) (Rows.coinBalanceSpec.post enc Try.prog Try.f11 false true false false) := by
  refine returnsInHanded_of_change (C := Try.checked) prog_own started (by kernel_rfl) Try.func11
    (ChangeSpec.witness6 (enc := enc) (C := Try.checked) false ⟨#[], #[.slice none 0 0], []⟩ 8 (by kernel_rfl) (by kernel_rfl) (by kernel_rfl) (by kernel_rfl)) ?_
  intro W base args ds gs before hval0 hW hcnd _
  have hval : ∀ (j : Nat) t v, Try.f11.params[j]? = some t → args[j]? = some v → Value.okWide Try.prog W .any base t v := hval0
  have hW' := hW
  obtain ⟨p, q, hA0, hV, rfl, hfz, hnd⟩ := hW
  have hA : DataW.TrodAll enc Try.prog W 0 (fun _ => true) true Try.f11.params.toList args.toList ds p := hA0
  rw [Try.params11] at hA hval
  obtain ⟨v0, vs0, d0, ds0, p0, q0, hargs, rfl, rfl, h0, r0⟩ := trodAll_cons hA
  obtain ⟨rfl, rfl, rfl⟩ := trodAll_nil r0
  obtain rfl : args = #[v0] := by cases args; simp_all
  obtain ⟨rfl, rfl⟩ := trodVars_none hV
  obtain ⟨a0, len0, cap0, rfl⟩ := okWide_slice Try.underlying28 (hval 0 28 v0 rfl rfl)
  have k0 := h0
  have lt0 : ∀ x ∈ p0, x.block < W.heap.size := by obtain ⟨m, hm⟩ := k0; exact DataW.trod_lt m _ _ _ hm
  obtain ⟨zs, hwf, hlen, hvr⟩ := ints_vr Try.underlying28 Try.underlying3 (by kernel_rfl) h0
  clear hA0 hval0
  refine ((hM zs hwf hlen).law (us := #[.slice a0 len0 cap0]) ⟨rfl, fun i x u hx hu => ?_⟩).mono fun e W' ⟨he, bel⟩ => ?_
  · cases i with
    | zero => simp at hx hu; subst hx; subst hu; exact hvr
    | succ i => simp at hx
  subst he
  exact ⟨_, rfl, _, _, _, [], _, [], hW', trodAll_mk1 (shut_bool Try.underlying4 _), (trodAll_cons_mk (Below.trod prog_laid (by kernel_rfl) (of_decide_eq_true (by kernel_rfl)) k0 bel lt0) trodAll_mk0), rfl, bel.frame _, fun h => by cases h⟩

theorem frame (hM : ∀ zs : List Int, (∀ z ∈ zs, (Lit.int .i64 z).wf = true) → zs.length ≤ maxLen → Does Try.prog 11 [nums zs] [] fun v _ => v = .bool true) : Rows.CoinBalanceSaid :=
  OpenClaim.holds_of_wide 11 Try.f11 rfl rfl rfl rfl rfl rfl rfl ⟨rfl, rfl, rfl, rfl, rfl⟩ rfl rfl rfl rfl rfl (by kernel_rfl) Try.func11 (by kernel_rfl)
    (of_decide_eq_true (by kernel_rfl)) (by unfold Func.isWrapper; first | (rw [if_pos (by decide +kernel)]; kernel_rfl) | (rw [if_neg (by decide +kernel)]; exact ⟨rfl, rfl⟩))
    (fun os started H enc _ => lifted hM os started H enc)
end coinBalance
end Go.Proofs.Ytkpihepaaiofgaa
end
