/- Part 6 of what the law needs: own work, put together. -/
import Derived.Test.YtfhapfljomgmnaaCoinTra4
set_option linter.unusedVariables false
set_option linter.unusedSimpArgs false
set_option maxRecDepth 10000
set_option maxHeartbeats 4000000
section
namespace Go.Proofs.Ytfhapfljomgmnaa
open Go.RowKit

theorem w64 {x : Int} (h0 : -9223372036854775808 ≤ x) (h1 : x < 9223372036854775808) : IntKind.i64.wrap x = x := by
 simp [IntKind.wrap, IntKind.bits, IntKind.signed]
 omega
theorem wu64 (x : Int) : 0 ≤ IntKind.u64.wrap x ∧ IntKind.u64.wrap x < 2 ^ 64 := by
 have e : IntKind.u64.wrap x = x % 2 ^ 64 := rfl
 omega
theorem wu64_id {x : Int} (h0 : 0 ≤ x) (h1 : x < 2 ^ 64) : IntKind.u64.wrap x = x := by
 have e : IntKind.u64.wrap x = x % 2 ^ 64 := rfl
 omega

section
variable {ρ : Type} {A B C : Type}
theorem loop2_T {body : (A → B → Option ρ) → A → B → Option ρ} (T : Option ρ → Prop) (P : A → B → Prop) (μ : A → B → Nat) (h : ∀ rec a b, P a b → (∀ a' b', P a' b' → μ a' b' < μ a b → T (rec a' b')) → T (body rec a b)) : ∀ (N : Nat) (a : A) (b : B), P a b → μ a b < N → T (loop2 body N a b)
 | 0, a, b, _, hm => absurd hm (Nat.not_lt_zero _)
 | n + 1, a, b, hp, hm => h (loop2 body n) a b hp fun a' b' hp' hm' => loop2_T T P μ h n a' b' hp' (by omega)
theorem loop3_T {body : (A → B → C → Option ρ) → A → B → C → Option ρ} (T : Option ρ → Prop) (P : A → B → C → Prop) (μ : A → B → C → Nat) (h : ∀ rec a b c, P a b c → (∀ a' b' c', P a' b' c' → μ a' b' c' < μ a b c → T (rec a' b' c')) → T (body rec a b c)) : ∀ (N : Nat) (a : A) (b : B) (c : C), P a b c → μ a b c < N → T (loop3 body N a b c)
 | 0, a, b, c, _, hm => absurd hm (Nat.not_lt_zero _)
 | n + 1, a, b, c, hp, hm => h (loop3 body n) a b c hp fun a' b' c' hp' hm' => loop3_T T P μ h n a' b' c' hp' (by omega)
end
theorem getI_nat {α : Type} (l : List α) (i : Nat) : getI l (i : Int) = l[i]? := by simp [getI]
theorem getI_lt {α : Type} {l : List α} {i : Int} (h0 : 0 ≤ i) (h1 : i < (l.length : Int)) : ∃ x, getI l i = some x ∧ l[i.toNat]? = some x ∧ x ∈ l := by
 have hlt : i.toNat < l.length := by omega
 refine ⟨l[i.toNat], ?_, List.getElem?_eq_getElem hlt, List.getElem_mem hlt⟩
 simp only [getI, h0, if_true]
 exact List.getElem?_eq_getElem hlt
theorem pushI_ok {α : Type} {l m : List α} (h : l.length + m.length ≤ 65536) : pushI l m = some (l ++ m) := if_pos h
theorem letJ_eq {κ ρ : Type} (K : κ) (f : κ → Option ρ) : letJ K f = f K := rfl

theorem hit_p (N : Nat) (d : T_bk_Drum) : ∃ y d', p_bk_Drum_hit N d = some (y, d') ∧ 0 ≤ y ∧ y < 2 ^ 64 := by
 refine ⟨_, _, rfl, ?_⟩
 exact wu64 _
theorem roll_p (N : Nat) (d : T_bk_Drum) (n : Int) (hn : n < 9223372036854775808) : ∃ r d', p_bk_Drum_Roll N d n = some (r, d') ∧ 0 ≤ r ∧ (n < 2 → r = 0) ∧ (2 ≤ n → r < n) := by
 unfold p_bk_Drum_Roll
 by_cases h2 : n < 2
 ·simp only [h2, decide_true, cond_true]
  exact ⟨0, d, rfl, by omega, fun _ => rfl, fun h => by omega⟩
 ·simp only [h2, decide_false, cond_false]
  obtain ⟨y, d', hy, h0, h1⟩ := hit_p N d
  have hu : IntKind.u64.wrap n = n := wu64_id (by omega) (by omega)
  have hnz : n ≠ 0 := by omega
  rw [hy, hu]
  simp only [Option.bind_some, nzI, hnz, if_false]
  have hsh : Int.fdiv y ((2 : Int) ^ (min (Int.toNat 1) (IntKind.bits .u64))) = y / 2 := by
   have : (2 : Int) ^ (min (Int.toNat 1) (IntKind.bits .u64)) = 2 := rfl
   rw [this, Int.fdiv_eq_ediv_of_nonneg _ (by omega)]
  rw [hsh]
  have hd0 : 0 ≤ y / 2 := by omega
  have hm : Int.tmod (y / 2) n = (y / 2) % n := Int.tmod_eq_emod_of_nonneg hd0
  have hm0 : 0 ≤ (y / 2) % n := Int.emod_nonneg _ hnz
  have hm1 : (y / 2) % n < n := Int.emod_lt_of_pos _ (by omega)
  rw [hm, w64 (x := y / 2 % n) (by omega) (by omega)]
  exact ⟨_, d', rfl, hm0, fun h => False.elim h, fun _ => hm1⟩
theorem any_p (N : Nat) (d : T_bk_Drum) (l : List Int) (hl : l ≠ []) (hlen : l.length < 1000) : ∃ r d', p_bk_Drum_Any N d l = some (r, d') ∧ r ∈ l := by
 unfold p_bk_Drum_Any
 have hpos : 0 < l.length := List.length_pos_iff.2 hl
 have hb : (((l.length : Nat) : Int) == 0) = false := by simp; omega
 rw [hb, cond_false]
 obtain ⟨r, d', h1, h2, h3, h4⟩ := roll_p N d ((l.length : Nat) : Int) (by omega)
 rw [h1]
 simp only [Option.bind_some]
 have hr : r < (l.length : Int) := by
  by_cases h : (l.length : Int) < 2
  ·rw [h3 h]; omega
  ·exact h4 (by omega)
 obtain ⟨x, e1, _, e3⟩ := getI_lt h2 hr
 rw [e1]
 exact ⟨x, d', rfl, e3⟩
theorem mid_p (N : Nat) (d : T_bk_Drum) (lo hi : Int) (h0 : -4611686018427387904 ≤ lo) (h1 : lo ≤ 4611686018427387903) (h2 : -4611686018427387904 ≤ hi) (h3 : hi ≤ 4611686018427387902) : ∃ r d', p_bk_Drum_Mid N d lo hi = some (r, d') ∧ lo ≤ r ∧ (lo ≤ hi → r ≤ hi) ∧ (hi < lo → r = lo) := by
 unfold p_bk_Drum_Mid
 rw [w64 (x := hi - lo) (by omega) (by omega)]
 by_cases hc : hi - lo + 1 < 9223372036854775808
 ·rw [w64 (x := hi - lo + 1) (by omega) hc]
  obtain ⟨r, d', e1, e2, e3, e4⟩ := roll_p N d (hi - lo + 1) hc
  rw [e1]
  simp only [Option.bind_some]
  have hr : r ≤ hi - lo ∨ r = 0 := by
   by_cases h : hi - lo + 1 < 2
   ·exact .inr (e3 h)
   ·have := e4 (by omega); exact .inl (by omega)
  rw [w64 (by omega) (by omega)]
  exact ⟨_, d', rfl, by omega, fun h => by omega, fun h => by
   have := e3 (by omega)
   omega⟩
 ·omega
theorem drumOf_step (N : Nat) (l : List Int) (rec : Int → Int → Option T_bk_Drum) (i q : Int) (h : i < 9223372036854775807) (h0 : 0 ≤ i) (ih : ∀ b', ∃ d, rec (i + 1) b' = some d) : ∃ d, ((p_bk_Drum_hit N (⟨q⟩ : T_bk_Drum)).bind fun r_14 => (rec (IntKind.i64.wrap (i + 1)) r_14.2.beat_)) = some d := by
 obtain ⟨y, d', g1, _, _⟩ := hit_p N ⟨q⟩
 rw [g1, w64 (x := i + 1) (by omega) (by omega)]
 exact ih _
theorem drumOf_p (N : Nat) (l : List Int) (hN : l.length < N) (hl : l.length < 9223372036854775808) : ∃ d, p_bk_DrumOf N l = some d := by
 unfold p_bk_DrumOf
 rw [letJ_eq]
 refine loop2_T (fun x => ∃ d, x = some d) (fun i b => 0 ≤ i ∧ i ≤ (l.length : Int)) (fun i b => l.length - i.toNat) ?_ N 0 _ ⟨by omega, by omega⟩ (by simpa using hN)
 rintro rec i b ⟨h0, h1⟩ ih
 by_cases hc : i < (l.length : Int)
 ·rw [show decide (i < ((l.length : Nat) : Int)) = true from decide_eq_true hc, cond_true]
  obtain ⟨x, e1, _, _⟩ := getI_lt h0 hc
  rw [e1, Option.bind_some, Option.bind_some]
  exact drumOf_step N l rec i _ (by omega) h0 fun b' => ih _ _ ⟨by omega, by omega⟩ (by omega)
 ·rw [show decide (i < ((l.length : Nat) : Int)) = false from decide_eq_false hc, cond_false]
  exact ⟨_, rfl⟩
section
variable {A B ρ : Type}
theorem st1 (n : Nat) (body : (Int → Option ρ) → Int → Option ρ) (r : Option ρ) (hend : ∀ rec, body rec (n : Int) = r) (hstep : ∀ rec (i : Nat), i < n → body rec (i : Int) = rec ((i + 1 : Nat) : Int)) : ∀ (N i : Nat), i ≤ n → n - i < N → loop1 body N (i : Int) = r
 | 0, i, _, h => absurd h (Nat.not_lt_zero _)
 | N + 1, i, hle, hN => by
  show body (loop1 body N) (i : Int) = _
  by_cases hlt : i < n
  ·rw [hstep _ i hlt]; exact st1 n body r hend hstep N (i + 1) (by omega) (by omega)
  ·have : i = n := by omega
   subst this
   exact hend _
theorem st2 (n : Nat) (st : Nat → A) (body : (Int → A → Option ρ) → Int → A → Option ρ) (r : Option ρ) (hend : ∀ rec, body rec (n : Int) (st n) = r) (hstep : ∀ rec (i : Nat), i < n → body rec (i : Int) (st i) = rec ((i + 1 : Nat) : Int) (st (i + 1))) : ∀ (N i : Nat), i ≤ n → n - i < N → loop2 body N (i : Int) (st i) = r
 | 0, i, _, h => absurd h (Nat.not_lt_zero _)
 | N + 1, i, hle, hN => by
  show body (loop2 body N) (i : Int) (st i) = _
  by_cases hlt : i < n
  ·rw [hstep _ i hlt]; exact st2 n st body r hend hstep N (i + 1) (by omega) (by omega)
  ·have : i = n := by omega
   subst this
   exact hend _
theorem st2z (n : Nat) (st : Nat → A) {body : (Int → A → Option ρ) → Int → A → Option ρ} {r : Option ρ} {a : A} {N : Nat} (ha : a = st 0) (hN : n < N) (hend : ∀ rec, body rec (n : Int) (st n) = r) (hstep : ∀ rec (i : Nat), i < n → body rec (i : Int) (st i) = rec ((i + 1 : Nat) : Int) (st (i + 1))) : loop2 body N 0 a = r := by
 subst ha; exact st2 n st body r hend hstep N 0 (Nat.zero_le _) (by omega)
end
theorem nadd1 (i : Nat) (h : i < 4611686018427387904) : IntKind.i64.wrap ((i : Int) + 1) = ((i + 1 : Nat) : Int) := by
 rw [w64 (x := (i : Int) + 1) (by omega) (by omega)]
 omega
theorem ltD {i n : Nat} (h : i < n) : decide ((i : Int) < ((n : Nat) : Int)) = true := decide_eq_true (by omega)
theorem ltE (n : Nat) : decide (((n : Nat) : Int) < ((n : Nat) : Int)) = false := decide_eq_false (by omega)
theorem getD_ok {α : Type} [Inhabited α] {l : List α} {i : Nat} (h : i < l.length) : getI l (i : Int) = some (l[i]?.getD default) := by
 rw [getI_nat, List.getElem?_eq_getElem h]
 rfl

theorem rare_p (N : Nat) (d : T_bk_Drum) (n : Int) (hn : n < 9223372036854775808) : ∃ b d', p_bk_Drum_Rare N d n = some (b, d') := by
 unfold p_bk_Drum_Rare
 obtain ⟨r, d', e, _⟩ := roll_p N d n hn
 rw [e]
 exact ⟨_, _, rfl⟩
theorem roll_le (N : Nat) (d : T_bk_Drum) (n : Int) (h1 : 1 ≤ n) (hn : n < 9223372036854775808) : ∃ r d', p_bk_Drum_Roll N d n = some (r, d') ∧ 0 ≤ r ∧ r < n := by
 obtain ⟨r, d', e, h0, h2, h3⟩ := roll_p N d n hn
 refine ⟨r, d', e, h0, ?_⟩
 by_cases h : n < 2
 ·rw [h2 h]; omega
 ·exact h3 (by omega)
theorem eqInts_t (N : Nat) (l : List Int) (h : l.length < N) (h2 : l.length < 4611686018427387904) : p_bk_EqInts N l l = some true := by
 unfold p_bk_EqInts
 simp only [letJ_eq, bne_self_eq_false, cond_false]
 refine st1 l.length _ (some true) ?_ ?_ N 0 (by omega) (by omega)
 ·intro rec
  simp only [ltE, cond_false]
 ·intro rec i hi
  simp only [ltD hi, cond_true, getD_ok hi, Option.bind_some, bne_self_eq_false, cond_false, nadd1 i (by omega)]
theorem ints_t (N : Nat) (l : List Int) (h : l.length ≤ 65536) : p_bk_Ints N l = some l := by
 unfold p_bk_Ints
 rw [pushI_ok (by simpa using h)]
 rfl

def pre (l : List Int) (i : Nat) : Int := (l.take i).sum
def wsum (l : List Int) (i : Nat) : Int := (l.take i).foldl (fun a x => IntKind.i64.wrap (a + x)) 0
theorem wsum_succ (l : List Int) (i : Nat) (x : Int) (h : l[i]? = some x) : wsum l (i + 1) = IntKind.i64.wrap (wsum l i + x) := by
 have hlt := (List.getElem?_eq_some_iff.1 h).1
 unfold wsum
 rw [List.take_add_one, h]
 simp [List.foldl_append]
theorem pre_succ (l : List Int) (i : Nat) (x : Int) (h : l[i]? = some x) : pre l (i + 1) = pre l i + x := by
 unfold pre
 rw [List.take_add_one, h]
 simp
theorem pre_zero (l : List Int) : pre l 0 = 0 := rfl
theorem pre_bd (l : List Int) (m : Int) (h0 : 0 ≤ m) (h : ∀ x ∈ l, 0 ≤ x ∧ x ≤ m) : ∀ i, i ≤ l.length → 0 ≤ pre l i ∧ pre l i ≤ m * (i : Int)
 | 0, _ => by rw [pre_zero]; simp
 | i + 1, hi => by
  have ih := pre_bd l m h0 h i (by omega)
  have hx : l[i]? = some l[i] := List.getElem?_eq_getElem (by omega)
  have := h _ (List.getElem_mem (show i < l.length by omega))
  rw [pre_succ l i _ hx]
  have e : m * ((i + 1 : Nat) : Int) = m * (i : Int) + m := by rw [Int.natCast_add, Int.mul_add]; simp
  rw [e]; omega
theorem wsum_pre (l : List Int) (m : Int) (h0 : 0 ≤ m) (h : ∀ x ∈ l, 0 ≤ x ∧ x ≤ m) (hb : m * (l.length : Int) < 9223372036854775808) : ∀ i, i ≤ l.length → wsum l i = pre l i
 | 0, _ => rfl
 | i + 1, hi => by
  have hx : l[i]? = some l[i] := List.getElem?_eq_getElem (by omega)
  have ih := wsum_pre l m h0 h hb i (by omega)
  have hb2 := pre_bd l m h0 h (i + 1) hi
  have e : m * ((i + 1 : Nat) : Int) ≤ m * (l.length : Int) := Int.mul_le_mul_of_nonneg_left (by omega) h0
  rw [pre_succ l i _ hx] at hb2
  rw [wsum_succ l i _ hx, pre_succ l i _ hx, ih, w64 (by omega) (by omega)]
theorem getD_at {α : Type} [Inhabited α] {l : List α} {i : Nat} {x : α} (h : l[i]? = some x) : getI l (i : Int) = some x := by
 rw [getI_nat, h]
theorem sumL {ρ : Type} (l : List Int) (K : Int → Option ρ) {body : (Int → Int → Option ρ) → Int → Int → Option ρ} {N : Nat} (hN : l.length < N) (hend : ∀ rec b, body rec (l.length : Int) b = K b) (hstep : ∀ rec (i : Nat) (x b : Int), l[i]? = some x → body rec (i : Int) b = rec ((i + 1 : Nat) : Int) (IntKind.i64.wrap (b + x))) : loop2 body N 0 0 = K (wsum l l.length) := by
 refine st2z l.length (wsum l) rfl hN (fun rec => hend _ _) fun rec i hi => ?_
 have hx : l[i]? = some l[i] := List.getElem?_eq_getElem hi
 rw [hstep rec i _ _ hx, wsum_succ l i _ hx]
end Go.Proofs.Ytfhapfljomgmnaa
end
section
namespace Go.Proofs.Ytfhapfljomgmnaa
open Go.RowKit

def bits (s : Nat) : List Nat := (List.range 8).filter fun t => s.testBit t
theorem mem_bits {s t : Nat} : t ∈ bits s ↔ t < 8 ∧ s.testBit t = true := by simp [bits]
def tzOk (s : Nat) : Bool := match p_math_bits_TrailingZeros8 0 (s : Int), bits s with
 | some t, x :: r => decide (t = (x : Int)) && (r == bits (s &&& (s - 1))) && decide ((IntKind.u8.wrap (((BitVec.ofInt (IntKind.bits .u8) (s : Int) &&& BitVec.ofInt (IntKind.bits .u8) (IntKind.u8.wrap ((s : Int) - 1))).toNat : Nat) : Int)) = ((s &&& (s - 1) : Nat) : Int))
 | _, _ => false
theorem tz_all : (List.range 256).all (fun s => s == 0 || tzOk s) = true := by kernel_rfl
theorem tz_p (N s : Nat) (h0 : s ≠ 0) (h : s < 256) : ∃ t : Nat, p_math_bits_TrailingZeros8 N (s : Int) = some (t : Int) ∧ bits s = t :: bits (s &&& (s - 1)) ∧ IntKind.u8.wrap (((BitVec.ofInt (IntKind.bits .u8) (s : Int) &&& BitVec.ofInt (IntKind.bits .u8) (IntKind.u8.wrap ((s : Int) - 1))).toNat : Nat) : Int) = ((s &&& (s - 1) : Nat) : Int) := by
 have h1 := List.all_eq_true.1 tz_all s (by simpa using h)
 have h2 : tzOk s = true := by
  rcases Bool.or_eq_true _ _ ▸ h1 with h3 | h3
  ·exact absurd (by simpa using h3) h0
  ·exact h3
 have hN : p_math_bits_TrailingZeros8 N (s : Int) = p_math_bits_TrailingZeros8 0 (s : Int) := rfl
 rw [hN]
 unfold tzOk at h2
 split at h2
 ·rename_i t x r e1 e2
  simp only [Bool.and_eq_true, decide_eq_true_eq, beq_iff_eq] at h2
  obtain ⟨⟨h3, h4⟩, h5⟩ := h2
  exact ⟨x, by rw [e1, h3], by rw [e2, h4], h5⟩
 ·cases h2
theorem low_lt (s : Nat) (h0 : s ≠ 0) : s &&& (s - 1) < s := by
 have := Nat.and_le_right (n := s) (m := s - 1)
 omega
theorem wu8 {x : Int} (h0 : 0 ≤ x) (h1 : x < 256) : IntKind.u8.wrap x = x := by
 have e : IntKind.u8.wrap x = x % 2 ^ 8 := rfl
 omega
theorem or_p (a b : Nat) (ha : a < 256) (hb : b < 256) : IntKind.u8.wrap (((BitVec.ofInt (IntKind.bits .u8) (a : Int) ||| BitVec.ofInt (IntKind.bits .u8) (b : Int)).toNat : Nat) : Int) = ((a ||| b : Nat) : Int) := by
 have e : (BitVec.ofInt 8 (a : Int) ||| BitVec.ofInt 8 (b : Int)).toNat = a ||| b := by
  rw [BitVec.toNat_or, BitVec.ofInt_natCast, BitVec.ofInt_natCast, BitVec.toNat_ofNat, BitVec.toNat_ofNat, Nat.mod_eq_of_lt (by omega), Nat.mod_eq_of_lt (by omega)]
 have hlt : a ||| b < 2 ^ 8 := Nat.or_lt_two_pow (by omega) (by omega)
 show IntKind.u8.wrap (((BitVec.ofInt 8 (a : Int) ||| BitVec.ofInt 8 (b : Int)).toNat : Nat) : Int) = _
 rw [e, wu8 (by omega) (by omega)]
theorem pow_all : (List.range 8).all (fun n => decide (IntKind.u8.wrap (1 * ((2 : Int) ^ (min (Int.toNat (n : Int)) (IntKind.bits .u8)))) = ((2 ^ n : Nat) : Int))) = true := by kernel_rfl
theorem pow_lt8 {n : Nat} (h : n < 8) : 2 ^ n < 256 := Nat.pow_lt_pow_right (a := 2) (by omega) h
theorem add_p (N s n : Nat) (hs : s < 256) (hn : n < 8) : p_set_add N (s : Int) (n : Int) = some ((s ||| 2 ^ n : Nat) : Int) := by
 unfold p_set_add
 have h1 := List.all_eq_true.1 pow_all n (by simpa using hn)
 simp only [decide_eq_true_eq] at h1
 have h2 : nnI (n : Int) = some () := by unfold nnI; rw [if_neg (by omega)]
 rw [h2, h1]
 simp only [Option.bind_some]
 rw [or_p s (2 ^ n) hs (pow_lt8 hn)]
theorem add_lt {s n : Nat} (hs : s < 256) (hn : n < 8) : s ||| 2 ^ n < 256 := Nat.or_lt_two_pow (n := 8) (by omega) (pow_lt8 hn)
def addAll (b : Nat) (l : List Nat) : Nat := l.foldl (fun s t => s ||| 2 ^ t) b
theorem addAll_lt : ∀ (l : List Nat) (b : Nat), b < 256 → (∀ t ∈ l, t < 8) → addAll b l < 256
 | [], b, h, _ => h
 | t :: l, b, h, hl => addAll_lt l _ (add_lt h (hl t (by simp))) fun u hu => hl u (by simp [hu])
theorem addAll_bit : ∀ (l : List Nat) (b t : Nat), (addAll b l).testBit t = (b.testBit t || decide (t ∈ l))
 | [], b, t => by simp [addAll]
 | u :: l, b, t => by
  have := addAll_bit l (b ||| 2 ^ u) t
  show (addAll (b ||| 2 ^ u) l).testBit t = _
  rw [this, Nat.testBit_or, Nat.testBit_two_pow, Bool.or_assoc]
  congr 1
  by_cases h : u = t
  ·subst h; simp
  ·have : t ≠ u := fun e => h e.symm
   simp [h, this]

section
variable {α A B C D ρ : Type}
theorem loop4_T {body : (A → B → C → D → Option ρ) → A → B → C → D → Option ρ} (T : Option ρ → Prop) (P : A → B → C → D → Prop) (μ : A → B → C → D → Nat) (h : ∀ rec a b c d, P a b c d → (∀ a' b' c' d', P a' b' c' d' → μ a' b' c' d' < μ a b c d → T (rec a' b' c' d')) → T (body rec a b c d)) : ∀ (N : Nat) (a : A) (b : B) (c : C) (d : D), P a b c d → μ a b c d < N → T (loop4 body N a b c d)
 | 0, a, b, c, d, _, hm => absurd hm (Nat.not_lt_zero _)
 | n + 1, a, b, c, d, hp, hm => h (loop4 body n) a b c d hp fun a' b' c' d' hp' hm' => loop4_T T P μ h n a' b' c' d' hp' (by omega)
theorem invL (l : List α) (T : Option ρ → Prop) (I : Nat → B → Prop) {body : (Int → B → Option ρ) → Int → B → Option ρ} (hend : ∀ rec b, I l.length b → T (body rec (l.length : Int) b)) (hstep : ∀ rec (i : Nat) x b, l[i]? = some x → i < l.length → I i b → (∀ b', I (i + 1) b' → T (rec ((i + 1 : Nat) : Int) b')) → T (body rec (i : Int) b)) : ∀ (N i : Nat) (b : B), i ≤ l.length → l.length - i < N → I i b → T (loop2 body N (i : Int) b)
 | 0, i, b, _, h, _ => absurd h (Nat.not_lt_zero _)
 | N + 1, i, b, hle, hN, hI => by
  show T (body (loop2 body N) (i : Int) b)
  by_cases hlt : i < l.length
  ·exact hstep _ i l[i] b (List.getElem?_eq_getElem hlt) hlt hI fun b' hb' => invL l T I hend hstep N (i + 1) b' (by omega) (by omega) hb'
  ·have : i = l.length := by omega
   subst this
   exact hend _ b hI
theorem invL' (l : List α) (T : Option ρ → Prop) (I : Nat → B → Prop) {body : (B → Int → Option ρ) → B → Int → Option ρ} (hend : ∀ rec b, I l.length b → T (body rec b (l.length : Int))) (hstep : ∀ rec (i : Nat) x b, l[i]? = some x → i < l.length → I i b → (∀ b', I (i + 1) b' → T (rec b' ((i + 1 : Nat) : Int))) → T (body rec b (i : Int))) : ∀ (N i : Nat) (b : B), i ≤ l.length → l.length - i < N → I i b → T (loop2 body N b (i : Int))
 | 0, i, b, _, h, _ => absurd h (Nat.not_lt_zero _)
 | N + 1, i, b, hle, hN, hI => by
  show T (body (loop2 body N) b (i : Int))
  by_cases hlt : i < l.length
  ·exact hstep _ i l[i] b (List.getElem?_eq_getElem hlt) hlt hI fun b' hb' => invL' l T I hend hstep N (i + 1) b' (by omega) (by omega) hb'
  ·have : i = l.length := by omega
   subst this
   exact hend _ b hI
theorem invZ (l : List α) (T : Option ρ → Prop) (I : Nat → B → Prop) {body : (Int → B → Option ρ) → Int → B → Option ρ} {N : Nat} {b : B} (hN : l.length < N) (hI : I 0 b) (hend : ∀ rec b, I l.length b → T (body rec (l.length : Int) b)) (hstep : ∀ rec (i : Nat) x b, l[i]? = some x → i < l.length → I i b → (∀ b', I (i + 1) b' → T (rec ((i + 1 : Nat) : Int) b')) → T (body rec (i : Int) b)) : T (loop2 body N 0 b) := invL l T I hend hstep N 0 b (by omega) (by omega) hI
theorem invZ' (l : List α) (T : Option ρ → Prop) (I : Nat → B → Prop) {body : (B → Int → Option ρ) → B → Int → Option ρ} {N : Nat} {b : B} (hN : l.length < N) (hI : I 0 b) (hend : ∀ rec b, I l.length b → T (body rec b (l.length : Int))) (hstep : ∀ rec (i : Nat) x b, l[i]? = some x → i < l.length → I i b → (∀ b', I (i + 1) b' → T (rec b' ((i + 1 : Nat) : Int))) → T (body rec b (i : Int))) : T (loop2 body N b 0) := invL' l T I hend hstep N 0 b (by omega) (by omega) hI
end
theorem foldSum {α : Type} (g : α → Int) (m : Int) (h0 : 0 ≤ m) : ∀ (l : List α) (b : Int), (∀ x ∈ l, -m ≤ g x ∧ g x ≤ m) → -9223372036854775808 ≤ b - m * (l.length : Int) → b + m * (l.length : Int) < 9223372036854775808 → l.foldl (fun b x => IntKind.i64.wrap (b + g x)) b = b + (l.map g).sum
 | [], b, _, _, _ => by simp
 | x :: l, b, h, h1, h2 => by
  have hx := h x (by simp)
  have e : m * ((l.length + 1 : Nat) : Int) = m * (l.length : Int) + m := by rw [Int.natCast_add, Int.mul_add]; simp
  have hp : 0 ≤ m * (l.length : Int) := Int.mul_nonneg h0 (by omega)
  simp only [List.length_cons, e] at h1 h2
  simp only [List.foldl_cons, List.map_cons, List.sum_cons]
  rw [w64 (x := b + g x) (by omega) (by omega), foldSum g m h0 l (b + g x) (fun y hy => h y (by simp [hy])) (by omega) (by omega)]
  omega
theorem sum_bnd {α : Type} (g : α → Int) (m : Int) (h0 : 0 ≤ m) : ∀ (l : List α), (∀ x ∈ l, 0 ≤ g x ∧ g x ≤ m) → 0 ≤ (l.map g).sum ∧ (l.map g).sum ≤ m * (l.length : Int)
 | [], _ => by simp
 | x :: l, h => by
  have hx := h x (by simp)
  have ih := sum_bnd g m h0 l fun y hy => h y (by simp [hy])
  have e : m * ((l.length + 1 : Nat) : Int) = m * (l.length : Int) + m := by rw [Int.natCast_add, Int.mul_add]; simp
  simp only [List.map_cons, List.sum_cons, List.length_cons, e]
  omega
theorem sum_le {α : Type} (g h : α → Int) : ∀ (l : List α), (∀ x ∈ l, g x ≤ h x) → (l.map g).sum ≤ (l.map h).sum
 | [], _ => by simp
 | x :: l, hl => by
  have hx := hl x (by simp)
  have ih := sum_le g h l fun y hy => hl y (by simp [hy])
  simp only [List.map_cons, List.sum_cons]
  omega
theorem sum_add {α : Type} (g h : α → Int) : ∀ (l : List α), (l.map fun x => g x + h x).sum = (l.map g).sum + (l.map h).sum
 | [] => by simp
 | x :: l => by
  have ih := sum_add g h l
  simp only [List.map_cons, List.sum_cons, ih]
  omega
theorem sum_filter (p : Nat → Bool) (g : Nat → Int) : ∀ (l : List Nat), ((l.filter p).map g).sum = (l.map fun t => if p t then g t else 0).sum
 | [] => by simp
 | x :: l => by
  have ih := sum_filter p g l
  cases hp : p x <;> simp [List.filter_cons, hp, ih]
theorem asc_len : ∀ (l : List Nat) (a b : Nat), l.Pairwise (· < ·) → (∀ t ∈ l, a ≤ t ∧ t < b) → a + l.length ≤ b ∨ l = []
 | [], a, b, _, _ => .inr rfl
 | x :: l, a, b, hp, h => by
  obtain ⟨h1, h2⟩ := List.pairwise_cons.1 hp
  have hx := h x (by simp)
  rcases asc_len l (x + 1) b h2 (fun t ht => ⟨h1 t ht, (h t (by simp [ht])).2⟩) with h3 | h3
  ·left; simp; omega
  ·subst h3; left; simp; omega
end Go.Proofs.Ytfhapfljomgmnaa
end
section
namespace Go.Proofs.Ytfhapfljomgmnaa
open Go.RowKit

def GoodUses (u : List Int) (k : Int) : Prop := (u.length : Int) ≤ k ∧ u.Pairwise (· < ·) ∧ ∀ x ∈ u, 0 ≤ x ∧ x < k
def GoodFund (c : Int) (f : T_Fund) : Prop := 0 ≤ f.Day ∧ f.Day ≤ 9 ∧ f.Day ≤ f.Until ∧ f.Until ≤ 20 ∧ 0 ≤ f.Amount ∧ f.Amount ≤ 2 * c ∧ GoodUses f.Uses 3
def GoodBill (c : Int) (b : T_Bill) : Prop := 3 ≤ b.Day ∧ b.Day ≤ 12 ∧ 0 ≤ b.Use ∧ b.Use ≤ 2 ∧ 0 ≤ b.Amount ∧ b.Amount ≤ c
structure GoodL (nf nb : Nat) (c : Int) (L : T_Ledger) : Prop where
 nf : L.Funds.length ≤ nf
 nb : L.Bills.length ≤ nb
 fund : ∀ f ∈ L.Funds, GoodFund c f
 bill : ∀ b ∈ L.Bills, GoodBill c b
theorem goodUses_push {u : List Int} {k : Int} (h : GoodUses u k) (hk : 0 ≤ k) : GoodUses (u ++ [k]) (k + 1) := by
 obtain ⟨h1, h2, h3⟩ := h
 refine ⟨by simp; omega, ?_, ?_⟩
 ·rw [List.pairwise_append]
  refine ⟨h2, by simp, fun a ha b hb => ?_⟩
  have := h3 a ha
  simp at hb
  omega
 ·intro x hx
  rcases List.mem_append.1 hx with hx | hx
  ·have := h3 x hx; omega
  ·simp at hx; omega
theorem goodUses_up {u : List Int} {k : Int} (h : GoodUses u k) : GoodUses u (k + 1) := by
 obtain ⟨h1, h2, h3⟩ := h
 exact ⟨by omega, h2, fun x hx => by have := h3 x hx; omega⟩

theorem uses_l {ρ : Type} (N : Nat) (hN : 1000 < N) (T : Option ρ → Prop) (K : Int → List Int → Option ρ) (hK : ∀ b u, GoodUses u 3 → T (K b u)) (b0 : Int) : T (loop3 (fun rec_30 (use_27 : Int) (b_28 : Int) (b_29 : List Int) => (bif (decide (use_27 < 3)) then (letJ (fun (b_34 : Int) (b_35 : List Int) => (rec_30 (IntKind.i64.wrap (use_27 + 1)) b_34 b_35)) (fun k_36 => ((p_bk_Drum_Rare N (⟨b_28⟩ : T_bk_Drum) 3).bind fun r_39 => (bif (!r_39.1) then ((pushI b_29 ([use_27] : List Int)).bind fun l_41 => (k_36 r_39.2.beat_ l_41)) else (k_36 r_39.2.beat_ b_29))))) else (K b_28 b_29))) N 0 b0 []) := by
 refine loop3_T T (fun k b (u : List Int) => 0 ≤ k ∧ k ≤ 3 ∧ GoodUses u k) (fun k b u => 3 - k.toNat) ?_ N 0 _ [] ⟨by omega, by omega, by simp, by simp, by simp⟩ (by omega)
 rintro rec2 k b2 us ⟨k0, k3, hus⟩ ih2
 by_cases hk : k < 3
 ·rw [show decide (k < 3) = true from decide_eq_true hk, cond_true, letJ_eq]
  obtain ⟨q, d6, e⟩ := rare_p N ⟨b2⟩ 3 (by omega)
  rw [e, Option.bind_some]; clear e
  have hln := hus.1
  have hw : IntKind.i64.wrap (k + 1) = k + 1 := w64 (by omega) (by omega)
  have hpu : pushI us [k] = some (us ++ [k]) := pushI_ok (by simp; omega)
  cases q with
  | true =>
   simp only [Bool.not_true, cond_false, hw]
   exact ih2 _ _ _ ⟨by omega, by omega, goodUses_up hus⟩ (by omega)
  | false =>
   simp only [Bool.not_false, cond_true, hw, hpu, Option.bind_some]
   exact ih2 _ _ _ ⟨by omega, by omega, goodUses_push hus k0⟩ (by omega)
 ·rw [show decide (k < 3) = false from decide_eq_false hk, cond_false]
  have hk3 : k = 3 := by omega
  subst hk3
  exact hK _ _ hus
theorem funds_l {ρ : Type} (N : Nat) (hN : 1000 < N) (nf : Nat) (c : Int) (hnf : nf ≤ 100) (hc0 : 0 ≤ c) (hc : c ≤ 1000000) (T : Option ρ → Prop) (K : Int → List T_Fund → Option ρ) (hK : ∀ b l, l.length ≤ nf → (∀ f ∈ l, GoodFund c f) → T (K b l)) (r b0 : Int) (r0 : 0 ≤ r) (r1 : r ≤ (nf : Int)) : T (loop3 (fun rec_14 (i_11 : Int) (b_12 : Int) (b_13 : List T_Fund) => (bif (decide (i_11 > 0)) then ((p_bk_Drum_Roll N (⟨b_12⟩ : T_bk_Drum) 10).bind fun r_18 => ((p_bk_Drum_Any N r_18.2 [(IntKind.i64.wrap (r_18.1 + 4)), 20]).bind fun r_19 => ((p_bk_Drum_Mid N r_19.2 r_18.1 r_19.1).bind fun r_20 => ((p_bk_Drum_Roll N r_20.2 (IntKind.i64.wrap ((IntKind.i64.wrap (2 * c)) + 1))).bind fun r_21 => (letJ (fun (b_22 : Int) (b_23 : List Int) => ((pushI b_13 ([(⟨r_18.1, r_20.1, r_21.1, b_23⟩ : T_Fund)] : List T_Fund)).bind fun l_42 => (rec_14 (IntKind.i64.wrap (i_11 - 1)) b_22 l_42))) (fun k_24 => (loop3 (fun rec_30 (use_27 : Int) (b_28 : Int) (b_29 : List Int) => (bif (decide (use_27 < 3)) then (letJ (fun (b_34 : Int) (b_35 : List Int) => (rec_30 (IntKind.i64.wrap (use_27 + 1)) b_34 b_35)) (fun k_36 => ((p_bk_Drum_Rare N (⟨b_28⟩ : T_bk_Drum) 3).bind fun r_39 => (bif (!r_39.1) then ((pushI b_29 ([use_27] : List Int)).bind fun l_41 => (k_36 r_39.2.beat_ l_41)) else (k_36 r_39.2.beat_ b_29))))) else (k_24 b_28 b_29))) N 0 r_21.2.beat_ []))))))) else (K b_12 b_13))) N r b0 []) := by
 refine loop3_T T (fun i b (l : List T_Fund) => 0 ≤ i ∧ (l.length : Int) + i ≤ (nf : Int) ∧ ∀ f ∈ l, GoodFund c f) (fun i b l => i.toNat) ?_ N r _ [] ⟨r0, by simp; omega, by simp⟩ (by omega)
 rintro rec i b l ⟨i0, hi, hl⟩ ih
 by_cases hp : i > 0
 ·rw [show decide (i > 0) = true from decide_eq_true hp, cond_true]
  obtain ⟨day, d2, e, h1, h2⟩ := roll_le N ⟨b⟩ 10 (by omega) (by omega)
  rw [e, Option.bind_some]; clear e
  dsimp only
  rw [w64 (x := day + 4) (by omega) (by omega)]
  obtain ⟨u, d3, e, hu⟩ := any_p N d2 [day + 4, 20] (by simp) (by simp)
  rw [e, Option.bind_some]; clear e
  dsimp only
  have hu : u = day + 4 ∨ u = 20 := by simpa using hu
  obtain ⟨til, d4, e, t0, t1, _⟩ := mid_p N d3 day u (by omega) (by omega) (by omega) (by omega)
  have t1 := t1 (by omega)
  rw [e, Option.bind_some]; clear e
  dsimp only
  rw [w64 (x := 2 * c) (by omega) (by omega), w64 (x := 2 * c + 1) (by omega) (by omega)]
  obtain ⟨am, d5, e, a0, a1⟩ := roll_le N d4 (2 * c + 1) (by omega) (by omega)
  rw [e, Option.bind_some]; clear e
  dsimp only
  rw [letJ_eq]
  refine uses_l N hN T _ (fun b3 us hus => ?_) _
  have hpu : pushI l [(⟨day, til, am, us⟩ : T_Fund)] = some (l ++ [⟨day, til, am, us⟩]) := pushI_ok (by simp; omega)
  rw [hpu, Option.bind_some, w64 (x := i - 1) (by omega) (by omega)]
  refine ih _ _ _ ⟨by omega, by simp; omega, ?_⟩ (by omega)
  intro f hf
  rcases List.mem_append.1 hf with hf | hf
  ·exact hl f hf
  ·obtain rfl := List.mem_singleton.1 hf
   refine ⟨?_, ?_, ?_, ?_, ?_, ?_, hus⟩ <;> dsimp only <;> omega
 ·rw [show decide (i > 0) = false from decide_eq_false hp, cond_false]
  exact hK _ _ (by omega) hl
theorem bills_l {ρ : Type} (N : Nat) (hN : 1000 < N) (nb : Nat) (c : Int) (hnb : nb ≤ 100) (hc0 : 0 ≤ c) (hc : c ≤ 1000000) (T : Option ρ → Prop) (K : Int → List T_Bill → Option ρ) (hK : ∀ b l, l.length ≤ nb → (∀ f ∈ l, GoodBill c f) → T (K b l)) (r b0 : Int) (r0 : 0 ≤ r) (r1 : r ≤ (nb : Int)) : T (loop3 (fun rec_52 (i_49 : Int) (b_50 : Int) (b_51 : List T_Bill) => (bif (decide (i_49 > 0)) then ((p_bk_Drum_Mid N (⟨b_50⟩ : T_bk_Drum) 3 12).bind fun r_56 => ((p_bk_Drum_Roll N r_56.2 3).bind fun r_57 => ((p_bk_Drum_Roll N r_57.2 (IntKind.i64.wrap (c + 1))).bind fun r_58 => ((pushI b_51 ([(⟨r_56.1, r_57.1, r_58.1⟩ : T_Bill)] : List T_Bill)).bind fun l_60 => (rec_52 (IntKind.i64.wrap (i_49 - 1)) r_58.2.beat_ l_60))))) else (K b_50 b_51))) N r b0 []) := by
 refine loop3_T T (fun i b (l : List T_Bill) => 0 ≤ i ∧ (l.length : Int) + i ≤ (nb : Int) ∧ ∀ f ∈ l, GoodBill c f) (fun i b l => i.toNat) ?_ N r _ [] ⟨r0, by simp; omega, by simp⟩ (by omega)
 rintro rec3 j b3 m ⟨j0, hj, hm⟩ ih3
 by_cases hq : j > 0
 ·rw [show decide (j > 0) = true from decide_eq_true hq, cond_true]
  obtain ⟨day, d8, e, h1, h2, _⟩ := mid_p N ⟨b3⟩ 3 12 (by omega) (by omega) (by omega) (by omega)
  have h2 := h2 (by omega)
  rw [e, Option.bind_some]; clear e
  dsimp only
  obtain ⟨use, d9, e, u0, u1⟩ := roll_le N d8 3 (by omega) (by omega)
  rw [e, Option.bind_some]; clear e
  dsimp only
  rw [w64 (x := c + 1) (by omega) (by omega)]
  obtain ⟨am, d10, e, a0, a1⟩ := roll_le N d9 (c + 1) (by omega) (by omega)
  rw [e, Option.bind_some]; clear e
  dsimp only
  have hpu : pushI m [(⟨day, use, am⟩ : T_Bill)] = some (m ++ [⟨day, use, am⟩]) := pushI_ok (by simp; omega)
  rw [hpu, Option.bind_some, w64 (x := j - 1) (by omega) (by omega)]
  refine ih3 _ _ _ ⟨by omega, by simp; omega, ?_⟩ (by omega)
  intro f hf
  rcases List.mem_append.1 hf with hf | hf
  ·exact hm f hf
  ·obtain rfl := List.mem_singleton.1 hf
   refine ⟨?_, ?_, ?_, ?_, ?_, ?_⟩ <;> dsimp only <;> omega
 ·rw [show decide (j > 0) = false from decide_eq_false hq, cond_false]
  exact hK _ _ (by omega) hm
theorem ledgerOf_p (N : Nat) (hN : 1000 < N) (d : T_bk_Drum) (nf nb : Nat) (c : Int) (hnf : nf ≤ 100) (hnb : nb ≤ 100) (hc0 : 0 ≤ c) (hc : c ≤ 1000000) : ∃ L d', p_bk_LedgerOf N d (nf : Int) (nb : Int) c = some (L, d') ∧ GoodL nf nb c L := by
 unfold p_bk_LedgerOf
 rw [w64 (x := (nf : Int) + 1) (by omega) (by omega)]
 obtain ⟨r, d1, e, r0, r1⟩ := roll_le N d ((nf : Int) + 1) (by omega) (by omega)
 rw [e, Option.bind_some]; clear e
 dsimp only
 rw [letJ_eq]
 refine funds_l N hN nf c hnf hc0 hc (fun x => ∃ L d', x = some (L, d') ∧ GoodL nf nb c L) _ (fun b fs h1 h2 => ?_) r _ r0 (by omega)
 rw [w64 (x := (nb : Int) + 1) (by omega) (by omega)]
 obtain ⟨r2, d7, e, s0, s1⟩ := roll_le N ⟨b⟩ ((nb : Int) + 1) (by omega) (by omega)
 rw [e, Option.bind_some]; clear e
 dsimp only
 rw [letJ_eq]
 refine bills_l N hN nb c hnb hc0 hc (fun x => ∃ L d', x = some (L, d') ∧ GoodL nf nb c L) _ (fun b bs h3 h4 => ?_) r2 _ s0 (by omega)
 exact ⟨_, _, rfl, h1, h3, h2, h4⟩

theorem isDate_p (N : Nat) (n : Int) (h0 : 0 ≤ n) (h1 : n ≤ 3650) : p_isDate N n = some true := by
 unfold p_isDate p_within
 simp [show n ≥ 0 from h0, h1]
theorem isUse_p (N : Nat) (n : Int) (h0 : 0 ≤ n) (h1 : n ≤ 7) : p_isUse N n = some true := by
 unfold p_isUse p_within
 simp [show n ≥ 0 from h0, h1]
theorem isAmount_p (N : Nat) (n : Int) (h0 : 0 ≤ n) (h1 : n ≤ 1000000000) : p_isAmount N n = some true := by
 unfold p_isAmount p_within
 simp [show n ≥ 0 from h0, h1]
theorem checkUses_p (N : Nat) (hN : 1000 < N) (u : List Int) (h : GoodUses u 3) : p_checkUses N u = some 0 := by
 obtain ⟨h1, h2, h3⟩ := h
 unfold p_checkUses
 simp only [letJ_eq]
 refine st1 u.length _ (some 0) ?_ ?_ N 0 (by omega) (by omega)
 ·intro rec
  simp only [ltE, cond_false]
 ·intro rec i hi
  have hx : u[i]? = some u[i] := List.getElem?_eq_getElem hi
  have hb := h3 _ (List.getElem_mem hi)
  simp only [ltD hi, cond_true, getD_at hx, Option.bind_some, isUse_p N _ hb.1 (by omega), Bool.not_true, cond_false, nadd1 i (by omega)]
  by_cases h0 : i = 0
  ·subst h0
   simp
  ·have hlt : i - 1 < u.length := by omega
   have hy : u[i - 1]? = some u[i - 1] := List.getElem?_eq_getElem hlt
   have hlt2 := (List.pairwise_iff_getElem.1 h2) (i - 1) i hlt hi (by omega)
   rw [show decide ((i : Int) > 0) = true from decide_eq_true (by omega), cond_true, w64 (x := (i : Int) - 1) (by omega) (by omega), show (i : Int) - 1 = ((i - 1 : Nat) : Int) by omega, getD_at hy, Option.bind_some, show decide (u[i] ≤ u[i - 1]) = false from decide_eq_false (by omega), cond_false]
theorem checkFund_p (N : Nat) (hN : 1000 < N) (c : Int) (hc : c ≤ 1000000) (f : T_Fund) (h : GoodFund c f) : p_checkFund N f = some 0 := by
 obtain ⟨h1, h2, h3, h4, h5, h6, h7⟩ := h
 have hl := h7.1
 unfold p_checkFund
 simp only [letJ_eq]
 simp only [isDate_p N f.Day h1 (by omega), isDate_p N f.Until (by omega) (by omega), isAmount_p N f.Amount h5 (by omega), checkUses_p N hN _ h7, Option.bind_some, Bool.not_true, cond_false]
 rw [show decide (f.Day > f.Until) = false from decide_eq_false (by omega), cond_false, show decide (((f.Uses.length : Nat) : Int) > 8) = false from decide_eq_false (by omega), cond_false]
theorem check_p (N : Nat) (hN : 1000 < N) (nf nb : Nat) (c : Int) (hnf : nf ≤ 8) (hnb : nb ≤ 8) (hc : c ≤ 1000000) (L : T_Ledger) (h : GoodL nf nb c L) : p_Check N L = some 0 := by
 have g1 := h.nf; have g2 := h.nb
 unfold p_Check
 simp only [letJ_eq]
 rw [show decide (((L.Funds.length : Nat) : Int) > 8) = false from decide_eq_false (by omega), cond_false]
 refine st1 L.Funds.length _ (some 0) ?_ ?_ N 0 (by omega) (by omega)
 ·intro rec
  simp only [ltE, cond_false]
  rw [show decide (((L.Bills.length : Nat) : Int) > 8) = false from decide_eq_false (by omega), cond_false]
  refine st1 L.Bills.length _ (some 0) ?_ ?_ N 0 (by omega) (by omega)
  ·intro rec
   simp only [ltE, cond_false]
  ·intro rec i hi
   have hx : L.Bills[i]? = some L.Bills[i] := List.getElem?_eq_getElem hi
   obtain ⟨b1, b2, b3, b4, b5, b6⟩ := h.bill _ (List.getElem_mem hi)
   simp only [ltD hi, cond_true, getD_at hx, Option.bind_some, isDate_p N _ (show 0 ≤ L.Bills[i].Day by omega) (by omega), isUse_p N _ b3 (by omega), isAmount_p N _ b5 (by omega), Bool.not_true, cond_false, nadd1 i (by omega)]
 ·intro rec i hi
  have hx : L.Funds[i]? = some L.Funds[i] := List.getElem?_eq_getElem hi
  simp only [ltD hi, cond_true, getD_at hx, Option.bind_some, checkFund_p N hN c hc _ (h.fund _ (List.getElem_mem hi)), bne_self_eq_false, cond_false, nadd1 i (by omega)]

def come (L : T_Ledger) (day : Int) : Int := (L.Funds.map fun f => if f.Day > day then 0 else f.Amount).sum
def paid (L : T_Ledger) (day : Int) : Int := (L.Bills.map fun b => if b.Day > day then 0 else b.Amount).sum
end Go.Proofs.Ytfhapfljomgmnaa
end
section
namespace Go.Proofs.Ytfhapfljomgmnaa
open Go.RowKit

theorem numT {B ρ : Type} (T : Option ρ → Prop) (P : Nat → Prop) (f : B → Nat → B) (r : B) {body : (Int → B → Option ρ) → Int → B → Option ρ} (hend : ∀ rec, T (body rec 0 r)) (hstep : ∀ rec (s t : Nat) b, (∀ N, p_math_bits_TrailingZeros8 N (s : Int) = some (t : Int)) → IntKind.u8.wrap (((BitVec.ofInt (IntKind.bits .u8) (s : Int) &&& BitVec.ofInt (IntKind.bits .u8) (IntKind.u8.wrap ((s : Int) - 1))).toNat : Nat) : Int) = ((s &&& (s - 1) : Nat) : Int) → (((s : Int) != 0) = true) → P t → body rec (s : Int) b = rec ((s &&& (s - 1) : Nat) : Int) (f b t)) : ∀ (N s : Nat) (b : B), s < 256 → (∀ t ∈ bits s, P t) → s < N → (bits s).foldl f b = r → T (loop2 body N (s : Int) b)
 | 0, s, b, _, _, h, _ => absurd h (Nat.not_lt_zero _)
 | N + 1, s, b, hs, hP, hN, hr => by
  show T (body (loop2 body N) (s : Int) b)
  by_cases h0 : s = 0
  ·subst h0
   have : b = r := hr
   subst this
   exact hend _
  ·obtain ⟨t, _, e2, e3⟩ := tz_p 0 s h0 hs
   have e1 : ∀ N, p_math_bits_TrailingZeros8 N (s : Int) = some (t : Int) := fun N => by
    obtain ⟨t', g1, g2, _⟩ := tz_p N s h0 hs
    rw [g1]
    rw [e2] at g2
    injection g2 with g2
    rw [g2]
   rw [hstep _ s t b e1 e3 (by simp; omega) (hP t (by rw [e2]; simp))]
   refine numT T P f r hend hstep N _ _ (by have := low_lt s h0; omega) (fun u hu => hP u (by rw [e2]; simp [hu])) (by have := low_lt s h0; omega) ?_
   rw [e2] at hr
   exact hr

theorem has_all : (List.range 256).all (fun s => (List.range 8).all fun n => decide ((IntKind.u8.wrap (((BitVec.ofInt (IntKind.bits .u8) (Int.fdiv (s : Int) ((2 : Int) ^ (min (Int.toNat (n : Int)) (IntKind.bits .u8)))) &&& BitVec.ofInt (IntKind.bits .u8) 1).toNat : Nat) : Int) == 1) = s.testBit n)) = true := by kernel_rfl
theorem has_p (N s n : Nat) (hs : s < 256) (hn : n < 8) : p_set_has N (s : Int) (n : Int) = some (s.testBit n) := by
 unfold p_set_has
 have h1 := List.all_eq_true.1 (List.all_eq_true.1 has_all s (by simpa using hs)) n (by simpa using hn)
 simp only [decide_eq_true_eq] at h1
 have h2 : nnI (n : Int) = some () := by unfold nnI; rw [if_neg (by omega)]
 rw [h2]
 simp only [Option.bind_some]
 rw [h1]
def can (F : T_Fund) (B : T_Bill) : Bool := decide (F.Day ≤ B.Day ∧ B.Day ≤ F.Until ∧ B.Use ∈ F.Uses)
theorem usesOf_p (N : Nat) (hN : 1000 < N) (F : T_Fund) (h : GoodUses F.Uses 3) : p_usesOf N F = some ((addAll 0 (F.Uses.map Int.toNat) : Nat) : Int) := by
 obtain ⟨h1, h2, h3⟩ := h
 have e : p_each_set_add N F.Uses 0 = some ((addAll 0 (F.Uses.map Int.toNat) : Nat) : Int) := by
  unfold p_each_set_add
  simp only [letJ_eq]
  exact (st2z F.Uses.length (fun i => ((addAll 0 ((F.Uses.take i).map Int.toNat) : Nat) : Int)) (r := some ((addAll 0 (F.Uses.map Int.toNat) : Nat) : Int)) rfl (by omega) (fun rec => by simp only [ltE, cond_false, List.take_length]) (fun rec i hi => by
  have hx : F.Uses[i]? = some F.Uses[i] := List.getElem?_eq_getElem hi
  have hb := h3 _ (List.getElem_mem hi)
  obtain ⟨n, hn⟩ : ∃ n : Nat, F.Uses[i] = (n : Int) := ⟨F.Uses[i].toNat, by omega⟩
  have hlt : addAll 0 ((F.Uses.take i).map Int.toNat) < 256 := addAll_lt _ _ (by omega) fun t ht => by
   obtain ⟨x, hx, rfl⟩ := List.mem_map.1 ht
   have := h3 x (List.mem_of_mem_take hx)
   omega
  simp only [ltD hi, cond_true, getD_at hx, Option.bind_some, nadd1 i (by omega)]
  rw [hn, add_p N _ n hlt (by omega), Option.bind_some]
  congr 1
  rw [List.take_add_one, hx, hn, List.map_append]
  unfold addAll
  rw [List.foldl_append]
  rfl))
 unfold p_usesOf
 rw [e]
 rfl
theorem canPay_p (N : Nat) (hN : 1000 < N) (c : Int) (F : T_Fund) (B : T_Bill) (hF : GoodFund c F) (hB : GoodBill c B) : p_canPay N F B = some (can F B) := by
 obtain ⟨h1, h2, h3, h4, h5, h6, h7⟩ := hF
 obtain ⟨b1, b2, b3, b4, b5, b6⟩ := hB
 unfold p_canPay p_within
 by_cases c1 : F.Day ≤ B.Day
 ·by_cases c2 : B.Day ≤ F.Until
  ·rw [show decide (B.Day ≥ F.Day) = true from decide_eq_true c1, cond_true, Option.bind_some, show decide (B.Day ≤ F.Until) = true from decide_eq_true c2, cond_true, usesOf_p N hN F h7, Option.bind_some]
   obtain ⟨n, hn⟩ : ∃ n : Nat, B.Use = (n : Int) := ⟨B.Use.toNat, by omega⟩
   have hlt : addAll 0 (F.Uses.map Int.toNat) < 256 := addAll_lt _ _ (by omega) fun t ht => by
    obtain ⟨x, hx, rfl⟩ := List.mem_map.1 ht
    have := h7.2.2 x hx
    omega
   rw [hn, has_p N _ n hlt (by omega), Option.bind_some, addAll_bit]
   unfold can
   congr 1
   simp only [Nat.zero_testBit, Bool.false_or]
   apply decide_eq_decide.2
   rw [hn]
   constructor
   ·intro h
    obtain ⟨x, hx, e⟩ := List.mem_map.1 h
    have := h7.2.2 x hx
    have : x = (n : Int) := by omega
    subst this
    exact ⟨c1, c2, hx⟩
   ·intro h
    exact List.mem_map.2 ⟨_, h.2.2, by simp⟩
  ·rw [show decide (B.Day ≥ F.Day) = true from decide_eq_true c1, cond_true, Option.bind_some, show decide (B.Day ≤ F.Until) = false from decide_eq_false c2, cond_false]
   unfold can
   rw [decide_eq_false (by omega)]
 ·rw [show decide (B.Day ≥ F.Day) = false from decide_eq_false c1, cond_false, Option.bind_some, cond_false]
  unfold can
  rw [decide_eq_false (by omega)]
def GoodX (L : T_Ledger) (B : T_Bill) (x : T_claim) : Prop := x.amount_ = B.Amount ∧ ∃ s : Nat, x.payers_ = (s : Int) ∧ s < 256 ∧ ∀ f : Nat, s.testBit f = true ↔ ∃ F, L.Funds[f]? = some F ∧ can F B = true
def GoodC (L : T_Ledger) (cs : List T_claim) : Prop := cs.length = L.Bills.length ∧ ∀ (i : Nat) (B : T_Bill), L.Bills[i]? = some B → ∃ x : T_claim, cs[i]? = some x ∧ GoodX L B x
theorem claimsOf_p (N : Nat) (hN : 1000 < N) (nf nb : Nat) (c : Int) (hnf : nf ≤ 8) (hnb : nb ≤ 8) (L : T_Ledger) (h : GoodL nf nb c L) : ∃ cs, p_claimsOf N L = some cs ∧ GoodC L cs := by
 have g1 := h.nf; have g2 := h.nb
 unfold p_claimsOf
 simp only [letJ_eq]
 refine invZ' L.Bills (fun x => ∃ cs, x = some cs ∧ GoodC L cs) (fun i (cs : List T_claim) => cs.length = i ∧ ∀ (k : Nat) (B : T_Bill), k < i → L.Bills[k]? = some B → ∃ x : T_claim, cs[k]? = some x ∧ GoodX L B x) (by omega) ⟨rfl, fun k B hk => by omega⟩ ?_ ?_
 ·rintro rec cs ⟨h1, h2⟩
  simp only [ltE, cond_false]
  exact ⟨cs, rfl, h1, fun i B hB => h2 i B (List.getElem?_eq_some_iff.1 hB).1 hB⟩
 ·rintro rec i B cs hB hi ⟨h1, h2⟩ ih
  simp only [ltD hi, cond_true, getD_at hB, Option.bind_some]
  have hgB := h.bill B (List.mem_of_getElem? hB)
  refine invZ L.Funds (fun x => ∃ cs, x = some cs ∧ GoodC L cs) (fun j (b : Int) => ∃ s : Nat, b = (s : Int) ∧ s < 256 ∧ ∀ f : Nat, s.testBit f = true ↔ f < j ∧ ∃ F, L.Funds[f]? = some F ∧ can F B = true) (by omega) ⟨0, rfl, by omega, fun f => by simp⟩ ?_ ?_
  ·rintro rec2 b ⟨s, rfl, hs, hb⟩
   simp only [ltE, cond_false]
   rw [pushI_ok (by simp; omega), Option.bind_some, nadd1 i (by omega)]
   refine ih _ ⟨by simp; omega, fun k B' hk hB' => ?_⟩
   by_cases hlt : k < i
   ·obtain ⟨x, e, g⟩ := h2 k B' hlt hB'
    exact ⟨x, by rw [List.getElem?_append_left (by omega), e], g⟩
   ·have : k = i := by omega
    subst this
    rw [hB] at hB'
    injection hB' with hB'
    subst hB'
    refine ⟨_, by rw [← h1, List.getElem?_concat_length], rfl, s, rfl, hs, fun f => (hb f).trans ⟨fun q => q.2, fun q => ⟨?_, q⟩⟩⟩
    obtain ⟨F, hF, _⟩ := q
    exact (List.getElem?_eq_some_iff.1 hF).1
  ·rintro rec2 j F b hF hj ⟨s, rfl, hs, hb⟩ ih2
   have hgF := h.fund F (List.mem_of_getElem? hF)
   simp only [ltD hj, cond_true, getD_at hF, Option.bind_some, canPay_p N hN c F B hgF hgB, nadd1 j (by omega)]
   cases hq : can F B with
   | true =>
    rw [cond_true, add_p N s j hs (by omega), Option.bind_some]
    refine ih2 _ ⟨_, rfl, add_lt hs (by omega), fun f => ?_⟩
    rw [Nat.testBit_or, Nat.testBit_two_pow]
    constructor
    ·intro q
     simp only [Bool.or_eq_true, decide_eq_true_eq] at q
     rcases q with q | q
     ·obtain ⟨q1, q2⟩ := (hb f).1 q
      exact ⟨by omega, q2⟩
     ·subst q
      exact ⟨by omega, F, hF, hq⟩
    ·rintro ⟨q1, q2⟩
     simp only [Bool.or_eq_true, decide_eq_true_eq]
     by_cases hfj : f = j
     ·exact .inr hfj.symm
     ·exact .inl ((hb f).2 ⟨by omega, q2⟩)
   | false =>
    rw [cond_false]
    refine ih2 _ ⟨s, rfl, hs, fun f => ?_⟩
    constructor
    ·intro q
     obtain ⟨q1, q2⟩ := (hb f).1 q
     exact ⟨by omega, q2⟩
    ·rintro ⟨q1, F', q2, q3⟩
     by_cases hfj : f = j
     ·subst hfj
      rw [hF] at q2
      injection q2 with q2
      subst q2
      rw [hq] at q3
      cases q3
     ·exact (hb f).2 ⟨by omega, F', q2, q3⟩
theorem V8_len (p : T_V8_i64) : p.l.length = 8 := rfl
theorem purseOf_p (N : Nat) (hN : 1000 < N) (L : T_Ledger) (h : L.Funds.length ≤ 8) : ∃ p : T_V8_i64, p_purseOf N L = some p ∧ ∀ f : Nat, f < 8 → p.l[f]? = some ((L.Funds[f]?.map (·.Amount)).getD 0) := by
 unfold p_purseOf
 simp only [letJ_eq]
 refine invZ L.Funds (fun x => ∃ p : T_V8_i64, x = some p ∧ ∀ f : Nat, f < 8 → p.l[f]? = some ((L.Funds[f]?.map (·.Amount)).getD 0)) (fun i (z : T_V8_i64) => ∀ f : Nat, f < 8 → z.l[f]? = some (if f < i then (L.Funds[f]?.map (·.Amount)).getD 0 else 0)) (by omega) (fun f hf => ?_) ?_ ?_
 ·rw [if_neg (by omega)]
  match f, hf with
  | 0, _ => rfl
  | 1, _ => rfl
  | 2, _ => rfl
  | 3, _ => rfl
  | 4, _ => rfl
  | 5, _ => rfl
  | 6, _ => rfl
  | 7, _ => rfl
 ·rintro rec z hz
  simp only [ltE, cond_false]
  refine ⟨z, rfl, fun f hf => ?_⟩
  rw [hz f hf]
  split
  ·rfl
  ·rw [List.getElem?_eq_none (by omega)]
   rfl
 ·rintro rec i F z hF hi hz ih
  simp only [ltD hi, cond_true, getD_at hF, Option.bind_some, nadd1 i (by omega)]
  rw [show idxI (i : Int) 8 = some () by unfold idxI; rw [if_pos (by omega)], Option.bind_some, Int.toNat_natCast]
  refine ih _ fun f hf => ?_
  rw [T_V8_i64.l_ofl _ (by rw [List.length_set]; rfl), List.getElem?_set]
  by_cases hfi : i = f
  ·subst hfi
   rw [if_pos rfl, if_pos (by rw [V8_len]; omega), if_pos (by omega), hF]
   rfl
  ·rw [if_neg hfi, hz f hf]
   by_cases hlt : f < i
   ·rw [if_pos hlt, if_pos (by omega)]
   ·rw [if_neg hlt, if_neg (by omega)]

def OkC (cs : List T_claim) : Prop := cs.length ≤ 8 ∧ ∀ x ∈ cs, ∃ s : Nat, x.payers_ = (s : Int) ∧ s < 256
theorem GoodC.ok {L : T_Ledger} {cs : List T_claim} (h : GoodC L cs) (hb : L.Bills.length ≤ 8) : OkC cs := by
 refine ⟨by rw [h.1]; exact hb, fun x hx => ?_⟩
 obtain ⟨i, hi⟩ := List.mem_iff_getElem?.1 hx
 have hlt := (List.getElem?_eq_some_iff.1 hi).1
 obtain ⟨y, e, _, s, g1, g2, _⟩ := h.2 i _ (List.getElem?_eq_getElem (show i < L.Bills.length by rw [← h.1]; exact hlt))
 rw [hi] at e
 injection e with e
 subst e
 exact ⟨s, g1, g2⟩
def amt (cs : List T_claim) (t : Nat) : Int := (cs[t]?.map (·.amount_)).getD 0
def pay (cs : List T_claim) (t : Nat) : Nat := (cs[t]?.map (·.payers_.toNat)).getD 0
def lft (p : T_V8_i64) (t : Nat) : Int := p.l[t]?.getD 0
def orAll (cs : List T_claim) (l : List Nat) : Nat := l.foldl (fun b t => b ||| pay cs t) 0
def lackV (cs : List T_claim) (s : Nat) (p : T_V8_i64) : Int := IntKind.i64.wrap ((bits s).foldl (fun b t => IntKind.i64.wrap (b + amt cs t)) 0 - (bits (orAll cs (bits s))).foldl (fun b t => IntKind.i64.wrap (b + lft p t)) 0)
theorem pay_p {cs : List T_claim} (h : OkC cs) {t : Nat} {x : T_claim} (hx : cs[t]? = some x) : x.payers_ = (pay cs t : Int) ∧ pay cs t < 256 := by
 obtain ⟨s, e, hs⟩ := h.2 x (List.mem_of_getElem? hx)
 have : pay cs t = s := by unfold pay; rw [hx]; simp [e]
 rw [this]
 exact ⟨e, hs⟩
theorem orAll_fold (cs : List T_claim) (h : ∀ t, pay cs t < 256) : ∀ (l : List Nat) (a : Nat), a < 256 → l.foldl (fun (b : Int) t => IntKind.u8.wrap (((BitVec.ofInt (IntKind.bits .u8) b ||| BitVec.ofInt (IntKind.bits .u8) (pay cs t : Int)).toNat : Nat) : Int)) (a : Int) = ((l.foldl (fun b t => b ||| pay cs t) a : Nat) : Int) ∧ l.foldl (fun b t => b ||| pay cs t) a < 256
 | [], a, ha => ⟨rfl, ha⟩
 | t :: l, a, ha => by
  have := orAll_fold cs h l (a ||| pay cs t) (Nat.or_lt_two_pow (n := 8) ha (h t))
  simp only [List.foldl_cons]
  rw [or_p a (pay cs t) ha (h t)]
  exact this
theorem orAll_bit (cs : List T_claim) : ∀ (l : List Nat) (a f : Nat), (l.foldl (fun b t => b ||| pay cs t) a).testBit f = true ↔ a.testBit f = true ∨ ∃ t ∈ l, (pay cs t).testBit f = true
 | [], a, f => by simp
 | u :: l, a, f => by
  have := orAll_bit cs l (a ||| pay cs u) f
  simp only [List.foldl_cons, this, Nat.testBit_or, Bool.or_eq_true, List.mem_cons, exists_eq_or_imp]
  exact or_assoc
theorem payAll {cs : List T_claim} (h : OkC cs) (t : Nat) : pay cs t < 256 := by
 cases hx : cs[t]? with
 | none => unfold pay; rw [hx]; simp
 | some x => exact (pay_p h hx).2
theorem sumA_p (N : Nat) (hN : 1000 < N) (cs : List T_claim) (s : Nat) (hs : s < 256) (hb : ∀ t ∈ bits s, t < cs.length) : p_sum_int_set_numbers_1r_claims_amount N (s : Int) cs = some ((bits s).foldl (fun b t => IntKind.i64.wrap (b + amt cs t)) 0) := by
 unfold p_sum_int_set_numbers_1r_claims_amount
 simp only [letJ_eq]
 refine numT (fun x => x = some ((bits s).foldl (fun b t => IntKind.i64.wrap (b + amt cs t)) 0)) (fun t => t < cs.length) (fun b t => IntKind.i64.wrap (b + amt cs t)) _ (fun rec => ?_) (fun rec s t b e1 e2 e3 ht => ?_) N s 0 hs hb (by omega) rfl
 ·simp only [bne_self_eq_false, cond_false]
 ·have hx : cs[t]? = some cs[t] := List.getElem?_eq_getElem ht
  have ea : p_claims_amount N cs (t : Int) = some (amt cs t) := by
   unfold p_claims_amount amt
   rw [getI_nat, hx]
   rfl
  simp only [e3, cond_true, e1 N, Option.bind_some, ea, e2]
theorem sumP_p (N : Nat) (hN : 1000 < N) (p : T_V8_i64) (s : Nat) (hs : s < 256) : p_sum_int_set_numbers_1r_purse_of N (s : Int) p = some ((bits s).foldl (fun b t => IntKind.i64.wrap (b + lft p t)) 0) := by
 unfold p_sum_int_set_numbers_1r_purse_of
 simp only [letJ_eq]
 refine numT (fun x => x = some ((bits s).foldl (fun b t => IntKind.i64.wrap (b + lft p t)) 0)) (fun t => t < 8) (fun b t => IntKind.i64.wrap (b + lft p t)) _ (fun rec => ?_) (fun rec s t b e1 e2 e3 ht => ?_) N s 0 hs (fun t ht => (mem_bits.1 ht).1) (by omega) rfl
 ·simp only [bne_self_eq_false, cond_false]
 ·have hx : p.l[t]? = some p.l[t] := List.getElem?_eq_getElem ht
  have ea : p_purse_of N p (t : Int) = some (lft p t) := by
   unfold p_purse_of lft
   rw [show idxI (t : Int) 8 = some () by unfold idxI; rw [if_pos (by omega)], Option.bind_some, Int.toNat_natCast, hx]
   rfl
  simp only [e3, cond_true, e1 N, Option.bind_some, ea, e2]
theorem lack_p (N : Nat) (hN : 1000 < N) (cs : List T_claim) (h : OkC cs) (p : T_V8_i64) (s : Nat) (hs : s < 256) (hb : ∀ t ∈ bits s, t < cs.length) : p_claims_lack N cs (s : Int) p = some (lackV cs s p) := by
 unfold p_claims_lack
 simp only [letJ_eq, show ∀ x, p_set_numbers N x = some x from fun _ => rfl, Option.bind_some]
 obtain ⟨o1, o2⟩ := orAll_fold cs (payAll h) (bits s) 0 (by omega)
 refine numT (fun x => x = some (lackV cs s p)) (fun t => t < cs.length) (fun (b : Int) t => IntKind.u8.wrap (((BitVec.ofInt (IntKind.bits .u8) b ||| BitVec.ofInt (IntKind.bits .u8) (pay cs t : Int)).toNat : Nat) : Int)) _ (fun rec => ?_) (fun rec s t b e1 e2 e3 ht => ?_) N s 0 hs hb (by omega) o1
 ·simp only [bne_self_eq_false, cond_false]
  rw [sumA_p N hN cs s hs hb, Option.bind_some, sumP_p N hN p _ o2]
  rfl
 ·have hx : cs[t]? = some cs[t] := List.getElem?_eq_getElem ht
  simp only [e3, cond_true, e1 N, Option.bind_some, getD_at hx, (pay_p h hx).1, e2]

def mrec (N : Nat) (cs : List T_claim) (p : T_V8_i64) (bound : Int) : (Int → Int → Int → Int → Option Int) → Int → Int → Int → Int → Option Int := fun rec_35 (begun_30 : Int) (next_31 : Int) (more_32 : Int) (b_33 : Int) => (bif (more_32 == 0) then (letJ (fun (b_52 : Int) => some b_52) (fun k_53 => ((p_claims_lack N cs begun_30 p).bind fun r_56 => (k_53 (if r_56 > b_33 then r_56 else b_33))))) else (letJ (fun (b_58 : Int) => some b_58) (fun k_59 => (loop2 (fun rec_64 (n_62 : Int) (b_63 : Int) => (bif (decide ((IntKind.i64.wrap (n_62 + more_32)) ≤ bound)) then ((p_set_add N begun_30 n_62).bind fun r_68 => (letJ (fun (b_71 : Int) => (rec_64 (IntKind.i64.wrap (n_62 + 1)) b_71)) (fun k_72 => ((rec_35 r_68 (IntKind.i64.wrap (n_62 + 1)) (IntKind.i64.wrap (more_32 - 1)) b_63).bind fun s_69 => ((fun t => k_72 t) s_69))))) else (k_59 b_63))) N next_31 b_33))))
def Most (cs : List T_claim) (p : T_V8_i64) (Q : List Nat → Prop) (s : Nat) (b b' : Int) : Prop := b ≤ b' ∧ (∀ l : List Nat, l.Pairwise (· < ·) → Q l → lackV cs (addAll s l) p ≤ b') ∧ (b' = b ∨ ∃ u, u < 256 ∧ (∀ t ∈ bits u, t < cs.length) ∧ lackV cs u p = b')
theorem rec_m (N : Nat) (hN : 1000 < N) (cs : List T_claim) (h : OkC cs) (p : T_V8_i64) : ∀ (k M s a : Nat) (b : Int), k < M → k ≤ 8 → a ≤ 9 → s < 256 → (∀ t ∈ bits s, t < cs.length) → ∃ b', loop4 (mrec N cs p (cs.length : Int)) M (s : Int) (a : Int) (k : Int) b = some b' ∧ Most cs p (fun l => l.length = k ∧ ∀ t ∈ l, a ≤ t ∧ t < cs.length) s b b'
 | k, 0, s, a, b, hM, _, _, _, _ => absurd hM (Nat.not_lt_zero _)
 | 0, M + 1, s, a, b, hM, _, _, hs, hb => by
  show ∃ b', mrec N cs p (cs.length : Int) (loop4 (mrec N cs p (cs.length : Int)) M) (s : Int) (a : Int) (0 : Int) b = some b' ∧ _
  unfold mrec
  simp only [letJ_eq, beq_self_eq_true, cond_true, lack_p N hN cs h p s hs hb, Option.bind_some]
  refine ⟨_, rfl, ?_, ?_, ?_⟩
  ·split <;> omega
  ·rintro l _ ⟨hl, _⟩
   have : l = [] := List.length_eq_zero_iff.1 hl
   subst this
   show lackV cs s p ≤ _
   split <;> omega
  ·split
   ·exact .inr ⟨s, hs, hb, rfl⟩
   ·exact .inl rfl
 | k + 1, M + 1, s, a, b, hM, hk, ha, hs, hb => by
  have hc := h.1
  show ∃ b', mrec N cs p (cs.length : Int) (loop4 (mrec N cs p (cs.length : Int)) M) (s : Int) (a : Int) ((k + 1 : Nat) : Int) b = some b' ∧ _
  have IH := fun s' a' b' h1 h2 h3 => rec_m N hN cs h p k M s' a' b' (by omega) (by omega) h1 h2 h3
  generalize hR : loop4 (mrec N cs p (cs.length : Int)) M = R at IH ⊢
  unfold mrec
  simp only [letJ_eq, show ((((k + 1 : Nat) : Int) == 0) = false) by simp; omega, cond_false]
  refine loop2_T (fun x => ∃ b', x = some b' ∧ Most cs p (fun l => l.length = k + 1 ∧ ∀ t ∈ l, a ≤ t ∧ t < cs.length) s b b') (fun n b2 => ∃ a2 : Nat, n = (a2 : Int) ∧ a ≤ a2 ∧ a2 ≤ 9 ∧ Most cs p (fun l => (l.length = k + 1 ∧ ∀ t ∈ l, a ≤ t ∧ t < cs.length) ∧ ∀ t, l.head? = some t → t < a2) s b b2) (fun n b2 => 10 - n.toNat) ?_ N (a : Int) b ⟨a, rfl, by omega, by omega, by omega, ?_, .inl rfl⟩ (by omega)
  ·rintro rec n b2 ⟨a2, rfl, h1, h9, h2, h3, h4⟩ ih
   rw [w64 (x := (a2 : Int) + ((k + 1 : Nat) : Int)) (by omega) (by omega)]
   by_cases hle : a2 + (k + 1) ≤ cs.length
   ·rw [show decide ((a2 : Int) + ((k + 1 : Nat) : Int) ≤ ((cs.length : Nat) : Int)) = true from decide_eq_true (by omega), cond_true, add_p N s a2 hs (by omega), Option.bind_some, nadd1 a2 (by omega), w64 (x := ((k + 1 : Nat) : Int) - 1) (by omega) (by omega), show ((k + 1 : Nat) : Int) - 1 = (k : Int) by omega]
    obtain ⟨b3, e, q1, q2, q3⟩ := IH (s ||| 2 ^ a2) (a2 + 1) b2 (by omega) (add_lt hs (by omega)) (fun t ht => by
     obtain ⟨t1, t2⟩ := mem_bits.1 ht
     rw [Nat.testBit_or, Nat.testBit_two_pow] at t2
     simp only [Bool.or_eq_true, decide_eq_true_eq] at t2
     rcases t2 with t2 | t2
     ·exact hb t (mem_bits.2 ⟨t1, t2⟩)
     ·omega)
    rw [e, Option.bind_some]
    refine ih _ _ ⟨a2 + 1, rfl, by omega, by omega, by omega, ?_, ?_⟩ (by omega)
    ·rintro l hl ⟨⟨l1, l2⟩, l3⟩
     match l, hl, l1, l2, l3 with
     | t :: r, hl, l1, l2, l3 =>
      obtain ⟨p1, p2⟩ := List.pairwise_cons.1 hl
      have ht := l3 t rfl
      by_cases hta : t < a2
      ·have := h3 (t :: r) hl ⟨⟨l1, l2⟩, fun u hu => by simp at hu; omega⟩
       omega
      ·have : t = a2 := by omega
       subst this
       exact q2 r p2 ⟨by simpa using l1, fun u hu => ⟨p1 u hu, (l2 u (by simp [hu])).2⟩⟩
    ·rcases q3 with q3 | q3
     ·rw [q3]; exact h4
     ·exact .inr q3
   ·rw [show decide ((a2 : Int) + ((k + 1 : Nat) : Int) ≤ ((cs.length : Nat) : Int)) = false from decide_eq_false (by omega), cond_false]
    refine ⟨b2, rfl, h2, ?_, h4⟩
    rintro l hl ⟨l1, l2⟩
    refine h3 l hl ⟨⟨l1, l2⟩, fun t ht => ?_⟩
    match l, hl, l1, l2, ht with
    | u :: r, hl, l1, l2, ht =>
     simp only [List.head?_cons, Option.some.injEq] at ht
     subst ht
     obtain ⟨p1, p2⟩ := List.pairwise_cons.1 hl
     have := asc_len (u :: r) u cs.length hl (fun v hv => by
      rcases List.mem_cons.1 hv with hv | hv
      ·subst hv; exact ⟨Nat.le_refl _, (l2 _ (by simp)).2⟩
      ·exact ⟨Nat.le_of_lt (p1 v hv), (l2 v (by simp [hv])).2⟩)
     rcases this with this | this
     ·omega
     ·cases this
  ·rintro l hl ⟨⟨l1, l2⟩, l3⟩
   match l, l1, l2, l3 with
   | t :: r, l1, l2, l3 =>
    have := l3 t rfl
    have := (l2 t (by simp)).1
    omega
theorem missing_p (N : Nat) (hN : 1000 < N) (cs : List T_claim) (h : OkC cs) (p : T_V8_i64) : ∃ m, p_claims_missing N cs p = some m ∧ Most cs p (fun l => ∀ t ∈ l, t < cs.length) 0 0 m := by
 have hc := h.1
 unfold p_claims_missing
 simp only [letJ_eq, show ∀ a b, p_setsOf N a b = some (b, a) from fun _ _ => rfl, Option.bind_some]
 rw [nadd1 cs.length (by omega)]
 refine loop2_T (fun x => ∃ m, x = some m ∧ Most cs p (fun l => ∀ t ∈ l, t < cs.length) 0 0 m) (fun y b => ∃ i : Nat, y = (i : Int) ∧ i ≤ cs.length + 1 ∧ Most cs p (fun l => (∀ t ∈ l, t < cs.length) ∧ l.length < i) 0 0 b) (fun y b => 10 - y.toNat) ?_ N 0 0 ⟨0, rfl, by omega, by omega, fun l _ q => absurd q.2 (Nat.not_lt_zero _), .inl rfl⟩ (by omega)
 rintro rec y b ⟨i, rfl, hi, h1, h2, h3⟩ ih
 by_cases hlt : i < cs.length + 1
 ·rw [ltD hlt, cond_true]
  obtain ⟨b2, e, q1, q2, q3⟩ := rec_m N hN cs h p i N 0 0 b (by omega) (by omega) (by omega) (by omega) (fun t ht => by simp [bits] at ht)
  have e' := e
  unfold mrec at e'
  simp only [letJ_eq] at e'
  rw [show ((0 : Nat) : Int) = 0 from rfl] at e'
  rw [e', Option.bind_some, nadd1 i (by omega)]
  refine ih _ _ ⟨i + 1, rfl, by omega, by omega, ?_, ?_⟩ (by omega)
  ·rintro l hl ⟨l1, l2⟩
   by_cases hli : l.length < i
   ·have := h2 l hl ⟨l1, hli⟩
    omega
   ·exact q2 l hl ⟨by omega, fun t ht => ⟨Nat.zero_le _, l1 t ht⟩⟩
  ·rcases q3 with q3 | q3
   ·rw [q3]; exact h3
   ·exact .inr q3
 ·rw [show decide ((i : Int) < ((cs.length + 1 : Nat) : Int)) = false from decide_eq_false (by omega), cond_false]
  refine ⟨b, rfl, h1, ?_, h3⟩
  intro l hl l1
  refine h2 l hl ⟨l1, ?_⟩
  rcases asc_len l 0 cs.length hl (fun t ht => ⟨Nat.zero_le _, l1 t ht⟩) with q | q
  ·omega
  ·subst q; simp; omega
end Go.Proofs.Ytfhapfljomgmnaa
end
section
namespace Go.Proofs.Ytfhapfljomgmnaa
open Go.RowKit

theorem at_p (p : T_V8_i64) (t : Nat) (h : t < 8) : p.l[Int.toNat (t : Int)]? = some (lft p t) := by
 have hx : p.l[t]? = some p.l[t] := List.getElem?_eq_getElem h
 rw [Int.toNat_natCast]
 unfold lft
 rw [hx]
 rfl

theorem bits_len (s : Nat) : (bits s).length ≤ 8 := by
 have := List.length_filter_le (fun t => s.testBit t) (List.range 8)
 simpa [bits] using this
theorem amtAt {nf nb : Nat} {c : Int} {L : T_Ledger} (h : GoodL nf nb c L) {cs : List T_claim} (hc : GoodC L cs) {i : Nat} {B : T_Bill} (hB : L.Bills[i]? = some B) : amt cs i = B.Amount := by
 obtain ⟨x, e, g, _⟩ := hc.2 i B hB
 unfold amt
 rw [e]
 exact g
theorem lftAt {L : T_Ledger} {p : T_V8_i64} (hp : ∀ f : Nat, f < 8 → p.l[f]? = some ((L.Funds[f]?.map (·.Amount)).getD 0)) {f : Nat} (hf : f < 8) : lft p f = (L.Funds[f]?.map (·.Amount)).getD 0 := by
 unfold lft
 rw [hp f hf]
 rfl
end Go.Proofs.Ytfhapfljomgmnaa
end
section
namespace Go.Proofs.Ytfhapfljomgmnaa
open Go.RowKit

theorem sum_range_ext (g : Nat → Int) (a : Nat) (hz : ∀ j, a ≤ j → g j = 0) : ∀ b, a ≤ b → ((List.range b).map g).sum = ((List.range a).map g).sum
 | 0, h => by
  have : a = 0 := by omega
  subst this; rfl
 | b + 1, h => by
  by_cases he : a = b + 1
  ·rw [he]
  ·rw [List.range_succ, List.map_append, List.sum_append, sum_range_ext g a hz b (by omega)]
   simp [hz b (by omega)]
theorem sum_succ (g : Nat → Int) (i : Nat) : ((List.range (i + 1)).map g).sum = ((List.range i).map g).sum + g i := by
 rw [List.range_succ, List.map_append, List.sum_append]
 simp
theorem bits_asc (s : Nat) : (bits s).Pairwise (· < ·) := List.Pairwise.filter _ List.pairwise_lt_range
theorem setI_p (l : List Int) (i : Nat) (v : Int) (h : i < l.length) : setI l (i : Int) (fun (y : Int) => v) = some (l.set i v) := by
 have hx : l[i]? = some l[i] := List.getElem?_eq_getElem h
 unfold setI
 rw [Int.toNat_natCast, hx]
 rfl
end Go.Proofs.Ytfhapfljomgmnaa
end
section
namespace Go.Proofs.Ytfhapfljomgmnaa
open Go.RowKit

def S8 (Q : Nat → Bool) (g : Nat → Int) : Int := ((List.range 8).map fun t => if Q t then g t else 0).sum
theorem sum_upd (h h' : Nat → Int) (t : Nat) (off : ∀ f, f ≠ t → h' f = h f) : ∀ m, t < m → ((List.range m).map h').sum = ((List.range m).map h).sum + (h' t - h t)
 | 0, ht => absurd ht (Nat.not_lt_zero _)
 | m + 1, ht => by
  rw [sum_succ, sum_succ]
  by_cases he : t = m
  ·subst he
   have e : ((List.range t).map h').sum = ((List.range t).map h).sum := by
    congr 1
    refine List.map_congr_left fun f hf => ?_
    rw [List.mem_range] at hf
    exact off f (by omega)
   rw [e]
   omega
  ·rw [sum_upd h h' t off m (by omega), off m (by omega)]
   omega
theorem sum_shift (h : Nat → Int) (i : Nat) : ∀ m, ((List.range m).map fun t => h (t + i)).sum + ((List.range i).map h).sum = ((List.range (m + i)).map h).sum
 | 0 => by simp
 | m + 1 => by
  have ih := sum_shift h i m
  rw [sum_succ, show m + 1 + i = (m + i) + 1 by omega, sum_succ]
  omega
theorem S8_le {Q Q' : Nat → Bool} {g g' : Nat → Int} (h : ∀ f, f < 8 → (if Q f then g f else 0) ≤ (if Q' f then g' f else 0)) : S8 Q g ≤ S8 Q' g' := by
 refine sum_le _ _ _ fun f hf => h f ?_
 rwa [List.mem_range] at hf
theorem S8_eq {Q Q' : Nat → Bool} {g g' : Nat → Int} (h : ∀ f, f < 8 → (if Q f then g f else 0) = (if Q' f then g' f else 0)) : S8 Q g = S8 Q' g' := by
 unfold S8
 congr 1
 refine List.map_congr_left fun f hf => h f ?_
 rwa [List.mem_range] at hf
theorem S8_mono {Q Q' : Nat → Bool} {g : Nat → Int} (h : ∀ f, f < 8 → Q f = true → Q' f = true) (h0 : ∀ f, f < 8 → 0 ≤ g f) : S8 Q g ≤ S8 Q' g := by
 refine S8_le fun f hf => ?_
 have := h0 f hf
 cases h1 : Q f with
 | true => rw [h f hf h1]; simp
 | false => cases Q' f <;> simp <;> omega
theorem sum_z0 {α : Type} : ∀ l : List α, (l.map fun _ => (0 : Int)).sum = 0
 | [] => rfl
 | x :: l => by rw [List.map_cons, List.sum_cons, sum_z0 l]; rfl
theorem S8_none (g : Nat → Int) : S8 (fun _ => false) g = 0 := by
 have e : (fun t => if (false : Bool) = true then g t else 0) = fun _ => (0 : Int) := by funext t; simp
 unfold S8
 rw [e]
 exact sum_z0 _
theorem S8_mod (Q Q' : Nat → Bool) (g : Nat → Int) : S8 (fun f => Q f || Q' f) g + S8 (fun f => Q f && Q' f) g = S8 Q g + S8 Q' g := by
 unfold S8
 rw [← sum_add, ← sum_add]
 congr 1
 refine List.map_congr_left fun f _ => ?_
 cases h1 : Q f <;> cases h2 : Q' f <;> simp [h1, h2]
theorem S8_upd {Q : Nat → Bool} {g g' : Nat → Int} {t : Nat} (ht : t < 8) (off : ∀ f, f ≠ t → g' f = g f) : S8 Q g' = S8 Q g + (if Q t then g' t - g t else 0) := by
 unfold S8
 rw [sum_upd (fun f => if Q f then g f else 0) (fun f => if Q f then g' f else 0) t (fun f hf => by simp only [off f hf]) 8 ht]
 cases Q t <;> simp
theorem S8_ins {Q Q' : Nat → Bool} {g : Nat → Int} {t : Nat} (ht : t < 8) (off : ∀ f, f ≠ t → Q' f = Q f) : S8 Q' g = S8 Q g + ((if Q' t then g t else 0) - (if Q t then g t else 0)) := by
 unfold S8
 exact sum_upd (fun f => if Q f then g f else 0) (fun f => if Q' f then g f else 0) t (fun f hf => by simp only [off f hf]) 8 ht
theorem S8_bits (s : Nat) (g : Nat → Int) : ((bits s).map g).sum = S8 (fun t => s.testBit t) g := by
 unfold bits S8
 rw [sum_filter]
theorem S8_nonneg {Q : Nat → Bool} {g : Nat → Int} (h0 : ∀ f, f < 8 → 0 ≤ g f) : 0 ≤ S8 Q g := by
 rw [← S8_none g]
 exact S8_mono (fun f _ h => by cases h) h0

def pset (cs : List T_claim) (T : Nat → Bool) (f : Nat) : Bool := (List.range 8).any fun t => T t && (pay cs t).testBit f
theorem pset_iff {cs : List T_claim} {T : Nat → Bool} {f : Nat} : pset cs T f = true ↔ ∃ t, t < 8 ∧ T t = true ∧ (pay cs t).testBit f = true := by
 unfold pset
 simp [List.any_eq_true]
def A8 (cs : List T_claim) (T : Nat → Bool) : Int := S8 T (amt cs)
def B8 (p : T_V8_i64) (Q : Nat → Bool) : Int := S8 Q (lft p)
def SmallC (cs : List T_claim) : Prop := ∀ t, 0 ≤ amt cs t ∧ amt cs t ≤ 2000000
def SmallP (p : T_V8_i64) : Prop := ∀ f, 0 ≤ lft p f ∧ lft p f ≤ 2000000
theorem lackV_8 {cs : List T_claim} {p : T_V8_i64} (ha : SmallC cs) (hl : SmallP p) (s : Nat) : lackV cs s p = A8 cs (fun t => s.testBit t) - B8 p (pset cs fun t => s.testBit t) ∧ A8 cs (fun t => s.testBit t) ≤ 16000000 := by
 have l1 := bits_len s
 have l2 := bits_len (orAll cs (bits s))
 have s1 := sum_bnd (amt cs) 2000000 (by omega) (bits s) (fun t _ => ha t)
 have s2 := sum_bnd (lft p) 2000000 (by omega) (bits (orAll cs (bits s))) (fun t _ => hl t)
 have e1 : A8 cs (fun t => s.testBit t) = ((bits s).map (amt cs)).sum := (S8_bits s _).symm
 have e2 : B8 p (pset cs fun t => s.testBit t) = ((bits (orAll cs (bits s))).map (lft p)).sum := by
  rw [S8_bits]
  refine S8_eq fun f hf => ?_
  have : pset cs (fun t => s.testBit t) f = (orAll cs (bits s)).testBit f := by
   apply Bool.eq_iff_iff.2
   rw [pset_iff]
   constructor
   ·rintro ⟨t, h1, h2, h3⟩
    exact (orAll_bit cs _ 0 f).2 (.inr ⟨t, mem_bits.2 ⟨h1, h2⟩, h3⟩)
   ·intro h
    rcases (orAll_bit cs _ 0 f).1 h with hb | ⟨t, ht, hb⟩
    ·simp at hb
    ·obtain ⟨t1, t2⟩ := mem_bits.1 ht
     exact ⟨t, t1, t2, hb⟩
  rw [this]
 rw [e1, e2]
 refine ⟨?_, by omega⟩
 unfold lackV
 rw [foldSum (amt cs) 2000000 (by omega) (bits s) 0 (fun t _ => by have := ha t; omega) (by omega) (by omega), foldSum (lft p) 2000000 (by omega) (bits (orAll cs (bits s))) 0 (fun t _ => by have := hl t; omega) (by omega) (by omega), w64 (by omega) (by omega)]
 omega
def From (cs : List T_claim) (i : Nat) (T : Nat → Bool) : Prop := ∀ t, T t = true → i ≤ t ∧ t < cs.length
theorem amt_drop (cs : List T_claim) (i t : Nat) : amt (cs.drop i) t = amt cs (t + i) := by
 unfold amt
 rw [List.getElem?_drop, Nat.add_comm]
theorem pay_drop (cs : List T_claim) (i t : Nat) : pay (cs.drop i) t = pay cs (t + i) := by
 unfold pay
 rw [List.getElem?_drop, Nat.add_comm]
theorem A8_drop {cs : List T_claim} (h8 : cs.length ≤ 8) {i : Nat} {T : Nat → Bool} (hT : From cs i T) : A8 (cs.drop i) (fun t => T (t + i)) = A8 cs T := by
 have e : ((List.range 8).map fun t => if T (t + i) then amt cs (t + i) else 0).sum + ((List.range i).map fun t => if T t then amt cs t else 0).sum = ((List.range (8 + i)).map fun t => if T t then amt cs t else 0).sum := sum_shift (fun t => if T t then amt cs t else 0) i 8
 have z : ((List.range i).map fun t => if T t then amt cs t else 0).sum = 0 := by
  have : ((List.range i).map fun t => if T t then amt cs t else 0) = (List.range i).map fun _ => (0 : Int) := by
   refine List.map_congr_left fun t ht => ?_
   rw [List.mem_range] at ht
   cases hq : T t with
   | false => rfl
   | true => have := hT t hq; omega
  rw [this]
  exact sum_z0 _
 have x : ((List.range (8 + i)).map fun t => if T t then amt cs t else 0).sum = ((List.range 8).map fun t => if T t then amt cs t else 0).sum := sum_range_ext (fun t => if T t then amt cs t else 0) 8 (fun t ht => by
  cases hq : T t with
  | false => simp [hq]
  | true => have := hT t hq; omega) (8 + i) (by omega)
 unfold A8 S8
 simp only [amt_drop]
 omega
theorem pset_drop {cs : List T_claim} (h8 : cs.length ≤ 8) {i : Nat} {T : Nat → Bool} (hT : From cs i T) (f : Nat) : pset (cs.drop i) (fun t => T (t + i)) f = pset cs T f := by
 apply Bool.eq_iff_iff.2
 rw [pset_iff, pset_iff]
 constructor
 ·rintro ⟨t, h1, h2, h3⟩
  rw [pay_drop] at h3
  have := hT _ h2
  exact ⟨t + i, by omega, h2, h3⟩
 ·rintro ⟨t, h1, h2, h3⟩
  have := hT _ h2
  refine ⟨t - i, by omega, ?_, ?_⟩
  ·simpa [show t - i + i = t by omega] using h2
  ·rw [pay_drop, show t - i + i = t by omega]; exact h3
theorem B8_congr {p : T_V8_i64} {Q Q' : Nat → Bool} (h : ∀ f, Q f = Q' f) : B8 p Q = B8 p Q' := by
 have : Q = Q' := funext h
 rw [this]
theorem missing_8 (N : Nat) (hN : 1000 < N) (cs : List T_claim) (h : OkC cs) (ha : SmallC cs) (i : Nat) (p : T_V8_i64) (hl : SmallP p) : ∃ m, p_claims_missing N (cs.drop i) p = some m ∧ 0 ≤ m ∧ m ≤ 16000000 ∧ (∀ T, From cs i T → A8 cs T - B8 p (pset cs T) ≤ m) ∧ ∃ T, From cs i T ∧ A8 cs T - B8 p (pset cs T) = m := by
 have h8 := h.1
 have hok : OkC (cs.drop i) := ⟨by simp; omega, fun x hx => h.2 x (List.mem_of_mem_drop hx)⟩
 have had : SmallC (cs.drop i) := fun t => by rw [amt_drop]; exact ha _
 obtain ⟨m, e, h0, h1, h2⟩ := missing_p N hN (cs.drop i) hok p
 have key : ∀ T, From cs i T → A8 cs T - B8 p (pset cs T) ≤ m := fun T hT => by
  let l := (List.range (cs.drop i).length).filter fun t => T (t + i)
  have hq := h1 l (List.Pairwise.filter _ List.pairwise_lt_range) (fun t ht => by
   have := (List.mem_filter.1 ht).1
   rwa [List.mem_range] at this)
  have hb : ∀ t, (addAll 0 l).testBit t = T (t + i) := fun t => by
   rw [addAll_bit]
   simp only [Nat.zero_testBit, Bool.false_or]
   apply Bool.eq_iff_iff.2
   simp only [decide_eq_true_eq, l, List.mem_filter, List.mem_range, List.length_drop]
   constructor
   ·exact fun q => q.2
   ·intro q
    have := hT _ q
    exact ⟨by omega, q⟩
  rw [(lackV_8 had hl _).1] at hq
  have : (fun t => (addAll 0 l).testBit t) = fun t => T (t + i) := funext hb
  rw [this, A8_drop h8 hT, B8_congr (pset_drop h8 hT)] at hq
  exact hq
 have hnone : From cs i (fun _ => false) := fun t ht => by cases ht
 have zA : A8 cs (fun _ => false) = 0 := S8_none _
 have zP : ∀ f, pset cs (fun _ => false) f = false := fun f => by
  cases hq : pset cs (fun _ => false) f with
  | false => rfl
  | true => obtain ⟨t, _, ht, _⟩ := pset_iff.1 hq; cases ht
 have zB : B8 p (pset cs fun _ => false) = 0 := by
  rw [B8_congr zP]
  exact S8_none _
 rcases h2 with h2 | ⟨u, u1, u2, u3⟩
 ·exact ⟨m, e, h0, by omega, key, fun _ => false, hnone, by omega⟩
 ·let T : Nat → Bool := fun t => decide (i ≤ t) && u.testBit (t - i) && decide (t < cs.length)
  have hT : From cs i T := fun t ht => by
   simp only [T, Bool.and_eq_true, decide_eq_true_eq] at ht
   exact ⟨ht.1.1, ht.2⟩
  have hu : (fun t => u.testBit t) = fun t => T (t + i) := funext fun t => by
   apply Bool.eq_iff_iff.2
   simp only [T, Bool.and_eq_true, decide_eq_true_eq, Nat.add_sub_cancel]
   constructor
   ·intro q
    have t8 : t < 8 := by
     by_cases h8 : t < 8
     ·exact h8
     ·have h2 : 2 ^ 8 ≤ 2 ^ t := Nat.pow_le_pow_right (by omega) (by omega)
      rw [Nat.testBit_lt_two_pow (by omega)] at q
      cases q
    have := u2 t (mem_bits.2 ⟨t8, q⟩)
    rw [List.length_drop] at this
    exact ⟨⟨by omega, q⟩, by omega⟩
   ·exact fun q => q.1.2
  obtain ⟨v1, v2⟩ := lackV_8 had hl u
  have hB0 : 0 ≤ B8 p (pset (cs.drop i) fun t => u.testBit t) := S8_nonneg fun f _ => (hl f).1
  refine ⟨m, e, h0, by omega, key, T, hT, ?_⟩
  rw [hu, A8_drop h8 hT, B8_congr (pset_drop h8 hT)] at v1
  omega
end Go.Proofs.Ytfhapfljomgmnaa
end
section
namespace Go.Proofs.Ytfhapfljomgmnaa
open Go.RowKit

theorem with_q (N : Nat) (p : T_V8_i64) (t : Nat) (x : Int) (h : t < 8) : ∃ z, p_purse_with N p (t : Int) x = some z ∧ lft z t = x ∧ ∀ f, f ≠ t → lft z f = lft p f := by
 unfold p_purse_with
 rw [show idxI (t : Int) 8 = some () by unfold idxI; rw [if_pos (by omega)], Option.bind_some, Int.toNat_natCast]
 have e : (T_V8_i64.ofl (p.l.set t x)).l = p.l.set t x := T_V8_i64.l_ofl _ (by rw [List.length_set]; rfl)
 refine ⟨_, rfl, ?_, fun f hf => ?_⟩
 ·unfold lft
  rw [e, List.getElem?_set, if_pos rfl, if_pos (by rw [V8_len]; omega)]
  rfl
 ·unfold lft
  rw [e, List.getElem?_set, if_neg (fun q => hf q.symm)]
theorem lft_out {p : T_V8_i64} {f : Nat} (h : 8 ≤ f) : lft p f = 0 := by
 unfold lft
 rw [List.getElem?_eq_none (by rw [V8_len]; omega)]
 rfl
def Feas (cs : List T_claim) (i : Nat) (p : T_V8_i64) : Prop := ∀ T, From cs i T → A8 cs T ≤ B8 p (pset cs T)
def Tight (cs : List T_claim) (i : Nat) (p : T_V8_i64) (f : Nat) : Prop := ∃ T Q, From cs i T ∧ Q f = true ∧ (∀ g, pset cs T g = true → Q g = true) ∧ B8 p Q ≤ A8 cs T
theorem pset_mono {cs : List T_claim} {T T' : Nat → Bool} (h : ∀ t, T t = true → T' t = true) {f : Nat} (hf : pset cs T f = true) : pset cs T' f = true := by
 obtain ⟨t, h1, h2, h3⟩ := pset_iff.1 hf
 exact pset_iff.2 ⟨t, h1, h t h2, h3⟩
structure PayInv (cs : List T_claim) (i : Nat) (p : T_V8_i64) (s : Nat) (l z : T_V8_i64) (d : Int) : Prop where
 s8 : s < 256
 sub : ∀ f, s.testBit f = true → (pay cs i).testBit f = true
 asc : ∀ f g, s.testBit g = true → (pay cs i).testBit f = true → s.testBit f = false → f < g
 eq : ∀ f, lft l f = lft p f - lft z f
 z0 : ∀ f, 0 ≤ lft z f
 l0 : ∀ f, 0 ≤ lft l f
 who : ∀ f, 0 < lft z f → (pay cs i).testBit f = true ∧ s.testBit f = false
 due : d = amt cs i - S8 (fun _ => true) (lft z)
 d0 : 0 ≤ d
 a : Feas cs (i + 1) l
 b : ∀ T, From cs (i + 1) T → A8 cs T + d ≤ B8 l (fun f => pset cs T f || s.testBit f)
 tight : ∀ f, (pay cs i).testBit f = true → s.testBit f = false → Tight cs (i + 1) l f ∨ (d = 0 ∧ ∀ g, f < g → lft z g = 0)
 max : ∀ f, (pay cs i).testBit f = true → s.testBit f = false → ∀ y, (∀ g, 0 ≤ lft y g) → (∀ g, g < f → lft y g ≤ lft p g - lft z g) → (∀ g, f < g → lft y g ≤ lft p g) → lft y f < lft p f - lft z f → Feas cs (i + 1) y → d = 0 ∧ ∀ g, f < g → lft z g = 0
theorem A8_mod (cs : List T_claim) (T T' : Nat → Bool) : A8 cs (fun t => T t || T' t) + A8 cs (fun t => T t && T' t) = A8 cs T + A8 cs T' := S8_mod T T' _
theorem step_p {cs : List T_claim} {i : Nat} {p : T_V8_i64} {s t s2 : Nat} {l z l2 z2 w : T_V8_i64} {d m coins : Int} (h : PayInv cs i p s l z d) (ht8 : t < 8) (hb : bits s = t :: bits s2) (hs2 : s2 < 256) (hw0 : lft w t = 0) (hw : ∀ f, f ≠ t → lft w f = lft l f) (m0 : 0 ≤ m) (hm : ∀ T, From cs (i + 1) T → A8 cs T - B8 w (pset cs T) ≤ m) (hex : ∃ T, From cs (i + 1) T ∧ A8 cs T - B8 w (pset cs T) = m) (hc : coins = if lft l t - m < d then lft l t - m else d) (hl2 : lft l2 t = lft l t - coins) (hl2o : ∀ f, f ≠ t → lft l2 f = lft l f) (hz2 : lft z2 t = coins) (hz2o : ∀ f, f ≠ t → lft z2 f = lft z f) : PayInv cs i p s2 l2 z2 (d - coins) := by
 have htb : s.testBit t = true := (mem_bits.1 (show t ∈ bits s by rw [hb]; simp)).2
 -- the rest of the set
 have hs2b : ∀ f, s2.testBit f = true ↔ s.testBit f = true ∧ f ≠ t := by
  have big : ∀ q, q < 256 → ∀ f, q.testBit f = true → f < 8 := fun q hq f hf => by
   by_cases h8 : f < 8
   ·exact h8
   ·have h2 : 2 ^ 8 ≤ 2 ^ f := Nat.pow_le_pow_right (by omega) (by omega)
    rw [Nat.testBit_lt_two_pow (by omega)] at hf
    cases hf
  have hasc := bits_asc s
  rw [hb] at hasc
  obtain ⟨p1, p2⟩ := List.pairwise_cons.1 hasc
  intro f
  constructor
  ·intro hf
   have hm : f ∈ bits s2 := mem_bits.2 ⟨big _ hs2 f hf, hf⟩
   have := p1 f hm
   exact ⟨(mem_bits.1 (show f ∈ bits s by rw [hb]; simp [hm])).2, by omega⟩
  ·rintro ⟨hf, hne⟩
   have hm : f ∈ bits s := mem_bits.2 ⟨big _ h.s8 f hf, hf⟩
   rw [hb] at hm
   rcases List.mem_cons.1 hm with hm | hm
   ·exact absurd hm hne
   ·exact (mem_bits.1 hm).2
 have hs2t : s2.testBit t = false := by
  cases hq : s2.testBit t with
  | false => rfl
  | true => exact absurd rfl ((hs2b t).1 hq).2
 have hmin : ∀ g, s2.testBit g = true → t < g := fun g hg => by
  have hasc := bits_asc s
  rw [hb] at hasc
  have h1 := (hs2b g).1 hg
  have hm : g ∈ bits s := by
   by_cases h8 : g < 8
   ·exact mem_bits.2 ⟨h8, h1.1⟩
   ·have h2 : 2 ^ 8 ≤ 2 ^ g := Nat.pow_le_pow_right (by omega) (by omega)
    rw [Nat.testBit_lt_two_pow (by omega)] at hg
    cases hg
  rw [hb] at hm
  rcases List.mem_cons.1 hm with hm | hm
  ·exact absurd hm h1.2
  ·exact (List.pairwise_cons.1 hasc).1 g hm
 have hzt : lft z t = 0 := by
  have := h.z0 t
  by_cases hp : 0 < lft z t
  ·have := (h.who t hp).2
   rw [htb] at this
   cases this
  ·omega
 have hBw : ∀ Q : Nat → Bool, B8 w Q = B8 l Q - (if Q t then lft l t else 0) := fun Q => by
  have := S8_upd (Q := Q) (g := lft l) (g' := lft w) ht8 hw
  unfold B8
  rw [this, hw0]
  split <;> omega
 have hBl : ∀ Q : Nat → Bool, B8 l2 Q = B8 l Q - (if Q t then coins else 0) := fun Q => by
  have := S8_upd (Q := Q) (g := lft l) (g' := lft l2) ht8 hl2o
  unfold B8
  rw [this, hl2]
  split <;> omega
 have hlt0 := h.l0 t
 obtain ⟨T0, hT0, em⟩ := hex
 -- no less than nothing is taken
 have hge : 0 ≤ lft l t - m := by
  have := h.a T0 hT0
  rw [hBw] at em
  split at em <;> omega
 have hd0 := h.d0
 have c0 : 0 ≤ coins := by rw [hc]; split <;> omega
 have c1 : coins ≤ lft l t - m := by rw [hc]; split <;> omega
 have c2 : coins ≤ d := by rw [hc]; split <;> omega
 have hcmm : ¬ coins = d → coins = lft l t - m := fun hne => by
  by_cases q : lft l t - m < d
  ·rw [hc, if_pos q]
  ·exact absurd (by rw [hc, if_neg q]) hne
 have l20 : ∀ f, 0 ≤ lft l2 f := fun f => by
  by_cases hf : f = t
  ·subst hf; omega
  ·rw [hl2o f hf]; exact h.l0 f
 have ha2 : Feas cs (i + 1) l2 := fun T hT => by
  have q1 := h.a T hT
  have q2 := hm T hT
  rw [hBw] at q2
  rw [hBl]
  split
  ·rename_i hp
   rw [if_pos hp] at q2
   omega
  ·omega
 -- what holds if not all is paid
 have hV : B8 w (pset cs T0) = B8 l (fun f => pset cs T0 f && decide (f ≠ t)) := by
  refine S8_eq fun f hf => ?_
  by_cases hft : f = t
  ·subst hft; simp [hw0]
  ·rw [hw f hft]; simp [hft]
 have hmaxN : ∀ f, (pay cs i).testBit f = true → s2.testBit f = false → ∀ y, (∀ g, 0 ≤ lft y g) → (∀ g, g < f → lft y g ≤ lft p g - lft z2 g) → (∀ g, f < g → lft y g ≤ lft p g) → lft y f < lft p f - lft z2 f → Feas cs (i + 1) y → d - coins = 0 ∧ ∀ g, f < g → lft z2 g = 0 := by
  intro f hpf hsf y y0 y1 y2 y3 y4
  by_cases hft : f = t
  ·subst hft
   have hz0 : ∀ g, f < g → lft z g = 0 := fun g hg => by
    have := h.z0 g
    by_cases hp : 0 < lft z g
    ·obtain ⟨r1, r2⟩ := h.who g hp
     have := h.asc g f htb r1 r2
     omega
    ·omega
   refine ⟨?_, fun g hg => by rw [hz2o g (by omega)]; exact hz0 g hg⟩
   by_cases hcd : coins = d
   ·omega
   ·have hcm := hcmm hcd
    have k1 := y4 T0 hT0
    have e := S8_upd (Q := pset cs T0) (g := fun g => if g = f then 0 else lft y g) (g' := lft y) ht8 (fun g hg => by simp [hg])
    have k2 : S8 (pset cs T0) (fun g => if g = f then 0 else lft y g) ≤ B8 w (pset cs T0) := by
     refine S8_le fun g _ => ?_
     split
     ·by_cases hgf : g = f
      ·subst hgf; simp [hw0]
      ·rw [if_neg hgf, hw g hgf, h.eq g]
       by_cases hlt : g < f
       ·have := y1 g hlt
        rw [hz2o g hgf] at this
        exact this
       ·have := y2 g (by omega)
        rw [hz0 g (by omega)]
        omega
     ·exact Int.le_refl _
    have k3 := y0 f
    have k4 := h.eq f
    unfold B8 at k1 k2 em
    rw [e] at k1
    simp only [if_true] at k1
    split at k1 <;> omega
  ·have hsf' : s.testBit f = false := by
    cases hq : s.testBit f with
    | false => rfl
    | true => rw [(hs2b f).2 ⟨hq, hft⟩] at hsf; cases hsf
   have hlt := h.asc f t htb hpf hsf'
   obtain ⟨r1, r2⟩ := h.max f hpf hsf' y y0 (fun g hg => by have := y1 g hg; rw [hz2o g (by omega)] at this; exact this) y2 (by rw [hz2o f hft] at y3; exact y3) y4
   refine ⟨by omega, fun g hg => ?_⟩
   by_cases hgt : g = t
   ·subst hgt; omega
   ·rw [hz2o g hgt]; exact r2 g hg
 refine ⟨hs2, fun f hf => h.sub f ((hs2b f).1 hf).1, ?_, ?_, ?_, l20, ?_, ?_, by omega, ha2, ?_, ?_, hmaxN⟩
 ·intro f g hg hpf hsf
  by_cases hft : f = t
  ·subst hft; exact hmin g hg
  ·have : s.testBit f = false := by
    cases hq : s.testBit f with
    | false => rfl
    | true => rw [(hs2b f).2 ⟨hq, hft⟩] at hsf; cases hsf
   exact h.asc f g ((hs2b g).1 hg).1 hpf this
 ·intro f
  by_cases hft : f = t
  ·subst hft
   have := h.eq f
   omega
  ·rw [hl2o f hft, hz2o f hft]; exact h.eq f
 ·intro f
  by_cases hft : f = t
  ·subst hft; omega
  ·rw [hz2o f hft]; exact h.z0 f
 ·intro f hf
  by_cases hft : f = t
  ·subst hft; exact ⟨h.sub f htb, hs2t⟩
  ·rw [hz2o f hft] at hf
   obtain ⟨q1, q2⟩ := h.who f hf
   refine ⟨q1, ?_⟩
   cases hq : s2.testBit f with
   | false => rfl
   | true => rw [((hs2b f).1 hq).1] at q2; cases q2
 ·have := S8_upd (Q := fun _ => true) (g := lft z) (g' := lft z2) ht8 hz2o
  simp only [if_true] at this
  rw [this, h.due]
  omega
 ·intro T hT
  by_cases hcd : coins = d
  ·-- all is paid
   have q1 := ha2 T hT
   have q2 : B8 l2 (pset cs T) ≤ B8 l2 (fun f => pset cs T f || s2.testBit f) := S8_mono (fun f _ hf => by simp [hf]) fun f _ => l20 f
   omega
  ·have hcm : coins = lft l t - m := hcmm hcd
   rw [hBl]
   cases hpt : pset cs T t with
   | true =>
    have q1 := h.b T hT
    have q2 : B8 l (fun f => pset cs T f || s.testBit f) = B8 l (fun f => pset cs T f || s2.testBit f) := by
     refine B8_congr fun f => ?_
     by_cases hft : f = t
     ·subst hft; simp [hpt]
     ·have : s.testBit f = s2.testBit f := by
       apply Bool.eq_iff_iff.2
       rw [hs2b f]
       exact ⟨fun q => ⟨q, hft⟩, fun q => q.1⟩
      rw [this]
    simp only [Bool.true_or, if_true]
    omega
   | false =>
    simp only [hs2t, Bool.or_self, Bool.false_eq_true, if_false]
    have hU : From cs (i + 1) (fun t => T t || T0 t) := fun u hu => by
     simp only [Bool.or_eq_true] at hu
     rcases hu with hu | hu
     ·exact hT u hu
     ·exact hT0 u hu
    have hI : From cs (i + 1) (fun t => T t && T0 t) := fun u hu => by
     simp only [Bool.and_eq_true] at hu
     exact hT u hu.1
    have q1 := h.b _ hU
    have q2 := h.a _ hI
    have q3 := A8_mod cs T T0
    let U : Nat → Bool := fun f => pset cs T f || s2.testBit f
    let V : Nat → Bool := fun f => pset cs T0 f && decide (f ≠ t)
    have q4 : B8 l (fun f => U f || V f) + B8 l (fun f => U f && V f) = B8 l U + B8 l V := S8_mod U V _
    have q5 : B8 l (pset cs fun t => T t && T0 t) ≤ B8 l (fun f => U f && V f) := by
     refine S8_mono (fun f _ hf => ?_) fun f _ => h.l0 f
     have f1 := pset_mono (T' := T) (fun t ht => by simp only [Bool.and_eq_true] at ht; exact ht.1) hf
     have f2 := pset_mono (T' := T0) (fun t ht => by simp only [Bool.and_eq_true] at ht; exact ht.2) hf
     have f3 : f ≠ t := fun q => by subst q; rw [hpt] at f1; cases f1
     simp [U, V, f1, f2, f3]
    have q6 : B8 l (fun f => pset cs (fun t => T t || T0 t) f || s.testBit f) ≤ B8 l (fun f => U f || V f) + lft l t := by
     have e := S8_ins (Q := fun f => U f || V f) (Q' := fun f => (U f || V f) || decide (f = t)) (g := lft l) ht8 (fun f hf => by simp [hf])
     have e2 : B8 l (fun f => pset cs (fun t => T t || T0 t) f || s.testBit f) ≤ S8 (fun f => (U f || V f) || decide (f = t)) (lft l) := by
      refine S8_mono (fun f _ hf => ?_) fun f _ => h.l0 f
      by_cases hft : f = t
      ·simp [hft]
      ·simp only [Bool.or_eq_true] at hf
       rcases hf with hf | hf
       ·obtain ⟨u, u1, u2, u3⟩ := pset_iff.1 hf
        simp only [Bool.or_eq_true] at u2
        rcases u2 with u2 | u2
        ·have : pset cs T f = true := pset_iff.2 ⟨u, u1, u2, u3⟩
         simp [U, this]
        ·have : pset cs T0 f = true := pset_iff.2 ⟨u, u1, u2, u3⟩
         simp [V, this, hft]
       ·have : s2.testBit f = true := (hs2b f).2 ⟨hf, hft⟩
        simp [U, this]
     have : (if (U t || V t || decide (t = t)) = true then lft l t else 0) - (if (U t || V t) = true then lft l t else 0) ≤ lft l t := by
      split <;> split <;> omega
     unfold B8 at *
     omega
    rw [hV] at em
    show A8 cs T + (d - coins) ≤ B8 l U - 0
    have em2 : A8 cs T0 - B8 l V = m := em
    omega
 ·intro f hpf hsf
  by_cases hft : f = t
  ·subst hft
   by_cases hcd : coins = d
   ·right
    refine ⟨by omega, fun g hg => ?_⟩
    rw [hz2o g (by omega)]
    have := h.z0 g
    by_cases hp : 0 < lft z g
    ·obtain ⟨w1, w2⟩ := h.who g hp
     have := h.asc g f htb w1 w2
     omega
    ·omega
   ·left
    have hcm : coins = lft l f - m := hcmm hcd
    refine ⟨T0, fun g => pset cs T0 g || decide (g = f), hT0, by simp, fun g hg => by simp [hg], ?_⟩
    rw [hBl]
    have e := S8_ins (Q := fun g => pset cs T0 g && decide (g ≠ f)) (Q' := fun g => pset cs T0 g || decide (g = f)) (g := lft l) ht8 (fun g hg => by simp [hg])
    simp at e
    rw [hV] at em
    simp only [decide_true, Bool.or_true, if_true]
    unfold B8 at *
    have em2 := em
    simp at em2
    omega
  ·have hsf2 : s.testBit f = false := by
    cases hq : s.testBit f with
    | false => rfl
    | true => rw [(hs2b f).2 ⟨hq, hft⟩] at hsf; cases hsf
   rcases h.tight f hpf hsf2 with ⟨T, Q, q1, q2, q3, q4⟩ | ⟨q1, q2⟩
   ·left
    refine ⟨T, Q, q1, q2, q3, ?_⟩
    rw [hBl]
    split <;> omega
   ·right
    have hc0 : coins = 0 := by omega
    refine ⟨by omega, fun g hg => ?_⟩
    by_cases hgt : g = t
    ·subst hgt; omega
    ·rw [hz2o g hgt]; exact q2 g hg
end Go.Proofs.Ytfhapfljomgmnaa
end
section
namespace Go.Proofs.Ytfhapfljomgmnaa
open Go.RowKit

structure Done (cs : List T_claim) (i : Nat) (p paid rest : T_V8_i64) : Prop where
 eq : ∀ f, lft rest f = lft p f - lft paid f
 z0 : ∀ f, 0 ≤ lft paid f
 l0 : ∀ f, 0 ≤ lft rest f
 who : ∀ f, 0 < lft paid f → (pay cs i).testBit f = true
 all : S8 (fun _ => true) (lft paid) = amt cs i
 feas : Feas cs (i + 1) rest
 tight : ∀ f g, f < g → (pay cs i).testBit f = true → 0 < lft paid g → Tight cs (i + 1) rest f
 max : ∀ f, (pay cs i).testBit f = true → ∀ y, (∀ g, 0 ≤ lft y g) → (∀ g, g < f → lft y g ≤ lft p g - lft paid g) → (∀ g, f < g → lft y g ≤ lft p g) → lft y f < lft p f - lft paid f → Feas cs (i + 1) y → ∀ g, f < g → lft paid g = 0
theorem zero_l : ∀ f, lft (⟨0, 0, 0, 0, 0, 0, 0, 0⟩ : T_V8_i64) f = 0
 | 0 => rfl
 | 1 => rfl
 | 2 => rfl
 | 3 => rfl
 | 4 => rfl
 | 5 => rfl
 | 6 => rfl
 | 7 => rfl
 | f + 8 => lft_out (by omega)
theorem inv_start {cs : List T_claim} (h : OkC cs) (ha : SmallC cs) {i : Nat} (hi : i < cs.length) {p : T_V8_i64} (hl : SmallP p) (hf : Feas cs i p) : PayInv cs i p (pay cs i) p ⟨0, 0, 0, 0, 0, 0, 0, 0⟩ (amt cs i) := by
 have h8 := h.1
 refine ⟨payAll h i, fun f hf => hf, fun f g _ h1 h2 => (by rw [h1] at h2; cases h2), fun f => by rw [zero_l]; omega, fun f => by rw [zero_l]; omega, fun f => (hl f).1, fun f hf => by rw [zero_l] at hf; omega, ?_, (ha i).1, fun T hT => hf T (fun t ht => by have := hT t ht; omega), ?_, fun f h1 h2 => (by rw [h1] at h2; cases h2), fun f h1 h2 => (by rw [h1] at h2; cases h2)⟩
 ·have : S8 (fun _ => true) (lft (⟨0, 0, 0, 0, 0, 0, 0, 0⟩ : T_V8_i64)) = S8 (fun _ => false) (lft (⟨0, 0, 0, 0, 0, 0, 0, 0⟩ : T_V8_i64)) := S8_eq fun f _ => by simp [zero_l]
  rw [this, S8_none]
  omega
 ·intro T hT
  have hTi : T i = false := by
   cases hq : T i with
   | false => rfl
   | true => have := hT i hq; omega
  have hT' : From cs i (fun t => T t || decide (t = i)) := fun t ht => by
   simp only [Bool.or_eq_true, decide_eq_true_eq] at ht
   rcases ht with ht | ht
   ·have := hT t ht; omega
   ·omega
  have q1 := hf _ hT'
  have e1 : A8 cs (fun t => T t || decide (t = i)) = A8 cs T + amt cs i := by
   have e := S8_ins (Q := T) (Q' := fun t => T t || decide (t = i)) (g := amt cs) (show i < 8 by omega) (fun f hf => by simp [hf])
   unfold A8
   rw [e, hTi]
   simp
  have e2 : B8 p (pset cs fun t => T t || decide (t = i)) = B8 p (fun f => pset cs T f || (pay cs i).testBit f) := by
   refine B8_congr fun f => ?_
   apply Bool.eq_iff_iff.2
   rw [Bool.or_eq_true, pset_iff, pset_iff]
   constructor
   ·rintro ⟨t, t1, t2, t3⟩
    simp only [Bool.or_eq_true, decide_eq_true_eq] at t2
    rcases t2 with t2 | t2
    ·exact .inl ⟨t, t1, t2, t3⟩
    ·subst t2; exact .inr t3
   ·rintro (⟨t, t1, t2, t3⟩ | t3)
    ·exact ⟨t, t1, by simp [t2], t3⟩
    ·exact ⟨i, by omega, by simp, t3⟩
  rw [e1, e2] at q1
  exact q1
theorem inv_end {cs : List T_claim} {i : Nat} {p l z : T_V8_i64} {d : Int} (h : PayInv cs i p 0 l z d) : Done cs i p z l := by
 have hnone : From cs (i + 1) (fun _ => false) := fun t ht => by cases ht
 have q := h.b _ hnone
 have zA : A8 cs (fun _ => false) = 0 := S8_none _
 have zB : B8 l (fun f => pset cs (fun _ => false) f || (0 : Nat).testBit f) = 0 := by
  have e : ∀ f, (pset cs (fun _ => false) f || (0 : Nat).testBit f) = false := fun f => by
   rw [Nat.zero_testBit, Bool.or_false]
   cases hq : pset cs (fun _ => false) f with
   | false => rfl
   | true => obtain ⟨t, _, ht, _⟩ := pset_iff.1 hq; cases ht
  rw [B8_congr e]
  exact S8_none _
 have hd0 := h.d0
 have hdue := h.due
 refine ⟨h.eq, h.z0, h.l0, fun f hf => (h.who f hf).1, by omega, h.a, fun f g hfg hpf hg => ?_, fun f hpf y y0 y1 y2 y3 y4 => (h.max f hpf (Nat.zero_testBit f) y y0 y1 y2 y3 y4).2⟩
 rcases h.tight f hpf (Nat.zero_testBit f) with q | ⟨_, q⟩
 ·exact q
 ·have := q g hfg
  omega
theorem payFirst_s (N : Nat) (hN : 1000 < N) (cs : List T_claim) (h : OkC cs) (ha : SmallC cs) (i : Nat) (hi : i < cs.length) (p : T_V8_i64) (hl : SmallP p) (hf : Feas cs i p) : ∃ paid rest, p_claims_payFirst N (cs.drop i) p = some (paid, rest) ∧ Done cs i p paid rest := by
 have h8 := h.1
 unfold p_claims_payFirst
 have hxi : cs[i]? = some cs[i] := List.getElem?_eq_getElem hi
 have hx : (cs.drop i)[0]? = some cs[i] := by rw [List.getElem?_drop]; exact hxi
 have hg : getI (cs.drop i) 0 = some cs[i] := getD_at (i := 0) hx
 have hpart : partI (cs.drop i) 1 (((cs.drop i).length : Nat) : Int) = some (cs.drop (i + 1)) := by
  unfold partI
  rw [if_pos (by rw [List.length_drop]; omega), Int.toNat_natCast, List.take_length, show (1 : Int).toNat = 1 from rfl, List.drop_drop]
 obtain ⟨e1, e2⟩ := pay_p h hxi
 have e3 : cs[i].amount_ = amt cs i := by unfold amt; rw [hxi]; rfl
 simp only [hg, hpart, Option.bind_some, show ∀ x, p_set_numbers N x = some x from fun _ => rfl, letJ_eq]
 rw [e1, e3]
 refine loop4_T (fun x => ∃ paid rest, x = some (paid, rest) ∧ Done cs i p paid rest) (fun r l z d => ∃ s : Nat, r = (s : Int) ∧ PayInv cs i p s l z d) (fun rest z1 z2 b => rest.toNat) ?_ N _ _ _ _ ⟨_, rfl, inv_start h ha hi hl hf⟩ (by omega)
 rintro rec rest l z d ⟨s, rfl, hinv⟩ ih
 have hs := hinv.s8
 by_cases h0 : s = 0
 ·subst h0
  simp only [show (((0 : Nat) : Int) != 0) = false from rfl, cond_false]
  exact ⟨_, _, rfl, inv_end hinv⟩
 ·obtain ⟨t, g1, g2, g3⟩ := tz_p N s h0 hs
  have ht : t < 8 := (mem_bits.1 (show t ∈ bits s by rw [g2]; simp)).1
  have hidx : idxI (t : Int) 8 = some () := by unfold idxI; rw [if_pos (by omega)]
  have hlow := low_lt s h0
  have hll : SmallP l := fun f => by
   have := hinv.eq f; have := hinv.z0 f; have := hinv.l0 f; have := (hl f).2
   omega
  rw [show (((s : Nat) : Int) != 0) = true by simp; omega, cond_true, g1, Option.bind_some]
  obtain ⟨w1, q, w1t, w1o⟩ := with_q N l t 0 ht
  rw [q, Option.bind_some]; clear q
  have hw1 : SmallP w1 := fun f => by
   by_cases hft : f = t
   ·subst hft; omega
   ·rw [w1o f hft]; exact hll f
  obtain ⟨m, q, m0, m1, m2, m3⟩ := missing_8 N hN cs h ha (i + 1) w1 hw1
  have hlt := hll t
  have hd0 := hinv.d0
  have hd1 : d ≤ 2000000 := by
   have := hinv.due
   have := (ha i).2
   have := S8_nonneg (Q := fun _ => true) (g := lft z) (fun f _ => hinv.z0 f)
   omega
  simp only [q, Option.bind_some, hidx, at_p l t ht]; clear q
  rw [w64 (x := lft l t - m) (by omega) (by omega)]
  generalize hcoins : (if lft l t - m < d then lft l t - m else d) = coins
  have hc1 : -16000000 ≤ coins := by rw [← hcoins]; split <;> omega
  have hc2 : coins ≤ 2000000 := by rw [← hcoins]; split <;> omega
  rw [w64 (x := d - coins) (by omega) (by omega), w64 (x := lft l t - coins) (by omega) (by omega)]
  obtain ⟨w2, q, w2t, w2o⟩ := with_q N z t coins ht
  simp only [q, Option.bind_some]; clear q
  obtain ⟨w3, q, w3t, w3o⟩ := with_q N l t (lft l t - coins) ht
  simp only [q, Option.bind_some, g3]; clear q
  exact ih _ _ _ _ ⟨_, rfl, step_p hinv ht g2 (by omega) w1t w1o m0 m2 m3 hcoins.symm w3t w3o w2t w2o⟩ (by omega)

def ent (w : List (List Int)) (j f : Nat) : Int := (w[j]?.bind fun x => x[f]?).getD 0
theorem ent_at {w : List (List Int)} {j f : Nat} {x : List Int} {v : Int} (h1 : w[j]? = some x) (h2 : x[f]? = some v) : ent w j f = v := by
 unfold ent
 rw [h1, Option.bind_some, h2]
 rfl
structure Paid (cs : List T_claim) (p : T_V8_i64) (nf i : Nat) (w : List (List Int)) (l : T_V8_i64) : Prop where
 len : w.length = cs.length
 row : ∀ j, j < i → ∃ x, w[j]? = some x ∧ x.length = nf ∧ x.sum = amt cs j ∧ ∀ (f : Nat) v, x[f]? = some v → 0 ≤ v ∧ v ≤ 2000000 ∧ (0 < v → (pay cs j).testBit f = true)
 left : ∀ f, f < nf → lft l f = lft p f - ((List.range i).map fun j => ent w j f).sum
 l0 : ∀ f, 0 ≤ lft l f
 le : ∀ f, lft l f ≤ lft p f
 feas : Feas cs i l
 tight : ∀ j f g, j < i → f < g → g < nf → (pay cs j).testBit f = true → 0 < ent w j g → Tight cs i l f
 max : ∀ j f, j < i → f < nf → (pay cs j).testBit f = true → ∀ y, (∀ g, 0 ≤ lft y g) → (∀ g, nf ≤ g → lft y g = 0) → (∀ g, g < f → lft y g ≤ lft p g - ((List.range (j + 1)).map fun k => ent w k g).sum) → (∀ g, f < g → g < nf → lft y g ≤ lft p g - ((List.range j).map fun k => ent w k g).sum) → lft y f < lft p f - ((List.range (j + 1)).map fun k => ent w k f).sum → Feas cs (j + 1) y → ∀ g, f < g → g < nf → ent w j g = 0
theorem pre_l (p : T_V8_i64) : ∀ k, k ≤ 8 → pre p.l k = ((List.range k).map (lft p)).sum
 | 0, _ => rfl
 | k + 1, h => by
  have hx : p.l[k]? = some p.l[k] := List.getElem?_eq_getElem (by rw [V8_len]; omega)
  have : lft p k = p.l[k] := by unfold lft; rw [hx]; rfl
  rw [pre_succ p.l k _ hx, pre_l p k (by omega), sum_succ, this]
theorem S8_true (g : Nat → Int) : S8 (fun _ => true) g = ((List.range 8).map g).sum := by
 unfold S8
 congr 1
theorem S8_sub (Q : Nat → Bool) (g g' : Nat → Int) : S8 Q (fun f => g f - g' f) + S8 Q g' = S8 Q g := by
 unfold S8
 rw [← sum_add]
 congr 1
 refine List.map_congr_left fun f _ => ?_
 cases hq : Q f <;> simp [hq] <;> omega
theorem paid_step {cs : List T_claim} (h : OkC cs) {p : T_V8_i64} (hl : SmallP p) {nf i : Nat} (hnf : nf ≤ 8) (hz : ∀ f, nf ≤ f → lft p f = 0) (hi : i < cs.length) {w : List (List Int)} {l paid rest : T_V8_i64} (hp : Paid cs p nf i w l) (hd : Done cs i l paid rest) : Paid cs p nf (i + 1) (w.set i (paid.l.take nf)) rest := by
 have hlen := hp.len
 have h8 := h.1
 have hx : (w.set i (paid.l.take nf))[i]? = some (paid.l.take nf) := by rw [List.getElem?_set, if_pos rfl, if_pos (by omega)]
 have hold : ∀ j, j ≠ i → (w.set i (paid.l.take nf))[j]? = w[j]? := fun j hj => by rw [List.getElem?_set, if_neg (fun q => hj q.symm)]
 have hentN : ∀ f, f < nf → ent (w.set i (paid.l.take nf)) i f = lft paid f := fun f hf => by
  unfold ent lft
  rw [hx, Option.bind_some, List.getElem?_take, if_pos hf]
 have hentO : ∀ j f, j ≠ i → ent (w.set i (paid.l.take nf)) j f = ent w j f := fun j f hj => by
  unfold ent
  rw [hold j hj]
 have hpz : ∀ f, nf ≤ f → lft paid f = 0 := fun f hf => by
  have := hd.eq f; have := hd.l0 f; have := hd.z0 f; have := hp.le f; have := hz f hf
  omega
 have hple : ∀ f, lft paid f ≤ 2000000 := fun f => by
  have := hd.eq f; have := hd.l0 f; have := hp.le f; have := (hl f).2
  omega
 have hsumO : ∀ a f, a ≤ i → ((List.range a).map fun k => ent (w.set i (paid.l.take nf)) k f).sum = ((List.range a).map fun k => ent w k f).sum := fun a f ha => by
  congr 1
  refine List.map_congr_left fun k hk => ?_
  rw [List.mem_range] at hk
  exact hentO k f (by omega)
 refine ⟨by rw [List.length_set]; exact hlen, ?_, ?_, hd.l0, ?_, hd.feas, ?_, fun j f hj hf hpf y y0 yz y1 y2 y3 y4 g hfg hg => ?_⟩
 ·intro j hj
  by_cases hji : j = i
  ·subst hji
   refine ⟨_, hx, by rw [List.length_take, V8_len]; omega, ?_, ?_⟩
   ·have e1 : (paid.l.take nf).sum = ((List.range nf).map (lft paid)).sum := pre_l paid nf hnf
    rw [e1, ← hd.all, S8_true, sum_range_ext (lft paid) nf hpz 8 hnf]
   ·intro f v hv
    have hf : f < nf := by
     have := (List.getElem?_eq_some_iff.1 hv).1
     rw [List.length_take] at this
     omega
    rw [List.getElem?_take, if_pos hf] at hv
    have : lft paid f = v := by unfold lft; rw [hv]; rfl
    subst this
    exact ⟨hd.z0 f, hple f, hd.who f⟩
  ·obtain ⟨x, x1, x2⟩ := hp.row j (by omega)
   exact ⟨x, by rw [hold j hji]; exact x1, x2⟩
 ·intro f hf
  rw [sum_succ, hentN f hf, hd.eq f, hp.left f hf]
  have : ((List.range i).map fun j => ent (w.set i (paid.l.take nf)) j f).sum = ((List.range i).map fun j => ent w j f).sum := by
   congr 1
   refine List.map_congr_left fun j hj => ?_
   rw [List.mem_range] at hj
   exact hentO j f (by omega)
  rw [this]
  omega
 ·intro f
  have := hd.eq f; have := hd.z0 f; have := hp.le f
  omega
 ·intro j f g hj hfg hg hpf he
  by_cases hji : j = i
  ·subst hji
   rw [hentN g hg] at he
   exact hd.tight f g hfg hpf he
  ·rw [hentO j g hji] at he
   obtain ⟨T, Q, hT, hQ, hPQ, hB⟩ := hp.tight j f g (by omega) hfg hg hpf he
   have hBr : B8 rest Q + S8 Q (lft paid) = B8 l Q := by
    have e := S8_sub Q (lft l) (lft paid)
    have : S8 Q (lft rest) = S8 Q (fun f => lft l f - lft paid f) := S8_eq fun f _ => by rw [hd.eq f]
    unfold B8
    rw [this]
    exact e
   have hS0 : 0 ≤ S8 Q (lft paid) := S8_nonneg fun f _ => hd.z0 f
   cases hTi : T i with
   | true =>
    have hall : S8 Q (lft paid) = amt cs i := by
     rw [← hd.all]
     refine S8_eq fun f hf => ?_
     by_cases hp0 : 0 < lft paid f
     ·rw [hPQ f (pset_iff.2 ⟨i, by omega, hTi, hd.who f hp0⟩)]
     ·have : lft paid f = 0 := by have := hd.z0 f; omega
      simp [this]
    have e := S8_ins (Q := T) (Q' := fun t => T t && decide (t ≠ i)) (g := amt cs) (show i < 8 by omega) (fun f hf => by simp [hf])
    have e2 : A8 cs (fun t => T t && decide (t ≠ i)) = A8 cs T - amt cs i := by
     unfold A8
     rw [e, hTi]
     simp
     omega
    refine ⟨fun t => T t && decide (t ≠ i), Q, fun t ht => ?_, hQ, fun g hg => hPQ g (pset_mono (fun t ht => by simp only [Bool.and_eq_true] at ht; exact ht.1) hg), by omega⟩
    simp only [Bool.and_eq_true, decide_eq_true_eq] at ht
    have := hT t ht.1
    omega
   | false =>
    refine ⟨T, Q, fun t ht => ?_, hQ, hPQ, by omega⟩
    have := hT t ht
    have : t ≠ i := fun q => by subst q; rw [hTi] at ht; cases ht
    omega
 ·by_cases hji : j = i
  ·subst hji
   have hle : ∀ g, g < nf → lft p g - ((List.range j).map fun k => ent w k g).sum = lft l g := fun g hg => (hp.left g hg).symm
   rw [hentN g hg]
   refine hd.max f hpf y y0 (fun g2 hg2 => ?_) (fun g2 hg2 => ?_) ?_ y4 g hfg
   ·have := y1 g2 hg2
    rw [sum_succ, hsumO j g2 (Nat.le_refl _), hentN g2 (by omega)] at this
    have := hle g2 (by omega)
    omega
   ·by_cases hg2n : g2 < nf
    ·have := y2 g2 hg2 hg2n
     rw [hsumO j g2 (Nat.le_refl _)] at this
     have := hle g2 hg2n
     omega
    ·rw [yz g2 (by omega)]
     exact hp.l0 g2
   ·rw [sum_succ, hsumO j f (Nat.le_refl _), hentN f hf] at y3
    have := hle f hf
    omega
  ·rw [hentO j g hji]
   refine hp.max j f (by omega) hf hpf y y0 yz (fun g2 hg2 => ?_) (fun g2 hg2 hg2n => ?_) ?_ y4 g hfg hg
   ·have := y1 g2 hg2
    rw [hsumO (j + 1) g2 (by omega)] at this
    exact this
   ·have := y2 g2 hg2 hg2n
    rw [hsumO j g2 (by omega)] at this
    exact this
   ·rw [hsumO (j + 1) f (by omega)] at y3
    exact y3
theorem trace_s (N : Nat) (hN : 1000 < N) (nf nb : Nat) (c : Int) (hnf : nf ≤ 8) (hnb : nb ≤ 8) (hc0 : 0 ≤ c) (hc : c ≤ 1000000) (L : T_Ledger) (h : GoodL nf nb c L) : ∃ cs p, GoodC L cs ∧ (∀ f : Nat, f < 8 → p.l[f]? = some ((L.Funds[f]?.map (·.Amount)).getD 0)) ∧ SmallC cs ∧ SmallP p ∧ (¬ Feas cs 0 p ∧ p_Trace N L = some ([], 4) ∨ ∃ w l, p_Trace N L = some (w, 0) ∧ Paid cs p L.Funds.length cs.length w l) := by
 have g1 := h.nf; have g2 := h.nb
 obtain ⟨cs, e1, hcs⟩ := claimsOf_p N hN nf nb c hnf hnb L h
 obtain ⟨p, e2, hp⟩ := purseOf_p N hN L (by omega)
 have hok := hcs.ok (by omega)
 have hok1 := hok.1
 have ha : SmallC cs := fun t => by
  cases hB : L.Bills[t]? with
  | none =>
   have : cs[t]? = none := by
    rw [List.getElem?_eq_none_iff] at hB ⊢
    rw [hcs.1]
    exact hB
   unfold amt
   rw [this]
   simp
  | some B =>
   obtain ⟨_, _, _, _, b5, b6⟩ := h.bill B (List.mem_of_getElem? hB)
   rw [amtAt h hcs hB]
   omega
 have hl : SmallP p := fun t => by
  by_cases ht : t < 8
  ·rw [lftAt hp ht]
   cases hF : L.Funds[t]? with
   | none => simp
   | some F =>
    obtain ⟨_, _, _, _, b5, b6, _⟩ := h.fund F (List.mem_of_getElem? hF)
    simp only [Option.map_some, Option.getD_some]
    omega
  ·rw [lft_out (by omega)]
   omega
 have hz : ∀ f, L.Funds.length ≤ f → lft p f = 0 := fun f hf => by
  by_cases ht : f < 8
  ·rw [lftAt hp ht, List.getElem?_eq_none hf]
   rfl
  ·exact lft_out (by omega)
 obtain ⟨m, e3, m0, m1, m2, m3⟩ := missing_8 N hN cs hok ha 0 p hl
 rw [List.drop_zero] at e3
 refine ⟨cs, p, hcs, hp, ha, hl, ?_⟩
 unfold p_Trace
 simp only [check_p N hN nf nb c hnf hnb hc L h, Option.bind_some, bne_self_eq_false, cond_false, e1, e2, e3]
 by_cases hpos : m > 0
 ·rw [show decide (m > 0) = true from decide_eq_true hpos, cond_true]
  exact .inl ⟨fun hf => by
   obtain ⟨T, t1, t2⟩ := m3
   have := hf T t1
   omega, rfl⟩
 ·rw [show decide (m > 0) = false from decide_eq_false hpos, cond_false]
  refine .inr ?_
  have mk1 : mkI ((cs.length : Nat) : Int) = some cs.length := by unfold mkI; rw [if_pos (by omega)]; simp
  have mk2 : mkI ((L.Funds.length : Nat) : Int) = some L.Funds.length := by unfold mkI; rw [if_pos (by omega)]; simp
  rw [mk1, Option.bind_some]
  simp only [letJ_eq]
  refine loop4_T (fun x => ∃ w l, x = some (w, 0) ∧ Paid cs p L.Funds.length cs.length w l) (fun y z (w : List (List Int)) (z2 : T_V8_i64) => ∃ i : Nat, y = (i : Int) ∧ i ≤ cs.length ∧ Paid cs p L.Funds.length i w z) (fun y z w z2 => 100 - y.toNat) ?_ N 0 _ _ _ ⟨0, rfl, by omega, ?_⟩ (by omega)
  ·rintro rec y z w z2 ⟨i, rfl, hi, hpd⟩ ih
   have hw := hpd.len
   by_cases hlt : i < cs.length
   ·have hpart : partI cs (i : Int) ((cs.length : Nat) : Int) = some (cs.drop i) := by
     unfold partI
     rw [if_pos (by omega)]
     simp
    have hlz : SmallP z := fun f => by
     have := hpd.l0 f; have := hpd.le f; have := (hl f).2
     omega
    obtain ⟨paid, rest, e, hd⟩ := payFirst_s N hN cs hok ha i hlt z hlz hpd.feas
    have hx : w[i]? = some w[i] := List.getElem?_eq_getElem (by omega)
    have hcp : copyI (List.replicate L.Funds.length 0) L.Funds.length paid.l 8 = some (paid.l.take L.Funds.length) := by
     unfold copyI
     rw [if_pos ⟨by simp, V8_len _⟩]
     have : (List.replicate L.Funds.length (0 : Int)).drop 8 = [] := List.drop_eq_nil_of_le (by rw [List.length_replicate]; omega)
     rw [this, List.append_nil]
    have hln : lenI (paid.l.take L.Funds.length) L.Funds.length = some () := by
     unfold lenI
     rw [if_pos (by rw [List.length_take, V8_len]; omega)]
    rw [ltD hlt, cond_true, hpart, Option.bind_some, e, Option.bind_some, mk2, Option.bind_some, show idxI (i : Int) cs.length = some () by unfold idxI; rw [if_pos (by omega)], Option.bind_some, Int.toNat_natCast, hx, Option.bind_some, Option.bind_some, hcp, Option.bind_some, hln, Option.bind_some, nadd1 i (by omega)]
    exact ih _ _ _ _ ⟨i + 1, rfl, by omega, paid_step hok hl (by omega) hz hlt hpd hd⟩ (by omega)
   ·rw [show decide ((i : Int) < ((cs.length : Nat) : Int)) = false from decide_eq_false (by omega), cond_false]
    rw [show lenI w cs.length = some () by unfold lenI; rw [if_pos hw], Option.bind_some]
    have : i = cs.length := by omega
    subst this
    exact ⟨_, _, rfl, hpd⟩
  ·refine ⟨by simp, fun j hj => by omega, fun f hf => by simp, fun f => (hl f).1, fun f => Int.le_refl _, fun T hT => ?_, fun j f g hj => by omega, fun j f hj => by omega⟩
   have := m2 T hT
   omega
end Go.Proofs.Ytfhapfljomgmnaa
end
section
namespace Go.Proofs.Ytfhapfljomgmnaa
open Go.RowKit
attribute [local simp] ren ren1 AV.plain AV.plain1 AV.clean cleanL cleanI cleanBo cleanSt cleanII KL_bk_Drum KL_Fund KL_Bill KL_Ledger KL_claim KL_V8_i64 KL_Span A_bk_Drum C_bk_Drum A_Fund C_Fund A_Bill C_Bill A_Ledger C_Ledger A_claim C_claim A_V8_i64 C_V8_i64 A_Span C_Span back back1 re re1 List.idxOf? List.findIdx? List.findIdx?.go KB_bk_Drum KB_Fund KB_Bill KB_Ledger KB_claim KB_V8_i64 KB_Span fadeS fadeV chillS chillV
def p_br9_within (N : Nat) (n_1 : Int) (low_2 : Int) (high_3 : Int) : Option (Bool) := (bif (decide (n_1 ≥ low_2)) then some (decide (n_1 ≤ high_3)) else some false)
def v_br9_within (r : Bool) : AV := .bool r
attribute [local simp] v_br9_within
theorem a_br9_within (n_1 : Int) (low_2 : Int) (high_3 : Int) : [i6 n_1, i6 low_2, i6 high_3].mapM (ren []) = some [i6 n_1, i6 low_2, i6 high_3] := by simp
theorem b_br9_within (r : Bool) (n n2 m : Nat) : back n n2 m (v_br9_within r) = some (v_br9_within r) := by simp
theorem d_br9_within (N : Nat) (n_1 : Int) (low_2 : Int) (high_3 : Int) (r : Bool) (h : p_br9_within N n_1 low_2 high_3 = some r) : Does Try.prog 54 [i6 n_1, i6 low_2, i6 high_3] [] fun v c => v = v_br9_within r ∧ c = [] := by
 unfold p_br9_within at h
 refine Does.ofL comp54 _ _ rfl rfl ?_
 refine Ex.seq (rg 1 [0, 1, 2] (mkS 15 [(0, i6 n_1), (1, i6 low_2), (2, i6 high_3)]) ⟨[], []⟩ ?_)
 refine Ex.seq ?_
 rcases condI h with ⟨hc_4, h⟩ | ⟨hc_4, h⟩
 ·refine regH 9 [(3, .eq (.bool true))] [6] [AV.bool (decide (n_1 ≥ low_2)) = AV.bool true] (mkS 15 [(6, .bool (decide (n_1 ≤ high_3)))]) (⟨[], []⟩) (by kernel_rfl) ⟨congrArg AV.bool hc_4, trivial⟩ rfl ?_
  refine Ex.ret ?_
  obtain rfl := sJ h
  exact rt (.bool (decide (n_1 ≤ high_3)))
 ·refine regH 9 [(3, .eq (.bool false))] [6] [AV.bool (decide (n_1 ≥ low_2)) = AV.bool false] (mkS 15 [(6, .bool false)]) (⟨[], []⟩) (by kernel_rfl) ⟨congrArg AV.bool hc_4, trivial⟩ rfl ?_
  refine Ex.ret ?_
  obtain rfl := sJ h
  exact rt (.bool false)
def p_br9_Can (N : Nat) (f_1 : T_Fund) (b_2 : T_Bill) : Option (Bool) := (letJ (fun (is_3 : Bool) => (bif is_3 then ((p_br9_within N b_2.Day f_1.Day f_1.Until).bind fun r_20 => some r_20) else some false)) (fun k_4 => (loop2 (fun rec_9 (is_7 : Bool) (i_8 : Int) => (bif (decide (i_8 < ((f_1.Uses.length : Nat) : Int))) then (letJ (fun (is_13 : Bool) => (rec_9 is_13 (IntKind.i64.wrap (i_8 + 1)))) (fun k_14 => (bif is_7 then (k_14 true) else ((getI f_1.Uses i_8).bind fun x_18 => (k_14 (x_18 == b_2.Use)))))) else (k_4 is_7))) N false 0)))
def v_br9_Can (r : Bool) : AV := .bool r
attribute [local simp] v_br9_Can
theorem a_br9_Can (f_1 : T_Fund) (b_2 : T_Bill) : [(A_Fund f_1), (A_Bill b_2)].mapM (ren []) = some [(A_Fund f_1), (A_Bill b_2)] := by simp
theorem b_br9_Can (r : Bool) (n n2 m : Nat) : back n n2 m (v_br9_Can r) = some (v_br9_Can r) := by simp
theorem d_br9_Can (N : Nat) (f_1 : T_Fund) (b_2 : T_Bill) (r : Bool) (h : p_br9_Can N f_1 b_2 = some r) : Does Try.prog 43 [(A_Fund f_1), (A_Bill b_2)] [] fun v c => v = v_br9_Can r ∧ c = [] := by
 unfold p_br9_Can at h
 refine Does.ofL comp43 _ _ rfl rfl ?_
 refine Ex.seq (rg 3 [2, 3] (mkS 35 [(2, .ptr 0 0), (3, .ptr 1 0)]) ⟨[(C_Fund f_1), (C_Bill b_2)], []⟩ ?_)
 refine Ex.seq (rg 1 [2, 3, 5] (mkS 35 [(2, .ptr 0 0), (3, .ptr 1 0), (5, .bool false)]) ⟨[(C_Fund f_1), (C_Bill b_2)], []⟩ ?_)
 refine Ex.seq (Ex.seq ?_)
 refine rg 1 [2, 3, 5, 6] (mkS 35 [(2, .ptr 0 0), (3, .ptr 1 0), (5, .bool false), (6, i6 0)]) ⟨[(C_Fund f_1), (C_Bill b_2)], []⟩ ?_
 obtain ⟨K_5, hK_6, h⟩ := letE h
 refine Ex.blockJ (fun a S => ∃ (is_3 : Bool), K_5 is_3 = some r ∧ a = mkS 35 [(2, .ptr 0 0), (3, .ptr 1 0), (5, .bool is_3)] ∧ S = ⟨[(C_Fund f_1), (C_Bill b_2)], []⟩) ?_ ?_
 ·obtain ⟨B_10, hB_11, h⟩ := loop2I h
  refine Ex.loopF (fun k a S => ∃ (is_7 : Bool), ∃ (i_8 : Int), loop2 B_10 k is_7 i_8 = some r ∧ a = mkS 35 [(2, .ptr 0 0), (3, .ptr 1 0), (5, .bool is_7), (6, i6 i_8)] ∧ S = ⟨[(C_Fund f_1), (C_Bill b_2)], []⟩) N ⟨_, _, Forgets.refl _ _ _, false, 0, h, rfl, rfl⟩ ?_
  rintro k a S ⟨is_7, i_8, h, rfl, rfl⟩
  cases k with
  | zero => exact (loop2Z h).elim
  | succ k =>
   replace h := loop2S h hB_11
   refine Ex.seq (Ex.seq ?_)
   refine regH 5 [(3, .eq (i6 ((f_1.Uses.length : Nat) : Int)))] [2, 3, 5, 6, 11] [AV.int .i64 (((f_1.Uses.map (AV.int .i64)).length : Nat) : Int) = AV.int .i64 ((f_1.Uses.length : Nat) : Int)] (mkS 35 [(2, .ptr 0 0), (3, .ptr 1 0), (5, .bool is_7), (6, i6 i_8), (11, .bool (decide (i_8 < ((f_1.Uses.length : Nat) : Int))))]) (⟨[(C_Fund f_1), (C_Bill b_2)], []⟩) (by kernel_rfl) ⟨lenM _ _, trivial⟩ rfl ?_
   rcases condI h with ⟨hc_12, h⟩ | ⟨hc_12, h⟩
   ·refine Ex.condT _ rfl hc_12 ?_
    refine Ex.skip ?_
    refine Ex.seq ?_
    obtain ⟨K_15, hK_16, h⟩ := letE h
    refine Ex.blockJ (fun a S => ∃ (is_13 : Bool), K_15 is_13 = some r ∧ a = mkS 35 [(2, .ptr 0 0), (3, .ptr 1 0), (5, .bool is_13), (6, i6 i_8)] ∧ S = ⟨[(C_Fund f_1), (C_Bill b_2)], []⟩) ?_ ?_
    ·rcases condI h with ⟨hc_17, h⟩ | ⟨hc_17, h⟩
     ·refine dregX (noClr_ok _) [(1, .eq (.bool true))] [] [2, 3, 5, 6] [AV.bool is_7 = AV.bool true] [] (mkS 35 [(2, .ptr 0 0), (3, .ptr 1 0), (5, .bool is_7), (6, i6 i_8), (11, .bool (decide (i_8 < ((f_1.Uses.length : Nat) : Int)))), (14, .bool is_7), (15, .bool true), (16, .tup []), (17, .tup []), (18, .tup []), (19, .tup []), (20, .tup []), (21, .tup []), (22, .tup [])]) (mkS 35 [(2, .ptr 0 0), (3, .ptr 1 0), (5, .bool true), (6, i6 i_8)]) (by kernel_rfl) (by kernel_rfl) ⟨congrArg AV.bool hc_17, trivial⟩ (by kernel_rfl) trivial ?_
      (try simp only [reduceCtorEq, AEx.ex.injEq, Nat.reduceEqDiff, if_true, if_false])
      exact ⟨_, _, Forgets.refl _ _ _, true, h, rfl, rfl⟩
     ·obtain ⟨x_18, hx_18, h⟩ := bE h
      refine Ex.drawE (a1 := mkS 35 [(2, .ptr 0 0), (3, .ptr 1 0), (5, .bool is_7), (6, i6 i_8), (11, .bool (decide (i_8 < ((f_1.Uses.length : Nat) : Int)))), (14, .bool is_7), (15, .bool false), (16, .ptr 0 3), (17, .sl (f_1.Uses.map (AV.int .i64)) none), (18, i6 i_8), (19, .rop [i6 x_18]), (20, i6 x_18), (21, .ptr 1 1), (22, i6 b_2.Use)]) (noClr_ok _) [] [] [] ?_ ?_
      ·refine drS [0, 1] 9 [(1, .eq (.bool false)), (5, .rop [i6 x_18])] [AV.bool is_7 = AV.bool false, LGet (f_1.Uses.map (AV.int .i64)) i_8 1 [i6 x_18]] (mkS 35 [(2, .ptr 0 0), (3, .ptr 1 0), (5, .bool is_7), (6, i6 i_8), (11, .bool (decide (i_8 < ((f_1.Uses.length : Nat) : Int)))), (14, .bool is_7), (15, .bool false), (16, .ptr 0 3), (17, .sl (f_1.Uses.map (AV.int .i64)) none), (18, i6 i_8), (19, .rop [i6 x_18]), (20, i6 x_18), (21, .ptr 1 1), (22, i6 b_2.Use)]) (by simp) (by kernel_rfl) ⟨congrArg AV.bool hc_17, LGet.of hx_18 rfl, trivial⟩ (by kernel_rfl) ?_
       exact DrO.nil rfl
      ·dsimp only [List.getLastD_cons, List.getLastD_nil]
       refine rn 3 [2, 3, 5, 6] (mkS 35 [(2, .ptr 0 0), (3, .ptr 1 0), (5, .bool (x_18 == b_2.Use)), (6, i6 i_8)]) ⟨[(C_Fund f_1), (C_Bill b_2)], []⟩ ?_
       refine ExO.nil ?_
       (try simp only [reduceCtorEq, AEx.ex.injEq, Nat.reduceEqDiff, if_true, if_false])
       exact ⟨_, _, Forgets.refl _ _ _, (x_18 == b_2.Use), h, rfl, rfl⟩
    ·rintro a S ⟨is_13, h, rfl, rfl⟩
     subst hK_16
     refine rg 3 [2, 3, 5, 6] (mkS 35 [(2, .ptr 0 0), (3, .ptr 1 0), (5, .bool is_13), (6, i6 (IntKind.i64.wrap (i_8 + 1)))]) ⟨[(C_Fund f_1), (C_Bill b_2)], []⟩ ?_
     dsimp only
     exact ⟨_, _, Forgets.refl _ _ _, k, Nat.lt_succ_self k, is_13, (IntKind.i64.wrap (i_8 + 1)), h, rfl, rfl⟩
   ·refine Ex.condF _ rfl hc_12 ?_
    refine Ex.exit ?_
    (try simp only [reduceCtorEq, AEx.ex.injEq, Nat.reduceEqDiff, if_true, if_false])
    exact ⟨_, _, forgetK [2, 3, 5], is_7, h, rfl, rfl⟩
 ·rintro a S ⟨is_3, h, rfl, rfl⟩
  subst hK_6
  refine Ex.seq ?_
  rcases condI h with ⟨hc_19, h⟩ | ⟨hc_19, h⟩
  ·obtain ⟨r_20, hr_20, h⟩ := bE h
   refine Ex.reg ?_
   refine runH 8 [(1, .eq (.bool true))] [26, 28, 30, 32] [AV.bool is_3 = AV.bool true] (mkS 35 [(26, .bool true), (28, i6 b_2.Day), (30, i6 f_1.Day), (32, i6 f_1.Until)]) (⟨[(C_Fund f_1), (C_Bill b_2)], []⟩) (by kernel_rfl) ⟨congrArg AV.bool hc_19, trivial⟩ ?_
   refine ExO.callL [] [i6 b_2.Day, i6 f_1.Day, i6 f_1.Until] rfl rfl (a_br9_within b_2.Day f_1.Day f_1.Until) rfl rfl (d_br9_within N b_2.Day f_1.Day f_1.Until r_20 hr_20) (b_br9_within _ _ _ _) rfl ?_
   refine rn 2 [4] (mkS 35 [(4, .bool r_20)]) ⟨[(C_Fund f_1), (C_Bill b_2)], []⟩ ?_
   refine ExO.nil ?_
   refine Ex.ret ?_
   obtain rfl := sJ h
   exact rt (.bool r_20)
  ·refine regH 11 [(1, .eq (.bool false))] [4] [AV.bool is_3 = AV.bool false] (mkS 35 [(4, .bool false)]) (⟨[(C_Fund f_1), (C_Bill b_2)], []⟩) (by kernel_rfl) ⟨congrArg AV.bool hc_19, trivial⟩ rfl ?_
   refine Ex.ret ?_
   obtain rfl := sJ h
   exact rt (.bool false)
theorem t_bk_Lists (N : Nat) (l_1 : (List (List Int))) (r : (List (List Int))) (h : p_bk_Lists N l_1 = some r) : TokOk Try.prog ⟨29, [.sl (l_1.map (SV (AV.int .i64))) none], r.map (SV (AV.int .i64)), r.length, 1⟩ := by
 refine ⟨?_, (cleanII _ _), by simp⟩
 unfold p_bk_Lists at h
 refine DoesT.of comp29 ?_
 refine Ex.seq (rg 1 [0] (mkS 20 [(0, .sl (l_1.map (SV (AV.int .i64))) none)]) ⟨[], []⟩ ?_)
 refine Ex.seq (rg 1 [0, 3] (mkS 20 [(0, .sl (l_1.map (SV (AV.int .i64))) none), (3, .nils)]) ⟨[], []⟩ ?_)
 refine Ex.seq (Ex.seq ?_)
 refine rg 1 [0, 3, 4] (mkS 20 [(0, .sl (l_1.map (SV (AV.int .i64))) none), (3, .nils), (4, i6 0)]) ⟨[], []⟩ ?_
 obtain ⟨K_4, hK_5, h⟩ := letE h
 refine Ex.blockJ (fun a S => ∃ (out_2 : List (List Int)), K_4 out_2 = some r ∧ a = mkS 20 [(3, .sl (out_2.map (SV (AV.int .i64))) (some 0))] ∧ S = ⟨[], [(out_2.length, 1)]⟩) ?_ ?_
 ·refine Ex.forget (nilK 3 1 rfl) ?_
  refine Ex.castA (a2 := mkS 20 [(0, .sl (l_1.map (SV (AV.int .i64))) none), (3, .sl (([] : List (List Int)).map (SV (AV.int .i64))) (some 0)), (4, i6 0)]) (S2 := ⟨[], [(0, 1)]⟩) (by kernel_rfl) (by kernel_rfl) ?_
  obtain ⟨B_9, hB_10, h⟩ := loop2I h
  refine Ex.loopF (fun k a S => ∃ (out_6 : List (List Int)), ∃ (i_7 : Int), loop2 B_9 k out_6 i_7 = some r ∧ a = mkS 20 [(0, .sl (l_1.map (SV (AV.int .i64))) none), (3, .sl (out_6.map (SV (AV.int .i64))) (some 0)), (4, i6 i_7)] ∧ S = ⟨[], [(out_6.length, 1)]⟩) N ⟨_, _, Forgets.refl _ _ _, [], 0, h, rfl, rfl⟩ ?_
  rintro k a S ⟨out_6, i_7, h, rfl, rfl⟩
  cases k with
  | zero => exact (loop2Z h).elim
  | succ k =>
   replace h := loop2S h hB_10
   refine Ex.seq (Ex.seq ?_)
   refine regH 4 [(2, .eq (i6 ((l_1.length : Nat) : Int)))] [0, 3, 4, 8] [AV.int .i64 (((l_1.map (SV (AV.int .i64))).length : Nat) : Int) = AV.int .i64 ((l_1.length : Nat) : Int)] (mkS 20 [(0, .sl (l_1.map (SV (AV.int .i64))) none), (3, .sl (out_6.map (SV (AV.int .i64))) (some 0)), (4, i6 i_7), (8, .bool (decide (i_7 < ((l_1.length : Nat) : Int))))]) (⟨[], [(out_6.length, 1)]⟩) (by kernel_rfl) ⟨lenM _ _, trivial⟩ rfl ?_
   rcases condI h with ⟨hc_11, h⟩ | ⟨hc_11, h⟩
   ·refine Ex.condT _ rfl hc_11 ?_
    refine Ex.skip ?_
    refine Ex.seq ?_
    refine Ex.blockK ?_
    refine Ex.postF ?_
    obtain ⟨x_12, hx_12, h⟩ := bE h
    obtain ⟨r_13, hr_13, h⟩ := bE h
    refine Ex.reg ?_
    refine runH 5 [(3, .rop [.sl (x_12.map (AV.int .i64)) none])] [0, 4, 11, 15] [LGet (l_1.map (SV (AV.int .i64))) i_7 1 [.sl (x_12.map (AV.int .i64)) none]] (mkS 20 [(0, .sl (l_1.map (SV (AV.int .i64))) none), (4, i6 i_7), (11, .sl (out_6.map (SV (AV.int .i64))) (some 0)), (15, .sl (x_12.map (AV.int .i64)) none)]) (⟨[], [(out_6.length, 1)]⟩) (by kernel_rfl) ⟨LGet.of hx_12 rfl, trivial⟩ ?_
    refine ExO.callL [] [.sl (x_12.map (AV.int .i64)) none] rfl rfl (a_bk_Ints x_12) rfl rfl (d_bk_Ints N x_12 r_13 hr_13) (b_bk_Ints _ _ _ _) rfl ?_
    obtain ⟨l_14, hl_14, h⟩ := bE h
    refine runH 3 [(1, .app (l_14.map (SV (AV.int .i64))) l_14.length)] [0, 3, 4] [LApp out_6.length (out_6.map (SV (AV.int .i64))) (([r_13] : List (List Int)).map (SV (AV.int .i64))) 1 (l_14.map (SV (AV.int .i64))) l_14.length] (mkS 20 [(0, .sl (l_1.map (SV (AV.int .i64))) none), (3, .sl (l_14.map (SV (AV.int .i64))) (some 0)), (4, i6 i_7)]) (⟨[], [(l_14.length, 1), (1, 1)]⟩) (by kernel_rfl) ⟨LApp.of hl_14 (fun _ => rfl), trivial⟩ ?_
    refine ExO.nil ?_
    refine ⟨mkS 20 [(0, .sl (l_1.map (SV (AV.int .i64))) none), (3, .sl (l_14.map (SV (AV.int .i64))) (some 0)), (4, i6 i_7)], ⟨[], [(l_14.length, 1), (1, 1)]⟩, Forgets.refl _ _ _, ?_⟩
    refine rg 3 [0, 3, 4] (mkS 20 [(0, .sl (l_1.map (SV (AV.int .i64))) none), (3, .sl (l_14.map (SV (AV.int .i64))) (some 0)), (4, i6 (IntKind.i64.wrap (i_7 + 1)))]) ⟨[], [(l_14.length, 1), (1, 1)]⟩ ?_
    dsimp only
    exact ⟨_, _, forgetA (m := 20) 0 [0] [(0, .sl (l_1.map (SV (AV.int .i64))) none), (3, .sl (l_14.map (SV (AV.int .i64))) (some 0)), (4, i6 (IntKind.i64.wrap (i_7 + 1)))] [] [(l_14.length, 1)] (by simp [setAll]) (by simp) ⟨(reN (cleanII _ _)), (reT (cleanII _ _) rfl), rfl, trivial⟩ (by simp) rfl (by decide), k, Nat.lt_succ_self k, l_14, (IntKind.i64.wrap (i_7 + 1)), h, rfl, rfl⟩
   ·refine Ex.condF _ rfl hc_11 ?_
    refine Ex.exit ?_
    (try simp only [reduceCtorEq, AEx.ex.injEq, Nat.reduceEqDiff, if_true, if_false])
    exact ⟨_, _, forgetK [3], out_6, h, rfl, rfl⟩
 ·rintro a S ⟨out_2, h, rfl, rfl⟩
  subst hK_5
  refine Ex.seq (rg 2 [2] (mkS 20 [(2, .sl (out_2.map (SV (AV.int .i64))) (some 0))]) ⟨[], [(out_2.length, 1)]⟩ ?_)
  refine Ex.ret ?_
  obtain rfl := sJ h
  exact ⟨.inr rfl, .sl (out_2.map (SV (AV.int .i64))) (some 0), by kernel_rfl, 0, by kernel_rfl, by kernel_rfl⟩
theorem t_bk_Ints (N : Nat) (l_1 : (List Int)) (r : (List Int)) (h : p_bk_Ints N l_1 = some r) : TokOk Try.prog ⟨37, [.sl (l_1.map (AV.int .i64)) none], r.map (AV.int .i64), r.length, 1⟩ := by
 refine ⟨?_, (cleanI _ _), by simp⟩
 unfold p_bk_Ints at h
 refine DoesT.of comp37 ?_
 refine Ex.seq (rg 1 [0] (mkS 6 [(0, .sl (l_1.map (AV.int .i64)) none)]) ⟨[], []⟩ ?_)
 refine Ex.seq ?_
 obtain ⟨l_2, hl_2, h⟩ := bE h
 refine regH 4 [(2, .apps (l_1.map (AV.int .i64)) (l_2.map (AV.int .i64)) l_2.length)] [2] [LApps 0 (([] : List Int).map (AV.int .i64)) (l_1.map (AV.int .i64)) (l_1.map (AV.int .i64)) 1 (l_2.map (AV.int .i64)) l_2.length] (mkS 6 [(2, .sl (l_2.map (AV.int .i64)) (some 0))]) (⟨[], [(l_2.length, 1)]⟩) (by kernel_rfl) ⟨LApps.of hl_2 (fun _ => rfl) (fun _ => rfl) (fun _ => rfl), trivial⟩ rfl ?_
 refine Ex.ret ?_
 obtain rfl := sJ h
 exact ⟨.inr rfl, .sl (l_2.map (AV.int .i64)) (some 0), by kernel_rfl, 0, by kernel_rfl, by kernel_rfl⟩
def p_bl9_tracesg : Nat → T_Ledger → (List (List Int)) → (List Int) → (List Int) → Int → (List (List (List Int))) → Option ((List (List (List Int))))
 | 0, _, _, _, _, _, _ => none
 | N + 1, l_1, t_2, row_3, left_4, need_5, out_6 => (bif (((t_2.length : Nat) : Int) == ((l_1.Bills.length : Nat) : Int)) then ((pushI out_6 ([t_2] : List (List (List Int)))).bind fun l_8 => some l_8) else (bif (((row_3.length : Nat) : Int) == ((l_1.Funds.length : Nat) : Int)) then (bif (decide (need_5 > 0)) then some out_6 else (letJ (fun (next_11 : Int) => ((p_bk_Lists N t_2).bind fun r_17 => ((pushI r_17 ([row_3] : List (List Int))).bind fun l_18 => ((p_bl9_tracesg N l_1 l_18 [] left_4 next_11 out_6).bind fun r_20 => some r_20)))) (fun k_12 => (bif (decide ((IntKind.i64.wrap (((t_2.length : Nat) : Int) + 1)) < ((l_1.Bills.length : Nat) : Int))) then ((getI l_1.Bills (IntKind.i64.wrap (((t_2.length : Nat) : Int) + 1))).bind fun x_16 => (k_12 x_16.Amount)) else (k_12 0))))) else (letJ (fun (most_21 : Int) => (letJ (fun (out_30 : List (List (List Int))) => some out_30) (fun k_31 => (loop2 (fun rec_36 (out_34 : List (List (List Int))) (n_35 : Int) => (bif (decide (n_35 ≤ most_21)) then ((p_bk_Ints N left_4).bind fun r_40 => ((idxI ((row_3.length : Nat) : Int) r_40.length).bind fun u_41 => ((r_40[Int.toNat ((row_3.length : Nat) : Int)]?).bind fun x_42 => ((idxI ((row_3.length : Nat) : Int) r_40.length).bind fun u_43 => ((setI r_40 ((row_3.length : Nat) : Int) (fun (y_44 : Int) => (IntKind.i64.wrap (x_42 - n_35)))).bind fun z_45 => ((lenI z_45 r_40.length).bind fun u_46 => ((p_bk_Ints N row_3).bind fun r_47 => ((pushI r_47 ([n_35] : List Int)).bind fun l_48 => ((p_bl9_tracesg N l_1 t_2 l_48 z_45 (IntKind.i64.wrap (need_5 - n_35)) out_34).bind fun r_50 => (rec_36 r_50 (IntKind.i64.wrap (n_35 + 1)))))))))))) else (k_31 out_34))) N out_6 0)))) (fun k_22 => ((getI l_1.Funds ((row_3.length : Nat) : Int)).bind fun x_25 => ((getI l_1.Bills ((t_2.length : Nat) : Int)).bind fun x_26 => ((p_br9_Can N x_25 x_26).bind fun r_27 => (bif r_27 then ((getI left_4 ((row_3.length : Nat) : Int)).bind fun x_29 => (k_22 (if x_29 < need_5 then x_29 else need_5))) else (k_22 0)))))))))
theorem d_bl9_tracesg (N : Nat) (l_1 : T_Ledger) (t_2 : (List (List Int))) (row_3 : (List Int)) (left_4 : (List Int)) (need_5 : Int) (out_6 : (List (List (List Int)))) (r : (List (List (List Int)))) (h : p_bl9_tracesg N l_1 t_2 row_3 left_4 need_5 out_6 = some r) : GroOk Try.prog ⟨60, [(A_Ledger l_1), .sl (t_2.map (SV (AV.int .i64))) none, .sl (row_3.map (AV.int .i64)) none, .sl (left_4.map (AV.int .i64)) none, i6 need_5], out_6.map (SV (SV (AV.int .i64))), [], out_6.length, 1, r.map (SV (SV (AV.int .i64))), r.length⟩ := by
 induction N generalizing l_1 t_2 row_3 left_4 need_5 out_6 r with
 | zero => simp [p_bl9_tracesg] at h
 | succ N ih =>
  rw [p_bl9_tracesg] at h
  refine ⟨DoesG.of (xs := [(A_Ledger l_1), .sl (t_2.map (SV (AV.int .i64))) none, .sl (row_3.map (AV.int .i64)) none, .sl (left_4.map (AV.int .i64)) none, i6 need_5, .sl (out_6.map (SV (SV (AV.int .i64)))) (some 0)]) comp60 ?_, (cleanM (fun _ => (by simp only [SV, AV.clean]; exact (cleanII _ _))) _), (cleanM (fun _ => (by simp only [SV, AV.clean]; exact (cleanII _ _))) _), by simp, by simp⟩
  refine Ex.seq (rg 2 [1, 2, 3, 4, 5, 6] (mkS 110 [(1, .sl (t_2.map (SV (AV.int .i64))) none), (2, .sl (row_3.map (AV.int .i64)) none), (3, .sl (left_4.map (AV.int .i64)) none), (4, i6 need_5), (5, .sl (out_6.map (SV (SV (AV.int .i64)))) (some 0)), (6, .ptr 0 0)]) ⟨[(C_Ledger l_1)], [(out_6.length, 1)]⟩ ?_)
  refine Ex.seq ?_
  refine regH 6 [(1, .eq (i6 ((t_2.length : Nat) : Int))), (3, .eq (i6 ((row_3.length : Nat) : Int)))] [1, 2, 3, 4, 5, 6, 13, 14] [AV.int .i64 (((t_2.map (SV (AV.int .i64))).length : Nat) : Int) = AV.int .i64 ((t_2.length : Nat) : Int), AV.int .i64 (((row_3.map (AV.int .i64)).length : Nat) : Int) = AV.int .i64 ((row_3.length : Nat) : Int)] (mkS 110 [(1, .sl (t_2.map (SV (AV.int .i64))) none), (2, .sl (row_3.map (AV.int .i64)) none), (3, .sl (left_4.map (AV.int .i64)) none), (4, i6 need_5), (5, .sl (out_6.map (SV (SV (AV.int .i64)))) (some 0)), (6, .ptr 0 0), (13, i6 ((t_2.length : Nat) : Int)), (14, i6 ((row_3.length : Nat) : Int))]) (⟨[(C_Ledger l_1)], [(out_6.length, 1)]⟩) (by kernel_rfl) ⟨lenM _ _, lenM _ _, trivial⟩ rfl ?_
  refine Ex.seq (Ex.seq ?_)
  refine regH 5 [(3, .eq (i6 ((l_1.Bills.length : Nat) : Int)))] [1, 2, 3, 4, 5, 6, 13, 14, 27] [AV.int .i64 (((l_1.Bills.map A_Bill).length : Nat) : Int) = AV.int .i64 ((l_1.Bills.length : Nat) : Int)] (mkS 110 [(1, .sl (t_2.map (SV (AV.int .i64))) none), (2, .sl (row_3.map (AV.int .i64)) none), (3, .sl (left_4.map (AV.int .i64)) none), (4, i6 need_5), (5, .sl (out_6.map (SV (SV (AV.int .i64)))) (some 0)), (6, .ptr 0 0), (13, i6 ((t_2.length : Nat) : Int)), (14, i6 ((row_3.length : Nat) : Int)), (27, .bool (((t_2.length : Nat) : Int) == ((l_1.Bills.length : Nat) : Int)))]) (⟨[(C_Ledger l_1)], [(out_6.length, 1)]⟩) (by kernel_rfl) ⟨lenM _ _, trivial⟩ rfl ?_
  rcases condI h with ⟨hc_7, h⟩ | ⟨hc_7, h⟩
  ·refine Ex.condT _ rfl hc_7 ?_
   refine Ex.seq ?_
   refine Ex.postF ?_
   obtain ⟨l_8, hl_8, h⟩ := bE h
   refine regH 5 [(3, .app (l_8.map (SV (SV (AV.int .i64)))) l_8.length)] [12] [LApp out_6.length (out_6.map (SV (SV (AV.int .i64)))) (([t_2] : List (List (List Int))).map (SV (SV (AV.int .i64)))) 1 (l_8.map (SV (SV (AV.int .i64)))) l_8.length] (mkS 110 [(12, .sl (l_8.map (SV (SV (AV.int .i64)))) (some 0))]) (⟨[(C_Ledger l_1)], [(l_8.length, 1), (1, 1)]⟩) (by kernel_rfl) ⟨LApp.of hl_8 (fun _ => rfl), trivial⟩ rfl ?_
   refine ⟨mkS 110 [(12, .sl (l_8.map (SV (SV (AV.int .i64)))) (some 0))], ⟨[(C_Ledger l_1)], [(l_8.length, 1), (1, 1)]⟩, Forgets.refl _ _ _, ?_⟩
   refine Ex.ret ?_
   obtain rfl := sJ h
   exact ⟨.inr rfl, l_8.map (SV (SV (AV.int .i64))), by kernel_rfl, by simp, rfl⟩
  ·refine Ex.condF _ rfl hc_7 ?_
   refine Ex.skip ?_
   refine Ex.seq (Ex.seq ?_)
   refine regH 5 [(3, .eq (i6 ((l_1.Funds.length : Nat) : Int)))] [1, 2, 3, 4, 5, 6, 13, 14, 36] [AV.int .i64 (((l_1.Funds.map A_Fund).length : Nat) : Int) = AV.int .i64 ((l_1.Funds.length : Nat) : Int)] (mkS 110 [(1, .sl (t_2.map (SV (AV.int .i64))) none), (2, .sl (row_3.map (AV.int .i64)) none), (3, .sl (left_4.map (AV.int .i64)) none), (4, i6 need_5), (5, .sl (out_6.map (SV (SV (AV.int .i64)))) (some 0)), (6, .ptr 0 0), (13, i6 ((t_2.length : Nat) : Int)), (14, i6 ((row_3.length : Nat) : Int)), (36, .bool (((row_3.length : Nat) : Int) == ((l_1.Funds.length : Nat) : Int)))]) (⟨[(C_Ledger l_1)], [(out_6.length, 1)]⟩) (by kernel_rfl) ⟨lenM _ _, trivial⟩ rfl ?_
   rcases condI h with ⟨hc_9, h⟩ | ⟨hc_9, h⟩
   ·refine Ex.condT _ rfl hc_9 ?_
    refine Ex.seq (Ex.seq ?_)
    refine rg 2 [1, 2, 3, 5, 6, 13, 38] (mkS 110 [(1, .sl (t_2.map (SV (AV.int .i64))) none), (2, .sl (row_3.map (AV.int .i64)) none), (3, .sl (left_4.map (AV.int .i64)) none), (5, .sl (out_6.map (SV (SV (AV.int .i64)))) (some 0)), (6, .ptr 0 0), (13, i6 ((t_2.length : Nat) : Int)), (38, .bool (decide (need_5 > 0)))]) ⟨[(C_Ledger l_1)], [(out_6.length, 1)]⟩ ?_
    rcases condI h with ⟨hc_10, h⟩ | ⟨hc_10, h⟩
    ·refine Ex.condT _ rfl hc_10 ?_
     refine Ex.seq (rg 2 [12] (mkS 110 [(12, .sl (out_6.map (SV (SV (AV.int .i64)))) (some 0))]) ⟨[(C_Ledger l_1)], [(out_6.length, 1)]⟩ ?_)
     refine Ex.ret ?_
     obtain rfl := sJ h
     exact ⟨.inr rfl, out_6.map (SV (SV (AV.int .i64))), by kernel_rfl, by simp, rfl⟩
    ·refine Ex.condF _ rfl hc_10 ?_
     refine Ex.skip ?_
     refine Ex.seq (rg 1 [1, 2, 3, 5, 6, 13, 15] (mkS 110 [(1, .sl (t_2.map (SV (AV.int .i64))) none), (2, .sl (row_3.map (AV.int .i64)) none), (3, .sl (left_4.map (AV.int .i64)) none), (5, .sl (out_6.map (SV (SV (AV.int .i64)))) (some 0)), (6, .ptr 0 0), (13, i6 ((t_2.length : Nat) : Int)), (15, i6 0)]) ⟨[(C_Ledger l_1)], [(out_6.length, 1)]⟩ ?_)
     obtain ⟨K_13, hK_14, h⟩ := letE h
     refine Ex.seqJ (fun a S => ∃ (next_11 : Int), K_13 next_11 = some r ∧ a = mkS 110 [(1, .sl (t_2.map (SV (AV.int .i64))) none), (2, .sl (row_3.map (AV.int .i64)) none), (3, .sl (left_4.map (AV.int .i64)) none), (5, .sl (out_6.map (SV (SV (AV.int .i64)))) (some 0)), (6, .ptr 0 0), (15, i6 next_11)] ∧ S = ⟨[(C_Ledger l_1)], [(out_6.length, 1)]⟩) ?_ ?_
     ·refine Ex.seq ?_
      refine regH 6 [(4, .eq (i6 ((l_1.Bills.length : Nat) : Int)))] [1, 2, 3, 5, 6, 13, 15, 45] [AV.int .i64 (((l_1.Bills.map A_Bill).length : Nat) : Int) = AV.int .i64 ((l_1.Bills.length : Nat) : Int)] (mkS 110 [(1, .sl (t_2.map (SV (AV.int .i64))) none), (2, .sl (row_3.map (AV.int .i64)) none), (3, .sl (left_4.map (AV.int .i64)) none), (5, .sl (out_6.map (SV (SV (AV.int .i64)))) (some 0)), (6, .ptr 0 0), (13, i6 ((t_2.length : Nat) : Int)), (15, i6 0), (45, .bool (decide ((IntKind.i64.wrap (((t_2.length : Nat) : Int) + 1)) < ((l_1.Bills.length : Nat) : Int))))]) (⟨[(C_Ledger l_1)], [(out_6.length, 1)]⟩) (by kernel_rfl) ⟨lenM _ _, trivial⟩ rfl ?_
      rcases condI h with ⟨hc_15, h⟩ | ⟨hc_15, h⟩
      ·refine Ex.condT _ rfl hc_15 ?_
       obtain ⟨x_16, hx_16, h⟩ := bE h
       refine regH 8 [(4, .rop (C_Bill x_16))] [1, 2, 3, 5, 6, 15] [LGet (l_1.Bills.map A_Bill) (IntKind.i64.wrap (((t_2.length : Nat) : Int) + 1)) 3 (C_Bill x_16)] (mkS 110 [(1, .sl (t_2.map (SV (AV.int .i64))) none), (2, .sl (row_3.map (AV.int .i64)) none), (3, .sl (left_4.map (AV.int .i64)) none), (5, .sl (out_6.map (SV (SV (AV.int .i64)))) (some 0)), (6, .ptr 0 0), (15, i6 x_16.Amount)]) (⟨[(C_Ledger l_1)], [(out_6.length, 1)]⟩) (by kernel_rfl) ⟨LGet.of hx_16 rfl, trivial⟩ rfl ?_
       (try simp only [reduceCtorEq, AEx.ex.injEq, Nat.reduceEqDiff, if_true, if_false])
       exact ⟨_, _, Forgets.refl _ _ _, x_16.Amount, h, rfl, rfl⟩
      ·refine Ex.condF _ rfl hc_15 ?_
       refine Ex.skip ?_
       (try simp only [reduceCtorEq, AEx.ex.injEq, Nat.reduceEqDiff, if_true, if_false])
       exact ⟨_, _, forgetK [1, 2, 3, 5, 6, 15], 0, h, rfl, rfl⟩
     ·rintro a S ⟨next_11, h, rfl, rfl⟩
      subst hK_14
      refine Ex.seq ?_
      refine Ex.postF ?_
      obtain ⟨r_17, hr_17, h⟩ := bE h
      obtain ⟨l_18, hl_18, h⟩ := bE h
      have hT_19 := t_bk_Lists N t_2 r_17 hr_17
      refine Ex.drawE (a1 := mkS 110 [(1, .sl (t_2.map (SV (AV.int .i64))) none), (2, .sl (row_3.map (AV.int .i64)) none), (3, .sl (left_4.map (AV.int .i64)) none), (5, .sl (out_6.map (SV (SV (AV.int .i64)))) (some 0)), (6, .ptr 0 0), (15, i6 next_11), (53, (A_Ledger l_1)), (54, .sl (t_2.map (SV (AV.int .i64))) none), (55, .sl (r_17.map (SV (AV.int .i64))) (some 2)), (56, .sl (row_3.map (AV.int .i64)) none), (57, .sl (([row_3] : List (List Int)).map (SV (AV.int .i64))) (some 1)), (58, .sl (l_18.map (SV (AV.int .i64))) (some 2)), (59, .sl (left_4.map (AV.int .i64)) none), (60, i6 next_11), (61, .sl (out_6.map (SV (SV (AV.int .i64)))) (some 0))]) (tokC_ok hT_19 (noClr_ok _)) [] [(1, 1)] [⟨[(C_Ledger l_1)], [(out_6.length, 1), (1, 1), (r_17.length, 1)]⟩, ⟨[(C_Ledger l_1)], [(out_6.length, 1), (1, 1), (l_18.length, 1)]⟩] ?_ ?_
      ·refine drS [0] 2 [] [] (mkS 110 [(1, .sl (t_2.map (SV (AV.int .i64))) none), (2, .sl (row_3.map (AV.int .i64)) none), (3, .sl (left_4.map (AV.int .i64)) none), (5, .sl (out_6.map (SV (SV (AV.int .i64)))) (some 0)), (6, .ptr 0 0), (15, i6 next_11), (53, (A_Ledger l_1)), (54, .sl (t_2.map (SV (AV.int .i64))) none)]) (by simp) (by kernel_rfl) trivial (by kernel_rfl) ?_
       refine drT [.sl (t_2.map (SV (AV.int .i64))) none] (.sl (r_17.map (SV (AV.int .i64))) (some 2)) _ _ rfl rfl rfl rfl rfl rfl rfl (by simp) rfl rfl ?_
       refine drS [0] 1 [] [] (mkS 110 [(1, .sl (t_2.map (SV (AV.int .i64))) none), (2, .sl (row_3.map (AV.int .i64)) none), (3, .sl (left_4.map (AV.int .i64)) none), (5, .sl (out_6.map (SV (SV (AV.int .i64)))) (some 0)), (6, .ptr 0 0), (15, i6 next_11), (53, (A_Ledger l_1)), (54, .sl (t_2.map (SV (AV.int .i64))) none), (55, .sl (r_17.map (SV (AV.int .i64))) (some 2)), (56, .sl (row_3.map (AV.int .i64)) none)]) (by simp) (by kernel_rfl) trivial (by kernel_rfl) ?_
       refine drR 1 1 (([row_3] : List (List Int)).map (SV (AV.int .i64))) rfl rfl (fun _ => by kernel_rfl) (by simp) rfl rfl ?_
       refine drE (some (.app (l_18.map (SV (AV.int .i64))) l_18.length)) (some (LApp r_17.length (r_17.map (SV (AV.int .i64))) (([row_3] : List (List Int)).map (SV (AV.int .i64))) 1 (l_18.map (SV (AV.int .i64))) l_18.length)) (.sl (l_18.map (SV (AV.int .i64))) (some 2)) _ _ rfl rfl rfl rfl rfl (by kernel_rfl) (LApp.of hl_18 (fun _ => rfl)) ?_
       refine drS [0] 3 [] [] (mkS 110 [(1, .sl (t_2.map (SV (AV.int .i64))) none), (2, .sl (row_3.map (AV.int .i64)) none), (3, .sl (left_4.map (AV.int .i64)) none), (5, .sl (out_6.map (SV (SV (AV.int .i64)))) (some 0)), (6, .ptr 0 0), (15, i6 next_11), (53, (A_Ledger l_1)), (54, .sl (t_2.map (SV (AV.int .i64))) none), (55, .sl (r_17.map (SV (AV.int .i64))) (some 2)), (56, .sl (row_3.map (AV.int .i64)) none), (57, .sl (([row_3] : List (List Int)).map (SV (AV.int .i64))) (some 1)), (58, .sl (l_18.map (SV (AV.int .i64))) (some 2)), (59, .sl (left_4.map (AV.int .i64)) none), (60, i6 next_11), (61, .sl (out_6.map (SV (SV (AV.int .i64)))) (some 0))]) (by simp) (by kernel_rfl) trivial (by kernel_rfl) ?_
       exact DrO.nil rfl
      ·dsimp only [List.getLastD_cons, List.getLastD_nil]
       obtain ⟨r_20, hr_20, h⟩ := bE h
       refine ExO.callG (ih l_1 l_18 [] left_4 next_11 out_6 r_20 hr_20) [(A_Ledger l_1), .sl (l_18.map (SV (AV.int .i64))) (some 2), .nils, .sl (left_4.map (AV.int .i64)) none, i6 next_11] 0 [] rfl rfl (by simp; try rfl) (by simp; try rfl) (by rfl) ?_
       refine rn 1 [12] (mkS 110 [(12, .sl (r_20.map (SV (SV (AV.int .i64)))) (some 0))]) ⟨[(C_Ledger l_1)], [(r_20.length, 1), (1, 1), (l_18.length, 1)]⟩ ?_
       refine ExO.nil ?_
       refine ⟨mkS 110 [(12, .sl (r_20.map (SV (SV (AV.int .i64)))) (some 0))], ⟨[(C_Ledger l_1)], [(r_20.length, 1), (1, 1), (l_18.length, 1)]⟩, Forgets.refl _ _ _, ?_⟩
       refine Ex.ret ?_
       obtain rfl := sJ h
       exact ⟨.inr rfl, r_20.map (SV (SV (AV.int .i64))), by kernel_rfl, by simp, rfl⟩
   ·refine Ex.condF _ rfl hc_9 ?_
    refine Ex.skip ?_
    refine Ex.seq (rg 1 [1, 2, 3, 4, 5, 6, 13, 14, 16] (mkS 110 [(1, .sl (t_2.map (SV (AV.int .i64))) none), (2, .sl (row_3.map (AV.int .i64)) none), (3, .sl (left_4.map (AV.int .i64)) none), (4, i6 need_5), (5, .sl (out_6.map (SV (SV (AV.int .i64)))) (some 0)), (6, .ptr 0 0), (13, i6 ((t_2.length : Nat) : Int)), (14, i6 ((row_3.length : Nat) : Int)), (16, i6 0)]) ⟨[(C_Ledger l_1)], [(out_6.length, 1)]⟩ ?_)
    obtain ⟨K_23, hK_24, h⟩ := letE h
    refine Ex.seqJ (fun a S => ∃ (most_21 : Int), K_23 most_21 = some r ∧ a = mkS 110 [(1, .sl (t_2.map (SV (AV.int .i64))) none), (2, .sl (row_3.map (AV.int .i64)) none), (3, .sl (left_4.map (AV.int .i64)) none), (4, i6 need_5), (5, .sl (out_6.map (SV (SV (AV.int .i64)))) (some 0)), (6, .ptr 0 0), (14, i6 ((row_3.length : Nat) : Int)), (16, i6 most_21)] ∧ S = ⟨[(C_Ledger l_1)], [(out_6.length, 1)]⟩) ?_ ?_
    ·refine Ex.seq ?_
     obtain ⟨x_25, hx_25, h⟩ := bE h
     obtain ⟨x_26, hx_26, h⟩ := bE h
     refine Ex.drawE (a1 := mkS 110 [(1, .sl (t_2.map (SV (AV.int .i64))) none), (2, .sl (row_3.map (AV.int .i64)) none), (3, .sl (left_4.map (AV.int .i64)) none), (4, i6 need_5), (5, .sl (out_6.map (SV (SV (AV.int .i64)))) (some 0)), (6, .ptr 0 0), (13, i6 ((t_2.length : Nat) : Int)), (14, i6 ((row_3.length : Nat) : Int)), (16, i6 0), (63, .ptr 0 0), (64, .sl (l_1.Funds.map A_Fund) none), (65, i6 ((row_3.length : Nat) : Int)), (66, .rop (C_Fund x_25)), (67, (A_Fund x_25)), (68, .ptr 0 1), (69, .sl (l_1.Bills.map A_Bill) none), (70, i6 ((t_2.length : Nat) : Int)), (71, .rop (C_Bill x_26)), (72, (A_Bill x_26))]) (noClr_ok _) [] [] [] ?_ ?_
     ·refine drS [0] 10 [(3, .rop (C_Fund x_25)), (8, .rop (C_Bill x_26))] [LGet (l_1.Funds.map A_Fund) ((row_3.length : Nat) : Int) 4 (C_Fund x_25), LGet (l_1.Bills.map A_Bill) ((t_2.length : Nat) : Int) 3 (C_Bill x_26)] (mkS 110 [(1, .sl (t_2.map (SV (AV.int .i64))) none), (2, .sl (row_3.map (AV.int .i64)) none), (3, .sl (left_4.map (AV.int .i64)) none), (4, i6 need_5), (5, .sl (out_6.map (SV (SV (AV.int .i64)))) (some 0)), (6, .ptr 0 0), (13, i6 ((t_2.length : Nat) : Int)), (14, i6 ((row_3.length : Nat) : Int)), (16, i6 0), (63, .ptr 0 0), (64, .sl (l_1.Funds.map A_Fund) none), (65, i6 ((row_3.length : Nat) : Int)), (66, .rop (C_Fund x_25)), (67, (A_Fund x_25)), (68, .ptr 0 1), (69, .sl (l_1.Bills.map A_Bill) none), (70, i6 ((t_2.length : Nat) : Int)), (71, .rop (C_Bill x_26)), (72, (A_Bill x_26))]) (by simp) (by kernel_rfl) ⟨LGet.of hx_25 rfl, LGet.of hx_26 rfl, trivial⟩ (by kernel_rfl) ?_
      exact DrO.nil rfl
     ·dsimp only [List.getLastD_cons, List.getLastD_nil]
      obtain ⟨r_27, hr_27, h⟩ := bE h
      refine ExO.callL [] [(A_Fund x_25), (A_Bill x_26)] rfl rfl (a_br9_Can x_25 x_26) rfl rfl (d_br9_Can N x_25 x_26 r_27 hr_27) (b_br9_Can _ _ _ _) rfl ?_
      refine rn 0 [1, 2, 3, 4, 5, 6, 14, 16, 73] (mkS 110 [(1, .sl (t_2.map (SV (AV.int .i64))) none), (2, .sl (row_3.map (AV.int .i64)) none), (3, .sl (left_4.map (AV.int .i64)) none), (4, i6 need_5), (5, .sl (out_6.map (SV (SV (AV.int .i64)))) (some 0)), (6, .ptr 0 0), (14, i6 ((row_3.length : Nat) : Int)), (16, i6 0), (73, .bool r_27)]) ⟨[(C_Ledger l_1)], [(out_6.length, 1)]⟩ ?_
      refine ExO.nil ?_
      rcases condI h with ⟨hc_28, h⟩ | ⟨hc_28, h⟩
      ·refine Ex.condT _ rfl hc_28 ?_
       obtain ⟨x_29, hx_29, h⟩ := bE h
       refine regH 7 [(3, .rop [i6 x_29])] [1, 2, 3, 4, 5, 6, 14, 16] [LGet (left_4.map (AV.int .i64)) ((row_3.length : Nat) : Int) 1 [i6 x_29]] (mkS 110 [(1, .sl (t_2.map (SV (AV.int .i64))) none), (2, .sl (row_3.map (AV.int .i64)) none), (3, .sl (left_4.map (AV.int .i64)) none), (4, i6 need_5), (5, .sl (out_6.map (SV (SV (AV.int .i64)))) (some 0)), (6, .ptr 0 0), (14, i6 ((row_3.length : Nat) : Int)), (16, i6 (if x_29 < need_5 then x_29 else need_5))]) (⟨[(C_Ledger l_1)], [(out_6.length, 1)]⟩) (by kernel_rfl) ⟨LGet.of hx_29 rfl, trivial⟩ rfl ?_
       (try simp only [reduceCtorEq, AEx.ex.injEq, Nat.reduceEqDiff, if_true, if_false])
       exact ⟨_, _, Forgets.refl _ _ _, (if x_29 < need_5 then x_29 else need_5), h, rfl, rfl⟩
      ·refine Ex.condF _ rfl hc_28 ?_
       refine Ex.skip ?_
       (try simp only [reduceCtorEq, AEx.ex.injEq, Nat.reduceEqDiff, if_true, if_false])
       exact ⟨_, _, forgetK [1, 2, 3, 4, 5, 6, 14, 16], 0, h, rfl, rfl⟩
    ·rintro a S ⟨most_21, h, rfl, rfl⟩
     subst hK_24
     refine Ex.seq (Ex.seq ?_)
     refine rg 1 [1, 2, 3, 4, 5, 6, 14, 16, 17] (mkS 110 [(1, .sl (t_2.map (SV (AV.int .i64))) none), (2, .sl (row_3.map (AV.int .i64)) none), (3, .sl (left_4.map (AV.int .i64)) none), (4, i6 need_5), (5, .sl (out_6.map (SV (SV (AV.int .i64)))) (some 0)), (6, .ptr 0 0), (14, i6 ((row_3.length : Nat) : Int)), (16, i6 most_21), (17, i6 0)]) ⟨[(C_Ledger l_1)], [(out_6.length, 1)]⟩ ?_
     obtain ⟨K_32, hK_33, h⟩ := letE h
     refine Ex.blockJ (fun a S => ∃ (out_30 : List (List (List Int))), K_32 out_30 = some r ∧ a = mkS 110 [(5, .sl (out_30.map (SV (SV (AV.int .i64)))) (some 0))] ∧ S = ⟨[], [(out_30.length, 1)]⟩) ?_ ?_
     ·obtain ⟨B_37, hB_38, h⟩ := loop2I h
      refine Ex.loopF (fun k a S => ∃ (out_34 : List (List (List Int))), ∃ (n_35 : Int), loop2 B_37 k out_34 n_35 = some r ∧ a = mkS 110 [(1, .sl (t_2.map (SV (AV.int .i64))) none), (2, .sl (row_3.map (AV.int .i64)) none), (3, .sl (left_4.map (AV.int .i64)) none), (4, i6 need_5), (5, .sl (out_34.map (SV (SV (AV.int .i64)))) (some 0)), (6, .ptr 0 0), (14, i6 ((row_3.length : Nat) : Int)), (16, i6 most_21), (17, i6 n_35)] ∧ S = ⟨[(C_Ledger l_1)], [(out_34.length, 1)]⟩) N ⟨_, _, Forgets.refl _ _ _, out_6, 0, h, rfl, rfl⟩ ?_
      rintro k a S ⟨out_34, n_35, h, rfl, rfl⟩
      cases k with
      | zero => exact (loop2Z h).elim
      | succ k =>
       replace h := loop2S h hB_38
       refine Ex.seq (Ex.seq ?_)
       refine rg 3 [1, 2, 3, 4, 5, 6, 14, 16, 17, 82] (mkS 110 [(1, .sl (t_2.map (SV (AV.int .i64))) none), (2, .sl (row_3.map (AV.int .i64)) none), (3, .sl (left_4.map (AV.int .i64)) none), (4, i6 need_5), (5, .sl (out_34.map (SV (SV (AV.int .i64)))) (some 0)), (6, .ptr 0 0), (14, i6 ((row_3.length : Nat) : Int)), (16, i6 most_21), (17, i6 n_35), (82, .bool (decide (n_35 ≤ most_21)))]) ⟨[(C_Ledger l_1)], [(out_34.length, 1)]⟩ ?_
       rcases condI h with ⟨hc_39, h⟩ | ⟨hc_39, h⟩
       ·refine Ex.condT _ rfl hc_39 ?_
        refine Ex.skip ?_
        refine Ex.seq ?_
        refine Ex.blockK ?_
        refine Ex.seq ?_
        obtain ⟨r_40, hr_40, h⟩ := bE h
        refine Ex.reg (rn 1 [1, 2, 3, 4, 5, 6, 14, 16, 17, 85] (mkS 110 [(1, .sl (t_2.map (SV (AV.int .i64))) none), (2, .sl (row_3.map (AV.int .i64)) none), (3, .sl (left_4.map (AV.int .i64)) none), (4, i6 need_5), (5, .sl (out_34.map (SV (SV (AV.int .i64)))) (some 0)), (6, .ptr 0 0), (14, i6 ((row_3.length : Nat) : Int)), (16, i6 most_21), (17, i6 n_35), (85, .sl (left_4.map (AV.int .i64)) none)]) ⟨[(C_Ledger l_1)], [(out_34.length, 1)]⟩ ?_)
        refine ExO.callMs (t_bk_Ints N left_4 r_40 hr_40) (show 0 < 1 by decide) (map_cells (f := (AV.int .i64)) (s := 1) (fun _ => rfl) _) (flat_scal (f := (AV.int .i64)) (fun _ => rfl) _) [.sl (left_4.map (AV.int .i64)) none] rfl rfl rfl (by simp) ?_
        refine rn 1 [1, 2, 3, 4, 5, 6, 14, 16, 17, 18] (mkS 110 [(1, .sl (t_2.map (SV (AV.int .i64))) none), (2, .sl (row_3.map (AV.int .i64)) none), (3, .sl (left_4.map (AV.int .i64)) none), (4, i6 need_5), (5, .sl (out_34.map (SV (SV (AV.int .i64)))) (some 0)), (6, .ptr 0 0), (14, i6 ((row_3.length : Nat) : Int)), (16, i6 most_21), (17, i6 n_35), (18, .ms 1 r_40.length 1)]) ⟨[(C_Ledger l_1), (flat (r_40.map (AV.int .i64)))], [(out_34.length, 1)]⟩ ?_
        refine ExO.nil ?_
        refine Ex.seq ?_
        obtain ⟨u_41, hu_41, h⟩ := bE h
        obtain ⟨x_42, hx_42, h⟩ := bE h
        obtain ⟨u_43, hu_43, h⟩ := bE h
        obtain ⟨z_45, hz_45, h⟩ := bE h
        refine regH 10 [(4, .adm), (5, .ld (i6 x_42)), (8, .adm), (9, .st (flat (z_45.map (AV.int .i64))))] [1, 2, 3, 4, 5, 6, 14, 16, 17, 18] [0 ≤ ((row_3.length : Nat) : Int) ∧ ((row_3.length : Nat) : Int) < ((r_40.length : Nat) : Int), takeCells (flat (r_40.map (AV.int .i64))) (0 + Int.toNat ((row_3.length : Nat) : Int) * 1) none = some (i6 x_42), 0 ≤ ((row_3.length : Nat) : Int) ∧ ((row_3.length : Nat) : Int) < ((r_40.length : Nat) : Int), 0 + Int.toNat ((row_3.length : Nat) : Int) * 1 + 1 ≤ ((flat (r_40.map (AV.int .i64)))).length ∧ layAt (flat (r_40.map (AV.int .i64))) (0 + Int.toNat ((row_3.length : Nat) : Int) * 1) [i6 (IntKind.i64.wrap (x_42 - n_35))] = (flat (z_45.map (AV.int .i64)))] (mkS 110 [(1, .sl (t_2.map (SV (AV.int .i64))) none), (2, .sl (row_3.map (AV.int .i64)) none), (3, .sl (left_4.map (AV.int .i64)) none), (4, i6 need_5), (5, .sl (out_34.map (SV (SV (AV.int .i64)))) (some 0)), (6, .ptr 0 0), (14, i6 ((row_3.length : Nat) : Int)), (16, i6 most_21), (17, i6 n_35), (18, .ms 1 r_40.length 1)]) (⟨[(C_Ledger l_1), (flat (z_45.map (AV.int .i64)))], [(out_34.length, 1)]⟩) (by kernel_rfl) ⟨idxI.of hu_41, ldFl (f := (AV.int .i64)) (s := 1) r_40 _ 0 ((row_3.length : Nat) : Int) x_42 (i6 x_42) (fun _ => rfl) hx_42 rfl (by omega), idxI.of hu_43, stFl (f := (AV.int .i64)) (s := 1) _ 0 1 ((row_3.length : Nat) : Int) (fun (y_44 : Int) => (IntKind.i64.wrap (x_42 - n_35))) _ (fun _ => rfl) hz_45 rfl (by decide) (by omega) (fun _ => rfl), trivial⟩ rfl ?_
        obtain ⟨u_46, hu_46, h⟩ := bE h
        refine Ex.forget (chillK (f := (AV.int .i64)) 1 18 r_40.length 1 z_45 (.ms 1 r_40.length 1) (.sl (z_45.map (AV.int .i64)) none) hu_46 rfl (fun _ => rfl) rfl (by simp)) ?_
        refine Ex.castA (a2 := mkS 110 [(1, .sl (t_2.map (SV (AV.int .i64))) none), (2, .sl (row_3.map (AV.int .i64)) none), (3, .sl (left_4.map (AV.int .i64)) none), (4, i6 need_5), (5, .sl (out_34.map (SV (SV (AV.int .i64)))) (some 0)), (6, .ptr 0 0), (14, i6 ((row_3.length : Nat) : Int)), (16, i6 most_21), (17, i6 n_35), (18, .sl (z_45.map (AV.int .i64)) none)]) (S2 := ⟨[(C_Ledger l_1), []], [(out_34.length, 1)]⟩) (by kernel_rfl) (by kernel_rfl) ?_
        obtain ⟨r_47, hr_47, h⟩ := bE h
        obtain ⟨l_48, hl_48, h⟩ := bE h
        have hT_49 := t_bk_Ints N row_3 r_47 hr_47
        refine Ex.drawE (a1 := mkS 110 [(1, .sl (t_2.map (SV (AV.int .i64))) none), (2, .sl (row_3.map (AV.int .i64)) none), (3, .sl (left_4.map (AV.int .i64)) none), (4, i6 need_5), (5, .sl (out_34.map (SV (SV (AV.int .i64)))) (some 0)), (6, .ptr 0 0), (14, i6 ((row_3.length : Nat) : Int)), (16, i6 most_21), (17, i6 n_35), (18, .sl (z_45.map (AV.int .i64)) none), (96, (A_Ledger l_1)), (97, .sl (t_2.map (SV (AV.int .i64))) none), (98, .sl (row_3.map (AV.int .i64)) none), (99, .sl (r_47.map (AV.int .i64)) (some 2)), (100, i6 n_35), (101, .sl (([n_35] : List Int).map (AV.int .i64)) (some 1)), (102, .sl (l_48.map (AV.int .i64)) (some 2)), (103, .sl (z_45.map (AV.int .i64)) none), (104, i6 need_5), (105, i6 n_35), (106, i6 (IntKind.i64.wrap (need_5 - n_35))), (107, .sl (out_34.map (SV (SV (AV.int .i64)))) (some 0))]) (tokC_ok hT_49 (noClr_ok _)) [] [(1, 1)] [⟨[(C_Ledger l_1), []], [(out_34.length, 1), (1, 1), (r_47.length, 1)]⟩, ⟨[(C_Ledger l_1), []], [(out_34.length, 1), (1, 1), (l_48.length, 1)]⟩] ?_ ?_
        ·refine drS [0, 1] 3 [] [] (mkS 110 [(1, .sl (t_2.map (SV (AV.int .i64))) none), (2, .sl (row_3.map (AV.int .i64)) none), (3, .sl (left_4.map (AV.int .i64)) none), (4, i6 need_5), (5, .sl (out_34.map (SV (SV (AV.int .i64)))) (some 0)), (6, .ptr 0 0), (14, i6 ((row_3.length : Nat) : Int)), (16, i6 most_21), (17, i6 n_35), (18, .sl (z_45.map (AV.int .i64)) none), (96, (A_Ledger l_1)), (97, .sl (t_2.map (SV (AV.int .i64))) none), (98, .sl (row_3.map (AV.int .i64)) none)]) (by simp) (by kernel_rfl) trivial (by kernel_rfl) ?_
         refine drT [.sl (row_3.map (AV.int .i64)) none] (.sl (r_47.map (AV.int .i64)) (some 2)) _ _ rfl rfl rfl rfl rfl rfl rfl (by simp) rfl rfl ?_
         refine drS [0, 1] 1 [] [] (mkS 110 [(1, .sl (t_2.map (SV (AV.int .i64))) none), (2, .sl (row_3.map (AV.int .i64)) none), (3, .sl (left_4.map (AV.int .i64)) none), (4, i6 need_5), (5, .sl (out_34.map (SV (SV (AV.int .i64)))) (some 0)), (6, .ptr 0 0), (14, i6 ((row_3.length : Nat) : Int)), (16, i6 most_21), (17, i6 n_35), (18, .sl (z_45.map (AV.int .i64)) none), (96, (A_Ledger l_1)), (97, .sl (t_2.map (SV (AV.int .i64))) none), (98, .sl (row_3.map (AV.int .i64)) none), (99, .sl (r_47.map (AV.int .i64)) (some 2)), (100, i6 n_35)]) (by simp) (by kernel_rfl) trivial (by kernel_rfl) ?_
         refine drR 1 1 (([n_35] : List Int).map (AV.int .i64)) rfl rfl (fun _ => by kernel_rfl) (by simp) rfl rfl ?_
         refine drE (some (.app (l_48.map (AV.int .i64)) l_48.length)) (some (LApp r_47.length (r_47.map (AV.int .i64)) (([n_35] : List Int).map (AV.int .i64)) 1 (l_48.map (AV.int .i64)) l_48.length)) (.sl (l_48.map (AV.int .i64)) (some 2)) _ _ rfl rfl rfl rfl rfl (by kernel_rfl) (LApp.of hl_48 (fun _ => rfl)) ?_
         refine drS [0, 1] 5 [] [] (mkS 110 [(1, .sl (t_2.map (SV (AV.int .i64))) none), (2, .sl (row_3.map (AV.int .i64)) none), (3, .sl (left_4.map (AV.int .i64)) none), (4, i6 need_5), (5, .sl (out_34.map (SV (SV (AV.int .i64)))) (some 0)), (6, .ptr 0 0), (14, i6 ((row_3.length : Nat) : Int)), (16, i6 most_21), (17, i6 n_35), (18, .sl (z_45.map (AV.int .i64)) none), (96, (A_Ledger l_1)), (97, .sl (t_2.map (SV (AV.int .i64))) none), (98, .sl (row_3.map (AV.int .i64)) none), (99, .sl (r_47.map (AV.int .i64)) (some 2)), (100, i6 n_35), (101, .sl (([n_35] : List Int).map (AV.int .i64)) (some 1)), (102, .sl (l_48.map (AV.int .i64)) (some 2)), (103, .sl (z_45.map (AV.int .i64)) none), (104, i6 need_5), (105, i6 n_35), (106, i6 (IntKind.i64.wrap (need_5 - n_35))), (107, .sl (out_34.map (SV (SV (AV.int .i64)))) (some 0))]) (by simp) (by kernel_rfl) trivial (by kernel_rfl) ?_
         exact DrO.nil rfl
        ·dsimp only [List.getLastD_cons, List.getLastD_nil]
         obtain ⟨r_50, hr_50, h⟩ := bE h
         refine ExO.callG (ih l_1 t_2 l_48 z_45 (IntKind.i64.wrap (need_5 - n_35)) out_34 r_50 hr_50) [(A_Ledger l_1), .sl (t_2.map (SV (AV.int .i64))) none, .sl (l_48.map (AV.int .i64)) (some 2), .sl (z_45.map (AV.int .i64)) none, i6 (IntKind.i64.wrap (need_5 - n_35))] 0 [] rfl rfl (by simp; try rfl) (by simp; try rfl) (by rfl) ?_
         refine rn 1 [1, 2, 3, 4, 5, 6, 14, 16, 17] (mkS 110 [(1, .sl (t_2.map (SV (AV.int .i64))) none), (2, .sl (row_3.map (AV.int .i64)) none), (3, .sl (left_4.map (AV.int .i64)) none), (4, i6 need_5), (5, .sl (r_50.map (SV (SV (AV.int .i64)))) (some 0)), (6, .ptr 0 0), (14, i6 ((row_3.length : Nat) : Int)), (16, i6 most_21), (17, i6 n_35)]) ⟨[(C_Ledger l_1), []], [(r_50.length, 1), (1, 1), (l_48.length, 1)]⟩ ?_
         refine ExO.nil ?_
         refine rg 3 [1, 2, 3, 4, 5, 6, 14, 16, 17] (mkS 110 [(1, .sl (t_2.map (SV (AV.int .i64))) none), (2, .sl (row_3.map (AV.int .i64)) none), (3, .sl (left_4.map (AV.int .i64)) none), (4, i6 need_5), (5, .sl (r_50.map (SV (SV (AV.int .i64)))) (some 0)), (6, .ptr 0 0), (14, i6 ((row_3.length : Nat) : Int)), (16, i6 most_21), (17, i6 (IntKind.i64.wrap (n_35 + 1)))]) ⟨[(C_Ledger l_1), []], [(r_50.length, 1), (1, 1), (l_48.length, 1)]⟩ ?_
         dsimp only
         exact ⟨_, _, forgetA (m := 110) 1 [0] [(1, .sl (t_2.map (SV (AV.int .i64))) none), (2, .sl (row_3.map (AV.int .i64)) none), (3, .sl (left_4.map (AV.int .i64)) none), (4, i6 need_5), (5, .sl (r_50.map (SV (SV (AV.int .i64)))) (some 0)), (6, .ptr 0 0), (14, i6 ((row_3.length : Nat) : Int)), (16, i6 most_21), (17, i6 (IntKind.i64.wrap (n_35 + 1)))] [(C_Ledger l_1)] [(r_50.length, 1)] (by simp [setAll]) (by simp) ⟨(reN (cleanII _ _)), (reN (cleanI _ _)), (reN (cleanI _ _)), rfl, (reT (cleanM (fun _ => (by simp only [SV, AV.clean]; exact (cleanII _ _))) _) rfl), rfl, rfl, rfl, rfl, trivial⟩ (by simp) rfl (by decide) (sig0 1 rfl rfl), k, Nat.lt_succ_self k, r_50, (IntKind.i64.wrap (n_35 + 1)), h, rfl, rfl⟩
       ·refine Ex.condF _ rfl hc_39 ?_
        refine Ex.exit ?_
        (try simp only [reduceCtorEq, AEx.ex.injEq, Nat.reduceEqDiff, if_true, if_false])
        exact ⟨_, _, forgetA (m := 110) 0 [0] [(5, .sl (out_34.map (SV (SV (AV.int .i64)))) (some 0))] [] [(out_34.length, 1)] (by simp [setAll]) (by simp) ⟨(reT (cleanM (fun _ => (by simp only [SV, AV.clean]; exact (cleanII _ _))) _) rfl), trivial⟩ (by simp) rfl (by decide) (sig0 1 rfl rfl), out_34, h, rfl, rfl⟩
     ·rintro a S ⟨out_30, h, rfl, rfl⟩
      subst hK_33
      refine Ex.seq (rg 2 [12] (mkS 110 [(12, .sl (out_30.map (SV (SV (AV.int .i64)))) (some 0))]) ⟨[], [(out_30.length, 1)]⟩ ?_)
      refine Ex.ret ?_
      obtain rfl := sJ h
      exact ⟨.inr rfl, out_30.map (SV (SV (AV.int .i64))), by kernel_rfl, by simp, rfl⟩
def p_bl9_all (N : Nat) (l_1 : T_Ledger) : Option ((List (List (List Int)))) := (letJ (fun (left_2 : List Int) => (letJ (fun (first_14 : Int) => ((p_bl9_tracesg N l_1 [] [] left_2 first_14 []).bind fun r_20 => some r_20)) (fun k_15 => (bif (decide (((l_1.Bills.length : Nat) : Int) > 0)) then ((getI l_1.Bills 0).bind fun x_19 => (k_15 x_19.Amount)) else (k_15 0))))) (fun k_3 => (loop2 (fun rec_8 (left_6 : List Int) (i_7 : Int) => (bif (decide (i_7 < ((l_1.Funds.length : Nat) : Int))) then ((getI l_1.Funds i_7).bind fun x_12 => ((pushI left_6 ([x_12.Amount] : List Int)).bind fun l_13 => (rec_8 l_13 (IntKind.i64.wrap (i_7 + 1))))) else (k_3 left_6))) N [] 0)))
def v_bl9_all (r : (List (List (List Int)))) : AV := .sl (r.map (SV (SV (AV.int .i64)))) none
attribute [local simp] v_bl9_all
theorem a_bl9_all (l_1 : T_Ledger) : [(A_Ledger l_1)].mapM (ren []) = some [(A_Ledger l_1)] := by simp
theorem b_bl9_all (r : (List (List (List Int)))) (n n2 m : Nat) : back n n2 m (v_bl9_all r) = some (v_bl9_all r) := by simp
theorem d_bl9_all (N : Nat) (l_1 : T_Ledger) (r : (List (List (List Int)))) (h : p_bl9_all N l_1 = some r) : Does Try.prog 26 [(A_Ledger l_1)] [] fun v c => v = v_bl9_all r ∧ c = [] := by
 unfold p_bl9_all at h
 refine Does.ofL comp26 _ _ rfl rfl ?_
 refine Ex.seq (rg 2 [1] (mkS 35 [(1, .ptr 0 0)]) ⟨[(C_Ledger l_1)], []⟩ ?_)
 refine Ex.seq (rg 1 [1, 3] (mkS 35 [(1, .ptr 0 0), (3, .nils)]) ⟨[(C_Ledger l_1)], []⟩ ?_)
 refine Ex.seq (Ex.seq ?_)
 refine rg 1 [1, 3, 4] (mkS 35 [(1, .ptr 0 0), (3, .nils), (4, i6 0)]) ⟨[(C_Ledger l_1)], []⟩ ?_
 obtain ⟨K_4, hK_5, h⟩ := letE h
 refine Ex.blockJ (fun a S => ∃ (left_2 : List Int), K_4 left_2 = some r ∧ a = mkS 35 [(1, .ptr 0 0), (3, .sl (left_2.map (AV.int .i64)) (some 0))] ∧ S = ⟨[(C_Ledger l_1)], [(left_2.length, 1)]⟩) ?_ ?_
 ·refine Ex.forget (nilK 3 1 rfl) ?_
  refine Ex.castA (a2 := mkS 35 [(1, .ptr 0 0), (3, .sl (([] : List Int).map (AV.int .i64)) (some 0)), (4, i6 0)]) (S2 := ⟨[(C_Ledger l_1)], [(0, 1)]⟩) (by kernel_rfl) (by kernel_rfl) ?_
  obtain ⟨B_9, hB_10, h⟩ := loop2I h
  refine Ex.loopF (fun k a S => ∃ (left_6 : List Int), ∃ (i_7 : Int), loop2 B_9 k left_6 i_7 = some r ∧ a = mkS 35 [(1, .ptr 0 0), (3, .sl (left_6.map (AV.int .i64)) (some 0)), (4, i6 i_7)] ∧ S = ⟨[(C_Ledger l_1)], [(left_6.length, 1)]⟩) N ⟨_, _, Forgets.refl _ _ _, [], 0, h, rfl, rfl⟩ ?_
  rintro k a S ⟨left_6, i_7, h, rfl, rfl⟩
  cases k with
  | zero => exact (loop2Z h).elim
  | succ k =>
   replace h := loop2S h hB_10
   refine Ex.seq (Ex.seq ?_)
   refine regH 5 [(3, .eq (i6 ((l_1.Funds.length : Nat) : Int)))] [1, 3, 4, 10] [AV.int .i64 (((l_1.Funds.map A_Fund).length : Nat) : Int) = AV.int .i64 ((l_1.Funds.length : Nat) : Int)] (mkS 35 [(1, .ptr 0 0), (3, .sl (left_6.map (AV.int .i64)) (some 0)), (4, i6 i_7), (10, .bool (decide (i_7 < ((l_1.Funds.length : Nat) : Int))))]) (⟨[(C_Ledger l_1)], [(left_6.length, 1)]⟩) (by kernel_rfl) ⟨lenM _ _, trivial⟩ rfl ?_
   rcases condI h with ⟨hc_11, h⟩ | ⟨hc_11, h⟩
   ·refine Ex.condT _ rfl hc_11 ?_
    refine Ex.skip ?_
    refine Ex.seq ?_
    refine Ex.blockK ?_
    obtain ⟨x_12, hx_12, h⟩ := bE h
    obtain ⟨l_13, hl_13, h⟩ := bE h
    refine regH 10 [(4, .rop (C_Fund x_12)), (8, .app (l_13.map (AV.int .i64)) l_13.length)] [1, 3, 4] [LGet (l_1.Funds.map A_Fund) i_7 4 (C_Fund x_12), LApp left_6.length (left_6.map (AV.int .i64)) (([x_12.Amount] : List Int).map (AV.int .i64)) 1 (l_13.map (AV.int .i64)) l_13.length] (mkS 35 [(1, .ptr 0 0), (3, .sl (l_13.map (AV.int .i64)) (some 0)), (4, i6 i_7)]) (⟨[(C_Ledger l_1)], [(l_13.length, 1), (1, 1)]⟩) (by kernel_rfl) ⟨LGet.of hx_12 rfl, LApp.of hl_13 (fun _ => rfl), trivial⟩ rfl ?_
    refine rg 3 [1, 3, 4] (mkS 35 [(1, .ptr 0 0), (3, .sl (l_13.map (AV.int .i64)) (some 0)), (4, i6 (IntKind.i64.wrap (i_7 + 1)))]) ⟨[(C_Ledger l_1)], [(l_13.length, 1), (1, 1)]⟩ ?_
    dsimp only
    exact ⟨_, _, forgetA (m := 35) 1 [0] [(1, .ptr 0 0), (3, .sl (l_13.map (AV.int .i64)) (some 0)), (4, i6 (IntKind.i64.wrap (i_7 + 1)))] [(C_Ledger l_1)] [(l_13.length, 1)] (by simp [setAll]) (by simp) ⟨rfl, (reT (cleanI _ _) rfl), rfl, trivial⟩ (by simp) rfl (by decide), k, Nat.lt_succ_self k, l_13, (IntKind.i64.wrap (i_7 + 1)), h, rfl, rfl⟩
   ·refine Ex.condF _ rfl hc_11 ?_
    refine Ex.exit ?_
    (try simp only [reduceCtorEq, AEx.ex.injEq, Nat.reduceEqDiff, if_true, if_false])
    exact ⟨_, _, forgetK [1, 3], left_6, h, rfl, rfl⟩
 ·rintro a S ⟨left_2, h, rfl, rfl⟩
  subst hK_5
  refine Ex.seq (rg 1 [1, 3, 5] (mkS 35 [(1, .ptr 0 0), (3, .sl (left_2.map (AV.int .i64)) (some 0)), (5, i6 0)]) ⟨[(C_Ledger l_1)], [(left_2.length, 1)]⟩ ?_)
  obtain ⟨K_16, hK_17, h⟩ := letE h
  refine Ex.seqJ (fun a S => ∃ (first_14 : Int), K_16 first_14 = some r ∧ a = mkS 35 [(1, .ptr 0 0), (3, .sl (left_2.map (AV.int .i64)) (some 0)), (5, i6 first_14)] ∧ S = ⟨[(C_Ledger l_1)], [(left_2.length, 1)]⟩) ?_ ?_
  ·refine Ex.seq ?_
   refine regH 4 [(2, .eq (i6 ((l_1.Bills.length : Nat) : Int)))] [1, 3, 5, 25] [AV.int .i64 (((l_1.Bills.map A_Bill).length : Nat) : Int) = AV.int .i64 ((l_1.Bills.length : Nat) : Int)] (mkS 35 [(1, .ptr 0 0), (3, .sl (left_2.map (AV.int .i64)) (some 0)), (5, i6 0), (25, .bool (decide (((l_1.Bills.length : Nat) : Int) > 0)))]) (⟨[(C_Ledger l_1)], [(left_2.length, 1)]⟩) (by kernel_rfl) ⟨lenM _ _, trivial⟩ rfl ?_
   rcases condI h with ⟨hc_18, h⟩ | ⟨hc_18, h⟩
   ·refine Ex.condT _ rfl hc_18 ?_
    obtain ⟨x_19, hx_19, h⟩ := bE h
    refine regH 6 [(2, .rop (C_Bill x_19))] [1, 3, 5] [LGet (l_1.Bills.map A_Bill) 0 3 (C_Bill x_19)] (mkS 35 [(1, .ptr 0 0), (3, .sl (left_2.map (AV.int .i64)) (some 0)), (5, i6 x_19.Amount)]) (⟨[(C_Ledger l_1)], [(left_2.length, 1)]⟩) (by kernel_rfl) ⟨LGet.of hx_19 rfl, trivial⟩ rfl ?_
    (try simp only [reduceCtorEq, AEx.ex.injEq, Nat.reduceEqDiff, if_true, if_false])
    exact ⟨_, _, Forgets.refl _ _ _, x_19.Amount, h, rfl, rfl⟩
   ·refine Ex.condF _ rfl hc_18 ?_
    refine Ex.skip ?_
    (try simp only [reduceCtorEq, AEx.ex.injEq, Nat.reduceEqDiff, if_true, if_false])
    exact ⟨_, _, forgetK [1, 3, 5], 0, h, rfl, rfl⟩
  ·rintro a S ⟨first_14, h, rfl, rfl⟩
   subst hK_17
   refine Ex.seq ?_
   obtain ⟨r_20, hr_20, h⟩ := bE h
   refine Ex.reg (rn 3 [31, 32, 33] (mkS 35 [(31, (A_Ledger l_1)), (32, .sl (left_2.map (AV.int .i64)) (some 0)), (33, i6 first_14)]) ⟨[(C_Ledger l_1)], [(left_2.length, 1)]⟩ ?_)
   refine ExO.callG0 (d_bl9_tracesg N l_1 [] [] left_2 first_14 [] r_20 hr_20) [(A_Ledger l_1), .nils, .nils, .sl (left_2.map (AV.int .i64)) (some 0), i6 first_14] [] rfl rfl rfl (by simp; try rfl) (by simp; try rfl) ?_
   refine rn 1 [2] (mkS 35 [(2, .sl (r_20.map (SV (SV (AV.int .i64)))) (some 1))]) ⟨[(C_Ledger l_1)], [(left_2.length, 1), (r_20.length, 1)]⟩ ?_
   refine ExO.nil ?_
   refine Ex.ret ?_
   obtain rfl := sJ h
   exact rt (.sl (r_20.map (SV (SV (AV.int .i64)))) (some 1))
def v_bl9_CoinSpent (r : Bool) : AV := .bool r
attribute [local simp] v_bl9_CoinSpent
end Go.Proofs.Ytfhapfljomgmnaa
end
section
namespace Go.Proofs.Ytfhapfljomgmnaa
open Go.RowKit

theorem canRef_p (N : Nat) (hN : 1000 < N) (c : Int) (F : T_Fund) (B : T_Bill) (hF : GoodFund c F) : p_br9_Can N F B = some (can F B) := by
 obtain ⟨h1, h2, h3, h4, h5, h6, h7, _⟩ := hF
 unfold p_br9_Can
 simp only [letJ_eq]
 refine invZ' F.Uses (fun x => x = some (can F B)) (fun i b => b = decide (B.Use ∈ F.Uses.take i)) (by omega) (by simp) (fun rec b hb => ?_) (fun rec i x b hx hi hb ih => ?_)
 ·simp only [ltE, cond_false]
  rw [List.take_length] at hb
  unfold can p_br9_within
  by_cases hu : B.Use ∈ F.Uses
  ·rw [hb, decide_eq_true hu, cond_true]
   by_cases c1 : B.Day ≥ F.Day
   ·rw [decide_eq_true c1, cond_true, Option.bind_some]
    congr 1
    apply decide_eq_decide.2
    exact ⟨fun q => ⟨c1, q, hu⟩, fun q => q.2.1⟩
   ·rw [decide_eq_false c1, cond_false, Option.bind_some, decide_eq_false (fun q => c1 q.1)]
  ·rw [hb, decide_eq_false hu, cond_false, decide_eq_false (fun q => hu q.2.2)]
 ·simp only [ltD hi, cond_true, getD_at hx, Option.bind_some, nadd1 i (by omega)]
  have ht : F.Uses.take (i + 1) = F.Uses.take i ++ [x] := by rw [List.take_add_one, hx]; rfl
  cases b with
  | true =>
   rw [cond_true]
   refine ih _ ?_
   have : B.Use ∈ F.Uses.take i := by simpa using hb
   rw [ht, decide_eq_true (List.mem_append_left _ this)]
  | false =>
   rw [cond_false]
   refine ih _ ?_
   have : B.Use ∉ F.Uses.take i := by simpa using hb
   rw [ht]
   by_cases hq : x = B.Use
   ·subst hq; simp
   ·have : (x == B.Use) = false := by simpa using hq
    rw [this]
    symm
    apply decide_eq_false
    intro hm
    rcases List.mem_append.1 hm with hm | hm
    ·contradiction
    ·exact hq (List.mem_singleton.1 hm).symm
end Go.Proofs.Ytfhapfljomgmnaa
end
section
namespace Go.Proofs.Ytfhapfljomgmnaa
open Go.RowKit

def sm (h : Nat → Int) : Nat → Nat → Int
 | _, 0 => 0
 | a, n + 1 => h a + sm h (a + 1) n
theorem sm_nonneg {h : Nat → Int} : ∀ {a n : Nat}, (∀ k, a ≤ k → k < a + n → 0 ≤ h k) → 0 ≤ sm h a n
 | _, 0, _ => Int.le_refl _
 | a, n + 1, hh => by
  have h1 := hh a (Nat.le_refl _) (by omega)
  have h2 := sm_nonneg (h := h) (a := a + 1) (n := n) (fun k h1 h2 => hh k (by omega) (by omega))
  show 0 ≤ h a + sm h (a + 1) n
  omega
theorem sm_range (h : Nat → Int) : ∀ (a n : Nat), sm h a n + ((List.range a).map h).sum = ((List.range (a + n)).map h).sum
 | a, 0 => by show 0 + _ = _; rw [Nat.add_zero]; omega
 | a, n + 1 => by
  have := sm_range h (a + 1) n
  rw [sum_succ] at this
  show h a + sm h (a + 1) n + _ = _
  rw [show a + (n + 1) = a + 1 + n by omega, ← this]
  omega
theorem sm_zero (h : Nat → Int) (n : Nat) : sm h 0 n = ((List.range n).map h).sum := by
 have := sm_range h 0 n
 simp at this
 exact this

theorem lists_t (N : Nat) (l : List (List Int)) (hl : l.length ≤ 65536) (h : ∀ x ∈ l, x.length ≤ 65536) (hN : 65537 < N) : p_bk_Lists N l = some l := by
 unfold p_bk_Lists
 simp only [letJ_eq]
 refine invZ' l (fun x => x = some l) (fun i (b : List (List Int)) => b = l.take i) (by omega) (by simp) (fun rec b hb => ?_) (fun rec i x b hx hi hb ih => ?_)
 ·simp only [ltE, cond_false]
  rw [hb, List.take_length]
 ·simp only [ltD hi, cond_true, getD_at hx, Option.bind_some, ints_t N x (h x (List.mem_of_getElem? hx)), nadd1 i (by omega)]
  rw [pushI_ok (by rw [hb]; simp; omega), Option.bind_some]
  refine ih _ ?_
  rw [hb, List.take_add_one, hx]
  rfl

structure Ext (cs : List T_claim) (nf : Nat) (t : List (List Int)) (row : List Int) (lv : Nat → Int) (need : Int) (w : List (List Int)) : Prop where
 len : w.length = cs.length
 pre : ∀ j, j < t.length → w[j]? = t[j]?
 rows : ∀ j, j < cs.length → ∃ x, w[j]? = some x ∧ x.length = nf
 beg : ∀ f, f < row.length → ent w t.length f = row[f]?.getD 0
 pos : ∀ j f, t.length ≤ j → (j = t.length → row.length ≤ f) → 0 ≤ ent w j f ∧ (0 < ent w j f → (pay cs j).testBit f = true)
 need : t.length < cs.length → sm (ent w t.length) row.length (nf - row.length) = need
 sum : ∀ j, t.length < j → j < cs.length → sm (ent w j) 0 nf = amt cs j
 col : ∀ g, g < nf → sm (fun j => ent w j g) (t.length + 1) (cs.length - (t.length + 1)) + (if row.length ≤ g ∧ t.length < cs.length then ent w t.length g else 0) ≤ lv g
theorem ent_out {w : List (List Int)} {j f nf : Nat} (h : ∀ x, w[j]? = some x → x.length ≤ f) : ent w j f = 0 := by
 unfold ent
 cases hx : w[j]? with
 | none => rfl
 | some x =>
  rw [Option.bind_some, List.getElem?_eq_none (h x hx)]
  rfl
def Less (w' w : List (List Int)) : Prop := ∃ j g, (∀ j' g', j' < j ∨ j' = j ∧ g' < g → ent w' j' g' = ent w j' g') ∧ ent w' j g < ent w j g
theorem ext_pre {cs : List T_claim} {nf : Nat} {t : List (List Int)} {row : List Int} {lv lv' : Nat → Int} {need need' : Int} {w w' : List (List Int)} (h : Ext cs nf t row lv need w) (h' : Ext cs nf t row lv' need' w') : ∀ j g, j < t.length ∨ j = t.length ∧ g < row.length → ent w j g = ent w' j g := by
 rintro j g (hj | ⟨rfl, hg⟩)
 ·unfold ent
  rw [h.pre j hj, h'.pre j hj]
 ·rw [h.beg g hg, h'.beg g hg]
theorem ext_row {cs : List T_claim} {nf : Nat} {t : List (List Int)} {row : List Int} {lv : Nat → Int} {w : List (List Int)} (hi : t.length < cs.length) (hr : row.length = nf) : Ext cs nf t row lv 0 w ↔ Ext cs nf (t ++ [row]) [] lv (if t.length + 1 < cs.length then amt cs (t.length + 1) else 0) w := by
 have hl : (t ++ [row]).length = t.length + 1 := by simp
 constructor
 ·intro h
  refine ⟨h.len, ?_, h.rows, fun f hf => absurd hf (Nat.not_lt_zero _), ?_, ?_, ?_, ?_⟩
  ·intro j hj
   rw [hl] at hj
   by_cases hjt : j < t.length
   ·rw [List.getElem?_append_left hjt]; exact h.pre j hjt
   ·have : j = t.length := by omega
    subst this
    rw [List.getElem?_concat_length]
    obtain ⟨x, x1, x2⟩ := h.rows t.length hi
    rw [x1]
    congr 1
    refine List.ext_getElem? fun f => ?_
    by_cases hf : f < nf
    ·have e := h.beg f (by omega)
     have hx : x[f]? = some x[f] := List.getElem?_eq_getElem (by omega)
     have hy : row[f]? = some row[f] := List.getElem?_eq_getElem (by omega)
     unfold ent at e
     rw [x1, Option.bind_some, hx, hy] at e
     rw [hx, hy]
     exact congrArg some e
    ·rw [List.getElem?_eq_none (by omega), List.getElem?_eq_none (by omega)]
  ·intro j f hj _
   rw [hl] at hj
   exact h.pos j f (by omega) (fun q => by omega)
  ·intro hj
   rw [hl] at hj ⊢
   rw [if_pos hj]
   exact h.sum _ (by omega) hj
  ·intro j hj hj2
   rw [hl] at hj
   exact h.sum j (by omega) hj2
  ·intro g hg
   have := h.col g hg
   rw [if_neg (by omega)] at this
   rw [hl]
   by_cases hj : t.length + 1 < cs.length
   ·rw [if_pos ⟨Nat.zero_le _, hj⟩]
    rw [show cs.length - (t.length + 1) = (cs.length - (t.length + 1 + 1)) + 1 by omega] at this
    have e : sm (fun j => ent w j g) (t.length + 1) (cs.length - (t.length + 1 + 1) + 1) = ent w (t.length + 1) g + sm (fun j => ent w j g) (t.length + 1 + 1) (cs.length - (t.length + 1 + 1)) := rfl
    omega
   ·rw [if_neg (by omega), show cs.length - (t.length + 1 + 1) = 0 by omega]
    rw [show cs.length - (t.length + 1) = 0 by omega] at this
    exact this
 ·intro h
  have hw : w[t.length]? = some row := by
   have := h.pre t.length (by rw [hl]; omega)
   rw [List.getElem?_concat_length] at this
   exact this
  have he : ∀ f, ent w t.length f = row[f]?.getD 0 := fun f => by unfold ent; rw [hw, Option.bind_some]
  have hout : ∀ f, nf ≤ f → ent w t.length f = 0 := fun f hf => by rw [he, List.getElem?_eq_none (by omega)]; rfl
  refine ⟨h.len, ?_, h.rows, fun f hf => he f, ?_, ?_, ?_, ?_⟩
  ·intro j hj
   have := h.pre j (by rw [hl]; omega)
   rw [List.getElem?_append_left hj] at this
   exact this
  ·intro j f hj hf
   by_cases hjt : j = t.length
   ·subst hjt
    rw [hout f (by have := hf rfl; omega)]
    exact ⟨Int.le_refl _, fun q => by omega⟩
   ·exact h.pos j f (by rw [hl]; omega) (fun q => Nat.zero_le _)
  ·intro _
   rw [hr, Nat.sub_self]
   rfl
  ·intro j hj hj2
   by_cases hjt : j = t.length + 1
   ·subst hjt
    have := h.need (by rw [hl]; exact hj2)
    rw [hl, if_pos hj2] at this
    exact this
   ·exact h.sum j (by rw [hl]; omega) hj2
  ·intro g hg
   have := h.col g hg
   rw [if_neg (by omega)]
   rw [hl] at this
   by_cases hj : t.length + 1 < cs.length
   ·rw [if_pos ⟨Nat.zero_le _, hj⟩] at this
    rw [show cs.length - (t.length + 1) = (cs.length - (t.length + 1 + 1)) + 1 by omega]
    have e : sm (fun j => ent w j g) (t.length + 1) (cs.length - (t.length + 1 + 1) + 1) = ent w (t.length + 1) g + sm (fun j => ent w j g) (t.length + 1 + 1) (cs.length - (t.length + 1 + 1)) := rfl
    omega
   ·rw [if_neg (by omega), show cs.length - (t.length + 1 + 1) = 0 by omega] at this
    rw [show cs.length - (t.length + 1) = 0 by omega]
    exact this
theorem ext_coin {cs : List T_claim} {nf : Nat} {t : List (List Int)} {row : List Int} {lv : Nat → Int} {need : Int} {w : List (List Int)} (hi : t.length < cs.length) (hr : row.length < nf) (n : Int) (hn : 0 ≤ n) (hp : 0 < n → (pay cs t.length).testBit row.length = true) :
  Ext cs nf t (row ++ [n]) (fun g => if g = row.length then lv g - n else lv g) (need - n) w ↔ Ext cs nf t row lv need w ∧ ent w t.length row.length = n := by
 have hl : (row ++ [n]).length = row.length + 1 := by simp
 constructor
 ·intro h
  have hen : ent w t.length row.length = n := by
   have := h.beg row.length (by rw [hl]; omega)
   rw [List.getElem?_concat_length] at this
   exact this
  refine ⟨⟨h.len, h.pre, h.rows, ?_, ?_, ?_, h.sum, ?_⟩, hen⟩
  ·intro f hf
   have := h.beg f (by rw [hl]; omega)
   rw [List.getElem?_append_left hf] at this
   exact this
  ·intro j f hj hf
   by_cases hc : j = t.length ∧ f = row.length
   ·obtain ⟨rfl, rfl⟩ := hc
    rw [hen]
    exact ⟨hn, hp⟩
   ·exact h.pos j f hj (fun q => by have := hf q; rw [hl]; omega)
  ·intro h1
   have := h.need h1
   rw [hl] at this
   rw [show nf - row.length = (nf - (row.length + 1)) + 1 by omega]
   have e : sm (ent w t.length) row.length (nf - (row.length + 1) + 1) = ent w t.length row.length + sm (ent w t.length) (row.length + 1) (nf - (row.length + 1)) := rfl
   omega
  ·intro g hg
   have := h.col g hg
   rw [hl] at this
   by_cases hgr : g = row.length
   ·subst hgr
    rw [if_neg (by omega), if_pos rfl] at this
    rw [if_pos ⟨Nat.le_refl _, hi⟩]
    omega
   ·rw [if_neg hgr] at this
    by_cases hlt : row.length < g
    ·rw [if_pos ⟨by omega, hi⟩] at this
     rw [if_pos ⟨by omega, hi⟩]
     exact this
    ·rw [if_neg (by omega)] at this
     rw [if_neg (by omega)]
     exact this
 ·rintro ⟨h, hen⟩
  refine ⟨h.len, h.pre, h.rows, ?_, ?_, ?_, h.sum, ?_⟩
  ·intro f hf
   rw [hl] at hf
   by_cases hfr : f < row.length
   ·rw [List.getElem?_append_left hfr]; exact h.beg f hfr
   ·have : f = row.length := by omega
    subst this
    rw [List.getElem?_concat_length]
    exact hen
  ·intro j f hj hf
   exact h.pos j f hj (fun q => by have := hf q; rw [hl] at this; omega)
  ·intro h1
   have := h.need h1
   rw [hl]
   rw [show nf - row.length = (nf - (row.length + 1)) + 1 by omega] at this
   have e : sm (ent w t.length) row.length (nf - (row.length + 1) + 1) = ent w t.length row.length + sm (ent w t.length) (row.length + 1) (nf - (row.length + 1)) := rfl
   omega
  ·intro g hg
   have := h.col g hg
   rw [hl]
   by_cases hgr : g = row.length
   ·subst hgr
    rw [if_pos ⟨Nat.le_refl _, hi⟩] at this
    rw [if_neg (by omega), if_pos rfl]
    omega
   ·rw [if_neg hgr]
    by_cases hlt : row.length < g
    ·rw [if_pos ⟨by omega, hi⟩] at this
     rw [if_pos ⟨by omega, hi⟩]
     exact this
    ·rw [if_neg (by omega)] at this
     rw [if_neg (by omega)]
     exact this
theorem ext_most {cs : List T_claim} {nf : Nat} {t : List (List Int)} {row : List Int} {lv : Nat → Int} {need : Int} {w : List (List Int)} (hi : t.length < cs.length) (hr : row.length < nf) (h : Ext cs nf t row lv need w) :
  0 ≤ ent w t.length row.length ∧ ent w t.length row.length ≤ need ∧ ent w t.length row.length ≤ lv row.length ∧ (0 < ent w t.length row.length → (pay cs t.length).testBit row.length = true) := by
 obtain ⟨h1, h2⟩ := h.pos t.length row.length (Nat.le_refl _) (fun _ => Nat.le_refl _)
 refine ⟨h1, ?_, ?_, h2⟩
 ·have := h.need hi
  rw [show nf - row.length = (nf - (row.length + 1)) + 1 by omega] at this
  have e : sm (ent w t.length) row.length (nf - (row.length + 1) + 1) = ent w t.length row.length + sm (ent w t.length) (row.length + 1) (nf - (row.length + 1)) := rfl
  have := sm_nonneg (h := ent w t.length) (a := row.length + 1) (n := nf - (row.length + 1)) (fun k k1 k2 => (h.pos t.length k (Nat.le_refl _) (fun _ => by omega)).1)
  omega
 ·have := h.col row.length hr
  rw [if_pos ⟨Nat.le_refl _, hi⟩] at this
  have := sm_nonneg (h := fun j => ent w j row.length) (a := t.length + 1) (n := cs.length - (t.length + 1)) (fun k k1 k2 => (h.pos k row.length (by omega) (fun q => by omega)).1)
  omega
end Go.Proofs.Ytfhapfljomgmnaa
end
section
namespace Go.Proofs.Ytfhapfljomgmnaa
open Go.RowKit

theorem letJ_gen {κ ρ : Type} (T : Option ρ → Prop) (K : κ) (f : κ → Option ρ) (h : ∀ k, k = K → T (f k)) : T (letJ K f) := h K rfl
def cw : Nat → Nat → Nat
 | 0, d => if d = 0 then 1 else 0
 | k + 1, d => ((List.range (d + 1)).map fun n => cw k (d - n)).sum
theorem cw_all : (List.range 4).all (fun k => (List.range 5).all fun d => decide (cw k d ≤ 15)) = true := by kernel_rfl
theorem cw_le {k d : Nat} (hk : k ≤ 3) (hd : d ≤ 4) : cw k d ≤ 15 := by
 have h1 := List.all_eq_true.1 (List.all_eq_true.1 cw_all k (by simp; omega)) d (by simp; omega)
 simpa using h1
theorem nsum_succ (g : Nat → Nat) (i : Nat) : ((List.range (i + 1)).map g).sum = ((List.range i).map g).sum + g i := by
 rw [List.range_succ, List.map_append, List.sum_append]
 simp
theorem nsum_mono (g : Nat → Nat) (a : Nat) : ∀ b, a ≤ b → ((List.range a).map g).sum ≤ ((List.range b).map g).sum
 | 0, h => by
  have : a = 0 := by omega
  subst this; exact Nat.le_refl _
 | b + 1, h => by
  by_cases he : a = b + 1
  ·rw [he]; exact Nat.le_refl _
  ·have := nsum_mono g a b (by omega)
   rw [nsum_succ]
   omega
theorem cw_zero : ∀ k, 1 ≤ cw k 0
 | 0 => Nat.le_refl _
 | k + 1 => by
  have := cw_zero k
  simp [cw]
  exact this
def lvOf (left : List Int) (g : Nat) : Int := left[g]?.getD 0
theorem lvOf_set {left : List Int} {f : Nat} {v : Int} (hf : f < left.length) : lvOf (left.set f v) = fun g => if g = f then v else lvOf left g := by
 funext g
 unfold lvOf
 rw [List.getElem?_set]
 by_cases h : g = f
 ·subst h
  rw [if_pos rfl, if_pos rfl, if_pos hf]
  rfl
 ·rw [if_neg (Ne.symm h), if_neg h]
structure Lst (cs : List T_claim) (E : List (List (List Int))) (P : List (List Int) → Prop) (n : Nat) : Prop where
 mem : ∀ w, w ∈ E ↔ P w
 len : E.length ≤ n
 last : ∀ w0, E.getLast? = some w0 → ∀ w' ∈ E, w' = w0 ∨ Less w' w0
theorem traces_p (L : T_Ledger) (c : Int) (nf : Nat) (cs : List T_claim) (hc : c ≤ 4) (h : GoodL 3 3 c L) (hcs : GoodC L cs) (hnf : L.Funds.length = nf) :
  ∀ (M : Nat) (t : List (List Int)) (row left : List Int) (need : Int) (out : List (List (List Int))), (cs.length - t.length) * 10 + (nf - row.length) + 70000 < M → t.length ≤ cs.length → (t.length = cs.length → row = [] ∧ need = 0) → row.length ≤ nf → left.length = nf → (∀ v ∈ left, 0 ≤ v ∧ v ≤ 8) → 0 ≤ need → need ≤ 4 → (∀ x ∈ t, x.length = nf) →
   out.length + cw (nf - row.length) need.toNat * 15 ^ (cs.length - t.length - 1) ≤ 65536 →
   ∃ E, p_bl9_tracesg M L t row left need out = some (out ++ E) ∧ Lst cs E (Ext cs nf t row (lvOf left) need) (cw (nf - row.length) need.toNat * 15 ^ (cs.length - t.length - 1))
 | 0, t, row, left, need, out, hM, _, _, _, _, _, _, _, _, _ => absurd hM (Nat.not_lt_zero _)
 | M + 1, t, row, left, need, out, hM, ht, hend, hrow, hleft, hlv, n0, n4, htx, hout => by
  have hcl := hcs.1
  have g1 := h.nf; have g2 := h.nb
  have IH := traces_p L c nf cs hc h hcs hnf M
  have hlv0 : ∀ g, 0 ≤ lvOf left g := fun g => by
   unfold lvOf
   cases hx : left[g]? with
   | none => exact Int.le_refl _
   | some v => exact (hlv v (List.mem_of_getElem? hx)).1
  rw [p_bl9_tracesg]
  by_cases hte : t.length = cs.length
  ·obtain ⟨rfl, rfl⟩ := hend hte
   rw [show ((((t.length : Nat) : Int) == ((L.Bills.length : Nat) : Int)) : Bool) = true from by simp; omega, cond_true]
   have hz := cw_zero nf
   have hp1 : 1 ≤ 15 ^ (cs.length - t.length - 1) := Nat.pos_of_ne_zero (by simp)
   have hb1 : 1 ≤ cw (nf - ([] : List Int).length) (0 : Int).toNat * 15 ^ (cs.length - t.length - 1) := Nat.mul_le_mul hz hp1
   rw [pushI_ok (by simp; omega), Option.bind_some]
   refine ⟨[t], rfl, ⟨fun w => ?_, by simpa using hb1, fun w0 hw w' hw' => ?_⟩⟩
   ·rw [List.mem_singleton]
    constructor
    ·rintro rfl
     refine ⟨hte, fun _ _ => rfl, fun j hj => ⟨_, List.getElem?_eq_getElem (by omega), htx _ (List.getElem_mem _)⟩, fun f hf => absurd hf (Nat.not_lt_zero _), fun j f hj _ => ?_, fun q => by omega, fun j hj hj2 => by omega, fun g hg => ?_⟩
     ·rw [ent_out (nf := nf) fun x hx => by have := (List.getElem?_eq_some_iff.1 hx).1; omega]
      exact ⟨Int.le_refl _, fun q => by omega⟩
     ·rw [if_neg (by omega), show cs.length - (w.length + 1) = 0 by omega]
      exact hlv0 g
    ·intro hw
     refine List.ext_getElem? fun j => ?_
     by_cases hj : j < t.length
     ·exact hw.pre j hj
     ·rw [List.getElem?_eq_none (by have := hw.len; omega), List.getElem?_eq_none (by omega)]
   ·simp at hw hw'
    exact .inl (by rw [hw', hw])
  ·have hti : t.length < cs.length := by omega
   rw [show ((((t.length : Nat) : Int) == ((L.Bills.length : Nat) : Int)) : Bool) = false from by simp; omega, cond_false]
   have hB : L.Bills[t.length]? = some L.Bills[t.length] := List.getElem?_eq_getElem (by omega)
   by_cases hrf : row.length = nf
   ·rw [show ((((row.length : Nat) : Int) == ((L.Funds.length : Nat) : Int)) : Bool) = true from by simp; omega, cond_true]
    by_cases hn : need > 0
    ·rw [decide_eq_true hn, cond_true]
     refine ⟨[], by simp, ⟨fun w => ?_, Nat.zero_le _, fun w0 hw => by simp at hw⟩⟩
     simp only [List.not_mem_nil, false_iff]
     intro hw
     have := hw.need hti
     rw [hrf, Nat.sub_self] at this
     have : (0 : Int) = need := this
     omega
    ·obtain rfl : need = 0 := by omega
     rw [show decide ((0 : Int) > 0) = false from rfl, cond_false]
     refine letJ_gen (fun z => ∃ E, z = some (out ++ E) ∧ Lst cs E (Ext cs nf t row (lvOf left) 0) (cw (nf - row.length) (0 : Int).toNat * 15 ^ (cs.length - t.length - 1))) _ _ (fun k hk => ?_)
     have hls := lists_t M t (by omega) (fun x hx => by rw [htx x hx]; omega) (by omega)
     have hgo : ∀ next, next = (if t.length + 1 < cs.length then amt cs (t.length + 1) else 0) → ∃ E, k next = some (out ++ E) ∧ Lst cs E (Ext cs nf t row (lvOf left) 0) (cw (nf - row.length) (0 : Int).toNat * 15 ^ (cs.length - t.length - 1)) := by
      intro next hnext
      rw [hk]
      dsimp only
      rw [hls, Option.bind_some, pushI_ok (by simp; omega), Option.bind_some]
      have hnb : 0 ≤ next ∧ next ≤ 4 := by
       rw [hnext]
       split
       ·rename_i hlt
        have hB2 : L.Bills[t.length + 1]? = some L.Bills[t.length + 1] := List.getElem?_eq_getElem (by omega)
        rw [amtAt h hcs hB2]
        have := h.bill _ (List.getElem_mem (show t.length + 1 < L.Bills.length by omega))
        obtain ⟨_, _, _, _, q1, q2⟩ := this
        omega
       ·omega
      have hbd : cw (nf - ([] : List Int).length) next.toNat * 15 ^ (cs.length - (t ++ [row]).length - 1) ≤ cw (nf - row.length) (0 : Int).toNat * 15 ^ (cs.length - t.length - 1) := by
       rw [hrf, Nat.sub_self]
       show cw (nf - 0) next.toNat * _ ≤ 1 * _
       rw [Nat.one_mul]
       have hl : (t ++ [row]).length = t.length + 1 := by simp
       rw [hl]
       by_cases hlt : t.length + 1 < cs.length
       ·rw [show cs.length - t.length - 1 = (cs.length - (t.length + 1) - 1) + 1 by omega, Nat.pow_succ, Nat.mul_comm]
        exact Nat.mul_le_mul_left _ (cw_le (by omega) (by omega))
       ·rw [if_neg hlt] at hnext
        subst hnext
        rw [show cs.length - (t.length + 1) - 1 = 0 by omega, show cs.length - t.length - 1 = 0 by omega]
        have : nf ≤ 3 := by omega
        match nf, this with
        | 0, _ => decide
        | 1, _ => decide
        | 2, _ => decide
        | 3, _ => decide
      obtain ⟨E, e1, e2⟩ := IH (t ++ [row]) [] left next out (by simp; omega) (by simp; omega) (fun q => ⟨rfl, by rw [hnext, if_neg (by simp at q; omega)]⟩) (Nat.zero_le _) hleft hlv hnb.1 hnb.2 (fun x hx => by
       rcases List.mem_append.1 hx with hx | hx
       ·exact htx x hx
       ·rw [List.mem_singleton.1 hx]; exact hrf) (by omega)
      refine ⟨E, by rw [e1]; rfl, ⟨fun w => ?_, Nat.le_trans e2.len hbd, e2.last⟩⟩
      rw [e2.mem, hnext]
      exact (ext_row hti hrf).symm
     rw [nadd1 _ (by omega)]
     by_cases hlt : t.length + 1 < cs.length
     ·have hB2 : L.Bills[t.length + 1]? = some L.Bills[t.length + 1] := List.getElem?_eq_getElem (by omega)
      rw [show decide (((t.length + 1 : Nat) : Int) < ((L.Bills.length : Nat) : Int)) = true from decide_eq_true (by omega), cond_true, getD_at hB2, Option.bind_some]
      exact hgo _ (by rw [if_pos hlt, amtAt h hcs hB2])
     ·rw [show decide (((t.length + 1 : Nat) : Int) < ((L.Bills.length : Nat) : Int)) = false from decide_eq_false (by omega), cond_false]
      exact hgo _ (by rw [if_neg hlt])
   ·have hrl : row.length < nf := by omega
    rw [show ((((row.length : Nat) : Int) == ((L.Funds.length : Nat) : Int)) : Bool) = false from by simp; omega, cond_false]
    have hF : L.Funds[row.length]? = some L.Funds[row.length] := List.getElem?_eq_getElem (by omega)
    have hgF := h.fund _ (List.getElem_mem (show row.length < L.Funds.length by omega))
    have hx : left[row.length]? = some left[row.length] := List.getElem?_eq_getElem (by omega)
    have hlf : lvOf left row.length = left[row.length] := by unfold lvOf; rw [hx]; rfl
    have hxb := hlv _ (List.getElem_mem (show row.length < left.length by omega))
    generalize hxv : left[row.length] = x at hx hlf hxb
    have hbit : (pay cs t.length).testBit row.length = true ↔ can L.Funds[row.length] L.Bills[t.length] = true := by
     obtain ⟨y, e, _, q, x1, x2, x3⟩ := hcs.2 t.length _ hB
     have : pay cs t.length = q := by unfold pay; rw [e]; simp [x1]
     rw [this, x3]
     constructor
     ·rintro ⟨F', e1, e2⟩
      rw [hF] at e1
      injection e1 with e1
      rw [e1]
      exact e2
     ·intro q
      exact ⟨_, hF, q⟩
    obtain ⟨k, hkk⟩ : ∃ k, nf - row.length = k + 1 := ⟨nf - row.length - 1, by omega⟩
    obtain ⟨P, hP⟩ : ∃ P, 15 ^ (cs.length - t.length - 1) = P := ⟨_, rfl⟩
    rw [hkk, hP] at hout ⊢
    refine letJ_gen (fun z => ∃ E, z = some (out ++ E) ∧ Lst cs E (Ext cs nf t row (lvOf left) need) (cw (k + 1) need.toNat * P)) _ _ (fun K hK => ?_)
    have hgo : ∀ most : Int, 0 ≤ most → most ≤ need → most ≤ x → (0 < most → (pay cs t.length).testBit row.length = true) → (∀ n : Int, n ≤ need → n ≤ x → (0 < n → (pay cs t.length).testBit row.length = true) → n ≤ most) → ∃ E, K most = some (out ++ E) ∧ Lst cs E (Ext cs nf t row (lvOf left) need) (cw (k + 1) need.toNat * P) := by
     intro most m0 m1 m2 m3 m4
     rw [hK]
     dsimp only
     rw [letJ_eq]
     refine loop2_T (fun z => ∃ E, z = some (out ++ E) ∧ Lst cs E (Ext cs nf t row (lvOf left) need) (cw (k + 1) need.toNat * P)) (fun out2 n => ∃ (m : Nat) (F : List (List (List Int))), n = (m : Int) ∧ (m : Int) ≤ most + 1 ∧ out2 = out ++ F ∧ Lst cs F (fun w => Ext cs nf t row (lvOf left) need w ∧ ent w t.length row.length < (m : Int)) (((List.range m).map fun n => cw k (need.toNat - n)).sum * P)) (fun _ n => 100 - n.toNat) ?_ M _ _ ⟨0, [], rfl, by omega, by simp, ⟨fun w => ?_, by simp, fun w0 hw => by simp at hw⟩⟩ (by omega)
     ·rintro rec out2 n ⟨m, F, rfl, hm, rfl, hF2⟩ ih
      by_cases hmm : (m : Int) ≤ most
      ·rw [decide_eq_true hmm, cond_true]
       have hcwk : ((List.range (m + 1)).map fun n => cw k (need.toNat - n)).sum ≤ cw (k + 1) need.toNat := nsum_mono (fun n => cw k (need.toNat - n)) (m + 1) (need.toNat + 1) (by omega)
       rw [nsum_succ] at hcwk
       have hmul : ((List.range m).map fun n => cw k (need.toNat - n)).sum * P + cw k (need.toNat - m) * P ≤ cw (k + 1) need.toNat * P := by
        rw [← Nat.add_mul]
        exact Nat.mul_le_mul_right _ hcwk
       have hFl := hF2.len
       simp only [ints_t M left (by omega), Option.bind_some, show idxI ((row.length : Nat) : Int) left.length = some () from by unfold idxI; rw [if_pos (by omega)], Int.toNat_natCast, hx, w64 (x := x - (m : Int)) (by omega) (by omega), setI_p left row.length _ (by omega), show lenI (left.set row.length (x - (m : Int))) left.length = some () from by unfold lenI; rw [if_pos (by simp)], ints_t M row (by omega), pushI_ok (l := row) (m := [(m : Int)]) (by simp; omega), w64 (x := need - (m : Int)) (by omega) (by omega), nadd1 m (by omega)]
       have hnm : (need - (m : Int)).toNat = need.toNat - m := by omega
       have hnk : nf - (row ++ [(m : Int)]).length = k := by simp; omega
       obtain ⟨E, e1, e2⟩ := IH t (row ++ [(m : Int)]) (left.set row.length (x - (m : Int))) (need - (m : Int)) (out ++ F) (by simp; omega) ht (fun q => absurd q hte) (by simp; omega) (by simp [hleft]) (fun v hv => by
        rcases List.mem_or_eq_of_mem_set hv with hv | hv
        ·exact hlv v hv
        ·subst hv; omega) (by omega) (by omega) htx (by rw [hnk, hnm, hP]; simp only [List.length_append]; omega)
       rw [e1, Option.bind_some]
       have hset : lvOf (left.set row.length (x - (m : Int))) = fun g => if g = row.length then lvOf left g - (m : Int) else lvOf left g := by
        rw [lvOf_set (by omega)]
        funext g
        by_cases hg : g = row.length
        ·rw [if_pos hg, if_pos hg, hg, hlf]
        ·rw [if_neg hg, if_neg hg]
       rw [hset] at e2
       have hco := fun w => ext_coin (cs := cs) (nf := nf) (t := t) (row := row) (lv := lvOf left) (need := need) (w := w) hti hrl (m : Int) (by omega) (fun q => m3 (by omega))
       refine ih _ _ ⟨m + 1, F ++ E, rfl, by omega, by simp, ⟨fun w => ?_, ?_, fun w0 hw w' hw' => ?_⟩⟩ (by omega)
       ·rw [List.mem_append, hF2.mem, e2.mem, hco w]
        constructor
        ·rintro (⟨q1, q2⟩ | ⟨q1, q2⟩)
         ·exact ⟨q1, by omega⟩
         ·exact ⟨q1, by omega⟩
        ·rintro ⟨q1, q2⟩
         by_cases hq : ent w t.length row.length < (m : Int)
         ·exact .inl ⟨q1, hq⟩
         ·exact .inr ⟨q1, by omega⟩
       ·have := e2.len
        rw [hnk, hnm, hP] at this
        rw [nsum_succ, Nat.add_mul, List.length_append]
        omega
       ·cases hE : E.getLast? with
        | none =>
         have hE0 : E = [] := List.getLast?_eq_none_iff.1 hE
         subst hE0
         rw [List.append_nil] at hw hw'
         exact hF2.last w0 hw w' hw'
        | some w1 =>
         rw [List.getLast?_append, hE] at hw
         have : w1 = w0 := by simpa using hw
         subst this
         rcases List.mem_append.1 hw' with hw' | hw'
         ·have k1 := (hF2.mem w').1 hw'
          have k2 := (hco w1).1 ((e2.mem w1).1 (List.mem_of_getLast? hE))
          refine .inr ⟨t.length, row.length, fun j g hjg => ext_pre k1.1 k2.1 j g hjg, ?_⟩
          rw [k2.2]
          exact k1.2
         ·exact e2.last w1 hE w' hw'
      ·rw [decide_eq_false hmm, cond_false]
       refine ⟨F, rfl, ⟨fun w => ?_, ?_, hF2.last⟩⟩
       ·rw [hF2.mem]
        refine ⟨fun q => q.1, fun q => ⟨q, ?_⟩⟩
        obtain ⟨k1, k2, k3, k4⟩ := ext_most hti hrl q
        rw [hlf] at k3
        have := m4 _ k2 k3 k4
        omega
       ·refine Nat.le_trans hF2.len (Nat.mul_le_mul_right _ ?_)
        exact nsum_mono (fun n => cw k (need.toNat - n)) m (need.toNat + 1) (by omega)
     ·simp only [List.not_mem_nil, false_iff]
      rintro ⟨q1, q2⟩
      have := (ext_most hti hrl q1).1
      omega
    rw [getD_at hF, Option.bind_some, getD_at hB, Option.bind_some, canRef_p M (by omega) c _ _ hgF, Option.bind_some]
    cases hq : can L.Funds[row.length] L.Bills[t.length] with
    | true =>
     have hb := hbit.2 hq
     rw [cond_true, getD_at hx, Option.bind_some]
     refine hgo _ ?_ ?_ ?_ (fun _ => hb) (fun n q1 q2 _ => ?_)
     ·split <;> omega
     ·split <;> omega
     ·split <;> omega
     ·split <;> omega
    | false =>
     have hb : ¬ (pay cs t.length).testBit row.length = true := fun q => by rw [hbit.1 q] at hq; cases hq
     rw [cond_false]
     refine hgo 0 (by omega) n0 hxb.1 (fun q => by omega) (fun n q1 q2 q3 => ?_)
     by_cases hn : 0 < n
     ·exact absurd (q3 hn) hb
     ·omega
end Go.Proofs.Ytfhapfljomgmnaa
end
section
namespace Go.Proofs.Ytfhapfljomgmnaa
open Go.RowKit

structure IsTr (cs : List T_claim) (nf : Nat) (p : T_V8_i64) (w : List (List Int)) : Prop where
 len : w.length = cs.length
 rows : ∀ j, j < cs.length → ∃ x, w[j]? = some x ∧ x.length = nf
 pos : ∀ j f, 0 ≤ ent w j f ∧ (0 < ent w j f → (pay cs j).testBit f = true)
 sum : ∀ j, j < cs.length → ((List.range nf).map (ent w j)).sum = amt cs j
 col : ∀ g, g < nf → ((List.range cs.length).map fun j => ent w j g).sum ≤ lft p g
def colS (cs : List T_claim) (w : List (List Int)) (f : Nat) : Int := ((List.range cs.length).map fun j => ent w j f).sum
theorem isTr_ext {cs : List T_claim} {nf : Nat} {p : T_V8_i64} {lv : Nat → Int} (hlv : ∀ g, g < nf → lv g = lft p g) (w : List (List Int)) : Ext cs nf [] [] lv (if 0 < cs.length then amt cs 0 else 0) w ↔ IsTr cs nf p w := by
 constructor
 ·intro h
  refine ⟨h.len, h.rows, fun j f => h.pos j f (Nat.zero_le _) (fun _ => Nat.zero_le _), fun j hj => ?_, fun g hg => ?_⟩
  ·rw [← sm_zero]
   by_cases hj0 : j = 0
   ·subst hj0
    have := h.need hj
    rw [if_pos hj] at this
    exact this
   ·exact h.sum j (by simp; omega) hj
  ·have := h.col g hg
   rw [hlv g hg] at this
   rw [← sm_zero]
   by_cases hc : 0 < cs.length
   ·rw [if_pos ⟨Nat.zero_le _, hc⟩] at this
    obtain ⟨m, hm⟩ : ∃ m, cs.length = m + 1 := ⟨cs.length - 1, by omega⟩
    rw [hm] at this ⊢
    have e : sm (fun j => ent w j g) 0 (m + 1) = ent w 0 g + sm (fun j => ent w j g) 1 m := rfl
    have e2 : sm (fun j => ent w j g) (([] : List (List Int)).length + 1) (m + 1 - (([] : List (List Int)).length + 1)) = sm (fun j => ent w j g) 1 m := rfl
    have e3 : ent w ([] : List (List Int)).length g = ent w 0 g := rfl
    omega
   ·rw [if_neg (fun q => hc q.2)] at this
    rw [show cs.length = 0 by omega] at this ⊢
    exact this
 ·intro h
  refine ⟨h.len, fun j hj => absurd hj (Nat.not_lt_zero _), h.rows, fun f hf => absurd hf (Nat.not_lt_zero _), fun j f _ _ => h.pos j f, fun hc => ?_, fun j _ hj => ?_, fun g hg => ?_⟩
  ·have hc0 : 0 < cs.length := hc
   rw [if_pos hc0]
   have := h.sum 0 hc0
   rw [← sm_zero] at this
   exact this
  ·rw [sm_zero]; exact h.sum j hj
  ·have := h.col g hg
   rw [← sm_zero] at this
   rw [hlv g hg]
   by_cases hc : 0 < cs.length
   ·rw [if_pos ⟨Nat.zero_le _, hc⟩]
    obtain ⟨m, hm⟩ : ∃ m, cs.length = m + 1 := ⟨cs.length - 1, by omega⟩
    rw [hm] at this ⊢
    have e : sm (fun j => ent w j g) 0 (m + 1) = ent w 0 g + sm (fun j => ent w j g) 1 m := rfl
    have e2 : sm (fun j => ent w j g) (([] : List (List Int)).length + 1) (m + 1 - (([] : List (List Int)).length + 1)) = sm (fun j => ent w j g) 1 m := rfl
    have e3 : ent w ([] : List (List Int)).length g = ent w 0 g := rfl
    omega
   ·rw [if_neg (fun q => hc q.2)]
    rw [show cs.length = 0 by omega] at this ⊢
    exact this
theorem all_p (N : Nat) (hN : 80000 < N) (L : T_Ledger) (c : Int) (cs : List T_claim) (p : T_V8_i64) (hc : c ≤ 4) (h : GoodL 3 3 c L) (hcs : GoodC L cs) (hp : ∀ f : Nat, f < 8 → p.l[f]? = some ((L.Funds[f]?.map (·.Amount)).getD 0)) : ∃ E, p_bl9_all N L = some E ∧ Lst cs E (IsTr cs L.Funds.length p) 3375 := by
 have g1 := h.nf; have g2 := h.nb
 have hcl := hcs.1
 unfold p_bl9_all
 refine letJ_gen (fun z => ∃ E, z = some E ∧ Lst cs E (IsTr cs L.Funds.length p) 3375) _ _ (fun K hK => ?_)
 refine invZ' L.Funds (fun z => ∃ E, z = some E ∧ Lst cs E (IsTr cs L.Funds.length p) 3375) (fun i (b : List Int) => b = (L.Funds.take i).map (·.Amount)) (by omega) (by simp) (fun rec b hb => ?_) (fun rec i F b hF hi hb ih => ?_)
 ·simp only [ltE, cond_false]
  rw [List.take_length] at hb
  rw [hK]
  dsimp only
  refine letJ_gen (fun z => ∃ E, z = some E ∧ Lst cs E (IsTr cs L.Funds.length p) 3375) _ _ (fun k hk => ?_)
  have hgo : ∀ first : Int, first = (if 0 < cs.length then amt cs 0 else 0) → ∃ E, k first = some E ∧ Lst cs E (IsTr cs L.Funds.length p) 3375 := by
   intro first hfirst
   rw [hk]
   dsimp only
   have hfb : 0 ≤ first ∧ first ≤ 4 := by
    rw [hfirst]
    split
    ·rename_i hlt
     have hB2 : L.Bills[0]? = some L.Bills[0] := List.getElem?_eq_getElem (by omega)
     rw [amtAt h hcs hB2]
     obtain ⟨_, _, _, _, q1, q2⟩ := h.bill _ (List.getElem_mem (show 0 < L.Bills.length by omega))
     omega
    ·omega
   have hbl : b.length = L.Funds.length := by rw [hb]; simp
   have hbd : cw (L.Funds.length - ([] : List Int).length) first.toNat * 15 ^ (cs.length - ([] : List (List Int)).length - 1) ≤ 3375 := by
    have k1 : cw (L.Funds.length - ([] : List Int).length) first.toNat ≤ 15 := cw_le (by simp; omega) (by omega)
    have k2 : 15 ^ (cs.length - ([] : List (List Int)).length - 1) ≤ 15 ^ 2 := Nat.pow_le_pow_right (by omega) (by simp; omega)
    exact Nat.le_trans (Nat.mul_le_mul k1 k2) (by decide)
   obtain ⟨E, e1, e2⟩ := traces_p L c L.Funds.length cs hc h hcs rfl N [] [] b first [] (by simp; omega) (Nat.zero_le _) (fun q => ⟨rfl, by rw [hfirst, if_neg (by simp at q; omega)]⟩) (Nat.zero_le _) hbl (fun v hv => by
    rw [hb] at hv
    obtain ⟨F, hF, rfl⟩ := List.mem_map.1 hv
    obtain ⟨_, _, _, _, q1, q2, _⟩ := h.fund F hF
    omega) hfb.1 hfb.2 (by simp) (by simp only [List.length_nil, Nat.zero_add] at hbd ⊢; omega)
   rw [e1, Option.bind_some]
   refine ⟨E, by simp, ⟨fun w => ?_, Nat.le_trans e2.len hbd, e2.last⟩⟩
   rw [e2.mem, hfirst]
   refine isTr_ext (fun g hg => ?_) w
   rw [lftAt hp (by omega)]
   unfold lvOf
   rw [hb, List.getElem?_map]
  by_cases hlt : 0 < L.Bills.length
  ·have hB2 : L.Bills[0]? = some L.Bills[0] := List.getElem?_eq_getElem hlt
   rw [show decide (((L.Bills.length : Nat) : Int) > 0) = true from decide_eq_true (by omega), cond_true, show getI L.Bills 0 = some L.Bills[0] from getD_at (i := 0) hB2, Option.bind_some]
   exact hgo _ (by rw [if_pos (by omega), amtAt h hcs hB2])
  ·rw [show decide (((L.Bills.length : Nat) : Int) > 0) = false from decide_eq_false (by omega), cond_false]
   exact hgo _ (by rw [if_neg (by omega)])
 ·have hbl : b.length = i := by rw [hb]; simp; omega
  simp only [ltD hi, cond_true, getD_at hF, Option.bind_some, nadd1 i (by omega)]
  rw [pushI_ok (by simp; omega), Option.bind_some]
  refine ih _ ?_
  rw [hb, List.take_add_one, hF, List.map_append]
  rfl

theorem ent_far {cs : List T_claim} {nf : Nat} {p : T_V8_i64} {w : List (List Int)} (h : IsTr cs nf p w) {j f : Nat} (hjf : cs.length ≤ j ∨ nf ≤ f) : ent w j f = 0 := by
 refine ent_out (nf := nf) fun x hx => ?_
 have hlt := (List.getElem?_eq_some_iff.1 hx).1
 rw [h.len] at hlt
 obtain ⟨y, y1, y2⟩ := h.rows j hlt
 rw [hx] at y1
 cases y1
 omega
theorem sum_swap (h : Nat → Nat → Int) (l m : List Nat) : (l.map fun j => (m.map fun f => h j f).sum).sum = (m.map fun f => (l.map fun j => h j f).sum).sum := by
 induction l with
 | nil => simp [sum_z0]
 | cons a l ih =>
  simp only [List.map_cons, List.sum_cons]
  rw [ih, ← sum_add]
theorem row8 {cs : List T_claim} {nf : Nat} {p : T_V8_i64} {w : List (List Int)} (h : IsTr cs nf p w) (hnf : nf ≤ 8) {j : Nat} (hj : j < cs.length) : ((List.range 8).map (ent w j)).sum = amt cs j := by
 rw [sum_range_ext (ent w j) nf (fun f hf => ent_far h (.inr hf)) 8 hnf]
 exact h.sum j hj
theorem col8 {cs : List T_claim} {nf : Nat} {p : T_V8_i64} {w : List (List Int)} (h : IsTr cs nf p w) (h8 : cs.length ≤ 8) (f : Nat) : ((List.range 8).map fun j => ent w j f).sum = colS cs w f :=
 sum_range_ext (fun j => ent w j f) cs.length (fun j hj => ent_far h (.inl hj)) 8 h8
theorem isTr_feas {cs : List T_claim} {nf : Nat} {p : T_V8_i64} {w : List (List Int)} (h : IsTr cs nf p w) (hnf : nf ≤ 8) (h8 : cs.length ≤ 8) (hl : SmallP p) : Feas cs 0 p := by
 intro T hT
 have e1 : A8 cs T = ((List.range 8).map fun j => ((List.range 8).map fun f => if T j then ent w j f else 0).sum).sum := by
  unfold A8 S8
  congr 1
  refine List.map_congr_left fun j hj => ?_
  cases hTj : T j with
  | true =>
   simp only [if_true]
   exact (row8 h hnf (hT j hTj).2).symm
  | false =>
   simp [sum_z0]
 rw [e1, sum_swap]
 unfold B8
 refine sum_le _ _ _ fun f hf => ?_
 rw [List.mem_range] at hf
 cases hq : pset cs T f with
 | true =>
  simp only [if_true]
  refine Int.le_trans (sum_le _ (fun j => ent w j f) _ fun j _ => ?_) ?_
  ·split
   ·exact Int.le_refl _
   ·exact (h.pos j f).1
  ·rw [col8 h h8]
   by_cases hfn : f < nf
   ·exact h.col f hfn
   ·have : colS cs w f = 0 := by
     unfold colS
     rw [List.map_congr_left (g := fun _ => (0 : Int)) fun j _ => ent_far h (.inr (by omega))]
     exact sum_z0 _
    rw [this]
    exact (hl f).1
 | false =>
  rw [if_neg (by simp)]
  have : ∀ j ∈ List.range 8, (if T j then ent w j f else 0) ≤ 0 := fun j hj => by
   rw [List.mem_range] at hj
   split
   ·rename_i hTj
    by_cases h0 : 0 < ent w j f
    ·have := pset_iff.2 ⟨j, hj, hTj, (h.pos j f).2 h0⟩
     rw [hq] at this; cases this
    ·omega
   ·exact Int.le_refl _
  have := sum_le (fun j => if T j then ent w j f else 0) (fun _ => 0) (List.range 8) this
  rw [sum_z0] at this
  exact this

end Go.Proofs.Ytfhapfljomgmnaa
end
