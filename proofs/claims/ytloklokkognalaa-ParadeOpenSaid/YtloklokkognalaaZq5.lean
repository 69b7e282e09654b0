/- Part 6 of what the law needs: own work, put together. -/
import Derived.ProofKit
import Derived.Test.YtloklokkognalaaRows
import Derived.Test.YtloklokkognalaaZq4
set_option linter.unusedVariables false
set_option linter.unusedSimpArgs false
set_option maxRecDepth 10000
set_option maxHeartbeats 4000000
section
namespace Go.Proofs.Ytloklokkognalaa
open Go.RowKit

theorem loop5_T {A0 B0 C0 D0 E0 ρ : Type} {body : (A0 → B0 → C0 → D0 → E0 → Option ρ) → A0 → B0 → C0 → D0 → E0 → Option ρ} (T : Option ρ → Prop) (P : A0 → B0 → C0 → D0 → E0 → Prop) (μ : A0 → Nat) (h : ∀ rec a b c d e, P a b c d e → (∀ a' b' c' d' e', P a' b' c' d' e' → μ a' < μ a → T (rec a' b' c' d' e')) → T (body rec a b c d e)) : ∀ (N : Nat) a b c d e, P a b c d e → μ a < N → T (loop5 body N a b c d e)
 | 0, _, _, _, _, _, _, hm => absurd hm (Nat.not_lt_zero _)
 | n + 1, a, b, c, d, e, hp, hm => h (loop5 body n) a b c d e hp fun a' b' c' d' e' hp' hm' => loop5_T T P μ h n a' b' c' d' e' hp' (by omega)
theorem any3 {r a b c : Int} (h : r ∈ [a, b, c]) : r = a ∨ r = b ∨ r = c := by simpa using h
theorem rulesOf_p (N : Nat) (hN : 1000 < N) (d : T_bk_Drum) : ∃ r d', p_bk_RulesOf N d = some (r, d') ∧ 0 ≤ r.Least ∧ r.Least ≤ r.Most ∧ r.Most ≤ 10000 ∧ 0 ≤ r.Gap ∧ r.Gap ≤ 1000 := by
 unfold p_bk_RulesOf
 obtain ⟨r2, d2, e, a2, _, b2⟩ := roll_p N d 60 (by omega)
 have b2 := b2 (by omega)
 rw [e, Option.bind_some]; clear e
 obtain ⟨r3, d3, e, a3, _, b3⟩ := roll_p N d2 400 (by omega)
 have b3 := b3 (by omega)
 rw [e, Option.bind_some]; clear e
 obtain ⟨r4, d4, e, m4⟩ := any_p N d3 [0, r2, r3] (by simp) (by simp)
 have m4 := any3 m4
 rw [e, Option.bind_some]; clear e
 obtain ⟨r5, d5, e, a5, _, b5⟩ := roll_p N d4 40 (by omega)
 have b5 := b5 (by omega)
 rw [e, Option.bind_some]; clear e
 obtain ⟨r6, d6, e, a6, _, b6⟩ := roll_p N d5 2000 (by omega)
 have b6 := b6 (by omega)
 rw [e, Option.bind_some]; clear e
 obtain ⟨r7, d7, e, m7⟩ := any_p N d6 [0, r5, r6] (by simp) (by simp)
 have m7 := any3 m7
 rw [e, Option.bind_some]; clear e
 obtain ⟨r8, d8, e, a8, _, b8⟩ := roll_p N d7 20 (by omega)
 have b8 := b8 (by omega)
 rw [e, Option.bind_some]; clear e
 obtain ⟨r9, d9, e, a9, _, b9⟩ := roll_p N d8 300 (by omega)
 have b9 := b9 (by omega)
 rw [e, Option.bind_some]; clear e
 obtain ⟨r10, d10, e, m10⟩ := any_p N d9 [0, r8, r9] (by simp) (by simp)
 have m10 := any3 m10
 rw [e, Option.bind_some]; clear e
 refine ⟨_, _, rfl, ?_, ?_, ?_, ?_, ?_⟩
 ·show 0 ≤ r4; omega
 ·show r4 ≤ IntKind.i64.wrap (r4 + r7); rw [w64 (by omega) (by omega)]; omega
 ·show IntKind.i64.wrap (r4 + r7) ≤ 10000; rw [w64 (by omega) (by omega)]; omega
 ·show 0 ≤ r10; omega
 ·show r10 ≤ 1000; omega
theorem checkRules_p (N : Nat) (r : T_Rules) (h : 0 ≤ r.Least ∧ r.Least ≤ r.Most ∧ r.Most ≤ 10000 ∧ 0 ≤ r.Gap ∧ r.Gap ≤ 1000) : p_parade_checkRules N r = some 0 := by
 unfold p_parade_checkRules
 rw [letJ_eq]
 rw [pw_p N r.Least 0 100000 (by omega) (by omega), Option.bind_some, Bool.not_true, cond_false, pw_p N r.Most 0 100000 (by omega) (by omega), Option.bind_some, Bool.not_true, cond_false, pw_p N r.Gap 0 20000 (by omega) (by omega), Option.bind_some, Bool.not_true]
 dsimp only
 rw [cond_false, show decide (r.Least > r.Most) = false from decide_eq_false (by omega), cond_false]
section
variable (N : Nat) (hN : 200000 < N) (s : T_School) (h : GoodWs s.Wings) (h8 : s.Wings.length ≤ 8) (h1 : 1 ≤ s.Wings.length) (r0 : 1 ≤ s.Route) (r1 : s.Route ≤ 2000) (st : List Int) (hl : st.length = s.Wings.length) (hs : ∀ k, k < st.length → 0 ≤ atI st k ∧ atI st k ≤ 20000) (hge : ∀ k, k < st.length → leastAt s.Wings st k ≤ atI st k)
include hN h h8 r0 r1 hl hs hge
theorem peaks : ∃ R G0 G1 : Nat → Int, ∀ i, i + 1 < s.Wings.length → Pks s st i (R i) (G0 i) (G1 i) ∧ p_parade_watchedPeak N s st ((i + 1 : Nat) : Int) 0 = some ⟨((i + 1 : Nat) : Int), R i, G0 i⟩ ∧ ∀ gap, p_parade_opens N s st ((i + 1 : Nat) : Int) gap = some (if G1 i > gap then 1 else if G0 i > gap then 3 else 2) := by
 have hc : ∀ i : Nat, ∃ z : Int × Int × Int, i + 1 < s.Wings.length → Pks s st i z.1 z.2.1 z.2.2 ∧ p_parade_watchedPeak N s st ((i + 1 : Nat) : Int) 0 = some ⟨((i + 1 : Nat) : Int), z.1, z.2.1⟩ ∧ ∀ gap, p_parade_opens N s st ((i + 1 : Nat) : Int) gap = some (if z.2.2 > gap then 1 else if z.2.1 > gap then 3 else 2) := by
  intro i
  by_cases hi : i + 1 < s.Wings.length
  ·obtain ⟨r, g0, g1, a, b, c⟩ := opens_p N hN s h h8 r0 r1 st hl hs hge i hi
   exact ⟨(r, g0, g1), fun _ => ⟨a, b, c⟩⟩
  ·exact ⟨(0, 0, 0), fun hh => absurd hh hi⟩
 obtain ⟨f, hf⟩ := Classical.axiomOfChoice hc
 exact ⟨fun i => (f i).1, fun i => (f i).2.1, fun i => (f i).2.2, hf⟩
include h1
theorem Opens_p (G0 G1 : Nat → Int) (r : T_Rules) (hr : 0 ≤ r.Least ∧ r.Least ≤ r.Most ∧ r.Most ≤ 10000 ∧ 0 ≤ r.Gap ∧ r.Gap ≤ 1000) (hG : ∀ i, i + 1 < s.Wings.length → ∀ gap, p_parade_opens N s st ((i + 1 : Nat) : Int) gap = some (if G1 i > gap then 1 else if G0 i > gap then 3 else 2)) : ∃ vs, p_parade_Opens N s st r = some (vs, 0) ∧ vs.length = s.Wings.length ∧ vs[0]? = some 2 ∧ ∀ i, i + 1 < s.Wings.length → vs[i + 1]? = some (if G1 i > r.Gap then 1 else if G0 i > r.Gap then 3 else 2) := by
 unfold p_parade_Opens
 rw [checkStarts_p N (by omega) s h h8 h1 r0 (by omega) st hl hs hge, Option.bind_some, bne_self_eq_false, cond_false, checkRules_p N r hr, Option.bind_some, bne_self_eq_false, cond_false, letJ_eq]
 refine loop2_T (fun (x : Option (List Int × Int)) => ∃ vs, x = some (vs, 0) ∧ vs.length = s.Wings.length ∧ vs[0]? = some 2 ∧ ∀ i, i + 1 < s.Wings.length → vs[i + 1]? = some (if G1 i > r.Gap then 1 else if G0 i > r.Gap then 3 else 2)) (fun vs w => ∃ j : Nat, w = ((j + 1 : Nat) : Int) ∧ j + 1 ≤ s.Wings.length ∧ vs.length = j + 1 ∧ vs[0]? = some 2 ∧ ∀ i, i < j → vs[i + 1]? = some (if G1 i > r.Gap then 1 else if G0 i > r.Gap then 3 else 2)) (fun _ w => s.Wings.length - w.toNat) ?_ N [2] 1 ⟨0, rfl, by omega, rfl, rfl, fun i hi => absurd hi (Nat.not_lt_zero _)⟩ (by simp; omega)
 rintro rec vs w ⟨j, rfl, hj, v1, v2, v3⟩ ih
 by_cases hlt : j + 1 < s.Wings.length
 ·rw [show decide (((j + 1 : Nat) : Int) < ((s.Wings.length : Nat) : Int)) = true from decide_eq_true (by omega), cond_true, hG j hlt, Option.bind_some, pushI_ok (by simp; omega), Option.bind_some, nadd1 (j + 1) (by omega)]
  refine ih _ _ ⟨j + 1, rfl, hlt, by simp; omega, by rw [List.getElem?_append_left (by omega)]; exact v2, fun i hi => ?_⟩ (by omega)
  by_cases he : i = j
  ·subst he
   rw [List.getElem?_append_right (by omega), v1, Nat.sub_self]
   rfl
  ·rw [List.getElem?_append_left (by omega)]
   exact v3 i (by omega)
 ·have : s.Wings.length = j + 1 := by omega
  rw [show decide (((j + 1 : Nat) : Int) < ((s.Wings.length : Nat) : Int)) = false from decide_eq_false (by omega), cond_false]
  exact ⟨vs, rfl, by omega, v2, fun i hi => v3 i (by omega)⟩
theorem Widest_p (R G0 : Nat → Int) (hG : ∀ i, i + 1 < s.Wings.length → p_parade_watchedPeak N s st ((i + 1 : Nat) : Int) 0 = some ⟨((i + 1 : Nat) : Int), R i, G0 i⟩ ∧ 0 ≤ G0 i) : ∃ w sec g, p_parade_Widest N s st = some (w, sec, g, 0) ∧ (w = -1 ∧ sec = -1 ∧ g = 0 ∧ (∀ k, k + 1 < s.Wings.length → G0 k ≤ 0) ∨ ∃ i, i + 1 < s.Wings.length ∧ w = ((i + 1 : Nat) : Int) ∧ sec = R i ∧ g = G0 i ∧ 0 < g ∧ ∀ k, k + 1 < s.Wings.length → G0 k ≤ g) := by
 unfold p_parade_Widest
 rw [checkStarts_p N (by omega) s h h8 h1 r0 (by omega) st hl hs hge, Option.bind_some, bne_self_eq_false, cond_false]
 unfold p_parade_widest
 rw [show p_parade_openings N s st = some (s, st) from rfl, Option.bind_some]
 have hb : ∃ (o : T_parade_opening) (b : Bool), p_parade_best_parade_opening_parade_openings_1rr_parade_widest_1 N s st = some (o, b) ∧ (b = false ∧ s.Wings.length = 1 ∨ b = true ∧ ∃ i, i + 1 < s.Wings.length ∧ o = ⟨((i + 1 : Nat) : Int), R i, G0 i⟩ ∧ ∀ k, k + 1 < s.Wings.length → G0 k ≤ G0 i) := by
  unfold p_parade_best_parade_opening_parade_openings_1rr_parade_widest_1
  simp only [letJ_eq]
  refine loop5_T (fun (x : Option (T_parade_opening × Bool)) => ∃ (o : T_parade_opening) (b : Bool), x = some (o, b) ∧ (b = false ∧ s.Wings.length = 1 ∨ b = true ∧ ∃ i, i + 1 < s.Wings.length ∧ o = ⟨((i + 1 : Nat) : Int), R i, G0 i⟩ ∧ ∀ k, k + 1 < s.Wings.length → G0 k ≤ G0 i)) (fun w a b c f => ∃ j : Nat, w = ((j + 1 : Nat) : Int) ∧ j + 1 ≤ s.Wings.length ∧ (f = false ∧ j = 0 ∨ f = true ∧ ∃ i, i < j ∧ a = ((i + 1 : Nat) : Int) ∧ b = R i ∧ c = G0 i ∧ ∀ k, k < j → G0 k ≤ G0 i)) (fun w => s.Wings.length - w.toNat) ?_ N 1 0 0 0 false ⟨0, rfl, by omega, .inl ⟨rfl, rfl⟩⟩ (by simp; omega)
  rintro rec w a b c f ⟨j, rfl, hj, hf⟩ ih
  by_cases hlt : j + 1 < s.Wings.length
  ·rw [show decide (((j + 1 : Nat) : Int) < ((s.Wings.length : Nat) : Int)) = true from decide_eq_true (by omega), cond_true, (hG j hlt).1, Option.bind_some, nadd1 (j + 1) (by omega)]
   rcases hf with ⟨rfl, rfl⟩ | ⟨rfl, i, hi, rfl, rfl, rfl, hk⟩
   ·rw [Bool.not_false, cond_true, cond_true]
    refine ih _ _ _ _ _ ⟨1, rfl, hlt, .inr ⟨rfl, 0, by omega, rfl, rfl, rfl, fun k hk => ?_⟩⟩ (by omega)
    rw [show k = 0 by omega]
    exact Int.le_refl _
   ·rw [Bool.not_true, cond_false, show p_parade_widest_1 N ⟨((j + 1 : Nat) : Int), R j, G0 j⟩ ⟨((i + 1 : Nat) : Int), R i, G0 i⟩ = some (decide (G0 j > G0 i)) from rfl, Option.bind_some]
    by_cases hg : G0 j > G0 i
    ·rw [decide_eq_true hg, cond_true]
     refine ih _ _ _ _ _ ⟨j + 1, rfl, hlt, .inr ⟨rfl, j, by omega, rfl, rfl, rfl, fun k hk' => ?_⟩⟩ (by omega)
     by_cases he : k = j
     ·rw [he]; exact Int.le_refl _
     ·have := hk k (by omega)
      omega
    ·rw [decide_eq_false hg, cond_false]
     refine ih _ _ _ _ _ ⟨j + 1, rfl, hlt, .inr ⟨rfl, i, by omega, rfl, rfl, rfl, fun k hk' => ?_⟩⟩ (by omega)
     by_cases he : k = j
     ·rw [he]; omega
     ·exact hk k (by omega)
  ·rw [show decide (((j + 1 : Nat) : Int) < ((s.Wings.length : Nat) : Int)) = false from decide_eq_false (by omega), cond_false]
   rcases hf with ⟨rfl, rfl⟩ | ⟨rfl, i, hi, rfl, rfl, rfl, hk⟩
   ·exact ⟨_, _, rfl, .inl ⟨rfl, by omega⟩⟩
   ·exact ⟨_, _, rfl, .inr ⟨rfl, i, by omega, rfl, fun k hk' => hk k (by omega)⟩⟩
 obtain ⟨o, b, eb, hb⟩ := hb
 rw [eb, Option.bind_some, letJ_eq]
 rcases hb with ⟨rfl, hn⟩ | ⟨rfl, i, hi, rfl, hk⟩
 ·exact ⟨-1, -1, 0, rfl, .inl ⟨rfl, rfl, rfl, fun k hk => by omega⟩⟩
 ·dsimp only
  rw [Bool.not_true, cond_false]
  by_cases hz : G0 i = 0
  ·rw [show (G0 i == 0) = true by rw [hz]; rfl]
   exact ⟨-1, -1, 0, rfl, .inl ⟨rfl, rfl, rfl, fun k hk' => by have := hk k hk'; omega⟩⟩
  ·rw [show (G0 i == 0) = false from beq_eq_false_iff_ne.2 hz]
   exact ⟨_, _, _, rfl, .inr ⟨i, hi, rfl, rfl, rfl, by have := (hG i hi).2; show 0 < G0 i; omega, hk⟩⟩
end
end Go.Proofs.Ytloklokkognalaa
end
section
namespace Go.Proofs.Ytloklokkognalaa
open Go.RowKit

theorem setL_p {α : Type} (l : List α) (i : Nat) (g : α → α) (h : i < l.length) : setI l (i : Int) g = some (l.set i (g l[i])) := by
 have hx : l[i]? = some l[i] := List.getElem?_eq_getElem h
 unfold setI
 rw [Int.toNat_natCast, hx]
 rfl
theorem ints_p (N : Nat) (l : List Int) (h : l.length ≤ 100) : p_bk_Ints N l = some l := by
 unfold p_bk_Ints
 rw [pushI_ok (by simp; omega), Option.bind_some]
 rfl
def InP (ws : List T_Wing) (i : Nat) (l : List Int) : Prop := l.length = i ∧ ∀ k, k < i → loW ws k ≤ atI l k ∧ atI l k ≤ hiW ws k
structure AllPc (ws : List T_Wing) (i : Nat) (all : List (List Int)) : Prop where
 ok : ∀ l ∈ all, InP ws i l
 every : ∀ l, InP ws i l → l ∈ all
 n : all.length ≤ 4 ^ i
theorem InP.app {ws : List T_Wing} {i : Nat} {l : List Int} (h : InP ws i l) {p : Int} (h0 : loW ws i ≤ p) (h1 : p ≤ hiW ws i) : InP ws (i + 1) (l ++ [p]) :=
 ⟨by rw [List.length_append, h.1]; rfl, fun k hk => by
  by_cases he : k = i
  ·subst he
   have e : atI (l ++ [p]) k = p := by rw [← h.1]; exact atI_end
   rw [e]
   exact ⟨h0, h1⟩
  ·rw [atI_app (by rw [h.1]; omega)]
   exact h.2 k (by omega)⟩
theorem InP.cut {ws : List T_Wing} {i : Nat} {l : List Int} (h : InP ws (i + 1) l) : ∃ l' p, l = l' ++ [p] ∧ InP ws i l' ∧ loW ws i ≤ p ∧ p ≤ hiW ws i := by
 have hne : l ≠ [] := fun he => by rw [he] at h; cases h.1
 have e := (List.dropLast_concat_getLast hne).symm
 have hl : l.dropLast.length = i := by rw [List.length_dropLast, h.1]; rfl
 refine ⟨l.dropLast, l.getLast hne, e, ⟨hl, fun k hk => ?_⟩, ?_⟩
 ·have := h.2 k (by omega)
  rw [e, atI_app (by omega)] at this
  exact this
 ·have := h.2 i (by omega)
  rw [e] at this
  have e2 : atI (l.dropLast ++ [l.getLast hne]) i = l.getLast hne := by
   have := @atI_end l.dropLast (l.getLast hne)
   rw [hl] at this
   exact this
  rw [e2] at this
  exact this
theorem all_p (N : Nat) (hN : 1000 < N) (ws : List T_Wing) (h : GoodWs ws) (n3 : ws.length ≤ 3) (h3 : ∀ k, k < ws.length → hiW ws k ≤ loW ws k + 3) (K : List (List Int) → Option Bool) (hK : ∀ all, AllPc ws ws.length all → K all = some true) :
  (loop2 (fun (rec_41 : List (List Int) → Int → Option Bool) (all_39 : List (List Int)) (i_40 : Int) => (bif (decide (i_40 < ((ws.length : Nat) : Int))) then (letJ (fun (next_45 : List (List Int)) => (rec_41 next_45 (IntKind.i64.wrap (i_40 + 1)))) (fun k_46 => (loop2 (fun rec_51 (next_49 : List (List Int)) (k_50 : Int) => (bif (decide (k_50 < ((all_39.length : Nat) : Int))) then ((getI ws i_40).bind fun x_55 => (letJ (fun (next_56 : List (List Int)) => (rec_51 next_56 (IntKind.i64.wrap (k_50 + 1)))) (fun k_57 => (loop2 (fun rec_62 (next_60 : List (List Int)) (p_61 : Int) => ((getI ws i_40).bind fun x_65 => (bif (decide (p_61 ≤ x_65.Pace.Hi)) then ((getI all_39 k_50).bind fun x_67 => ((p_bk_Ints N x_67).bind fun r_68 => ((pushI r_68 ([p_61] : List Int)).bind fun l_69 => ((pushI next_60 ([l_69] : List (List Int))).bind fun l_70 => (rec_62 l_70 (IntKind.i64.wrap (p_61 + 1))))))) else (k_57 next_60)))) N next_49 x_55.Pace.Lo)))) else (k_46 next_49))) N [] 0))) else (K all_39))) N [[]] 0) = some true := by
 refine loop2_T (fun r => r = some true) (fun all i => ∃ j : Nat, i = (j : Int) ∧ j ≤ ws.length ∧ AllPc ws j all) (fun _ i => ws.length - i.toNat) ?_ N [[]] 0 ⟨0, rfl, Nat.zero_le _, fun l hl => by
  have : l = [] := by simpa using hl
  subst this
  exact ⟨rfl, fun k hk => absurd hk (Nat.not_lt_zero _)⟩, fun l hl => by
  have := List.eq_nil_of_length_eq_zero hl.1
  simp [this], by simp⟩ (by simp; omega)
 rintro rec all i ⟨j, rfl, hj, hA⟩ ih
 by_cases hlt : j < ws.length
 ·have hW : ws[j]? = some ws[j] := List.getElem?_eq_getElem hlt
  have elo : loW ws j = ws[j].Pace.Lo := by unfold loW; rw [hW]; rfl
  have ehi : hiW ws j = ws[j].Pace.Hi := by unfold hiW; rw [hW]; rfl
  have hb := loW_bd h j
  have h3j := h3 j hlt
  have hn : all.length ≤ 16 := Nat.le_trans hA.n (Nat.pow_le_pow_right (by omega) (show j ≤ 2 by omega))
  rw [show decide ((j : Int) < ((ws.length : Nat) : Int)) = true from decide_eq_true (by omega), cond_true, letJ_eq]
  refine loop2_T (fun r => r = some true) (fun next k => ∃ m : Nat, k = (m : Int) ∧ m ≤ all.length ∧ next.length ≤ 4 * m ∧ (∀ x ∈ next, InP ws (j + 1) x) ∧ ∀ (q : Nat) l, q < m → all[q]? = some l → ∀ p, loW ws j ≤ p → p ≤ hiW ws j → l ++ [p] ∈ next) (fun _ k => all.length - k.toNat) ?_ N [] 0 ⟨0, rfl, Nat.zero_le _, Nat.zero_le _, by simp, fun q l hq => absurd hq (Nat.not_lt_zero _)⟩ (by simp; omega)
  rintro rec2 next k ⟨m, rfl, hm, hnl, hok, hev⟩ ih2
  by_cases hmt : m < all.length
  ·have hx : all[m]? = some all[m] := List.getElem?_eq_getElem hmt
   have hin := hA.ok _ (List.getElem_mem hmt)
   rw [show decide ((m : Int) < ((all.length : Nat) : Int)) = true from decide_eq_true (by omega), cond_true, getD_at hW, Option.bind_some, letJ_eq, ← elo]
   refine loop2_T (fun r => r = some true) (fun nx p => ∃ d : Nat, p = loW ws j + d ∧ p ≤ hiW ws j + 1 ∧ nx.length ≤ 4 * m + d ∧ (∀ x ∈ nx, InP ws (j + 1) x) ∧ (∀ (q : Nat) l, q < m → all[q]? = some l → ∀ p, loW ws j ≤ p → p ≤ hiW ws j → l ++ [p] ∈ nx) ∧ ∀ p', loW ws j ≤ p' → p' < p → all[m] ++ [p'] ∈ nx) (fun _ p => (hiW ws j + 1 - p).toNat) ?_ N next _ ⟨0, by omega, by omega, hnl, hok, hev, fun p' a b => by omega⟩ (by omega)
   rintro rec3 nx p ⟨d, hd, hp, c1, c2, c3, c4⟩ ih3
   rw [Option.bind_some, ← ehi]
   by_cases hpt : p ≤ hiW ws j
   ·rw [show decide (p ≤ hiW ws j) = true from decide_eq_true hpt, cond_true, getD_at hx, Option.bind_some, ints_p N _ (by rw [hin.1]; omega), Option.bind_some, pushI_ok (by simp [hin.1]; omega), Option.bind_some, pushI_ok (by simp; omega), Option.bind_some, w64 (x := p + 1) (by omega) (by omega)]
    refine ih3 _ _ ⟨d + 1, by omega, by omega, by simp; omega, fun x hx' => ?_, fun q l hq hl p0 a b => List.mem_append.2 (.inl (c3 q l hq hl p0 a b)), fun p' a b => ?_⟩ (by omega)
    ·rcases List.mem_append.1 hx' with hx' | hx'
     ·exact c2 x hx'
     ·have : x = all[m] ++ [p] := by simpa using hx'
      subst this
      exact hin.app (by omega) hpt
    ·by_cases he : p' = p
     ·subst he
      simp
     ·exact List.mem_append.2 (.inl (c4 p' a (by omega)))
   ·rw [show decide (p ≤ hiW ws j) = false from decide_eq_false hpt, cond_false, nadd1 m (by omega)]
    refine ih2 _ _ ⟨m + 1, rfl, hmt, by omega, c2, fun q l hq hl p0 a b => ?_⟩ (by omega)
    by_cases he : q = m
    ·subst he
     rw [hx] at hl
     cases hl
     exact c4 p0 a (by omega)
    ·exact c3 q l (by omega) hl p0 a b
  ·have : m = all.length := by omega
   subst this
   rw [show decide (((all.length : Nat) : Int) < ((all.length : Nat) : Int)) = false from decide_eq_false (by omega), cond_false, nadd1 j (by omega)]
   refine ih _ _ ⟨j + 1, rfl, hlt, ⟨hok, fun l hl => ?_, ?_⟩⟩ (by omega)
   ·obtain ⟨l', p, rfl, h1, h2, h3'⟩ := hl.cut
    obtain ⟨q, hq, he⟩ := List.getElem_of_mem (hA.every l' h1)
    exact hev q l' hq (by rw [List.getElem?_eq_getElem hq, he]) p h2 h3'
   ·have := hA.n
    rw [Nat.pow_succ]
    omega
 ·have : j = ws.length := by omega
  subst this
  rw [show decide (((ws.length : Nat) : Int) < ((ws.length : Nat) : Int)) = false from decide_eq_false (by omega), cond_false]
  exact hK all hA
end Go.Proofs.Ytloklokkognalaa
end
section
namespace Go.Proofs.Ytloklokkognalaa
open Go.RowKit

theorem gp_nn (ws : List T_Wing) (st pc : Nat → Int) (i : Nat) (t : Int) : 0 ≤ gp ws st pc i t := by
 rw [gp_pos]
 unfold pos
 split <;> omega
def listP (n : Nat) (f : Nat → Int) : List Int := (List.range n).map f
theorem listP_at {n k : Nat} (f : Nat → Int) (h : k < n) : atI (listP n f) k = f k := by
 unfold atI listP
 rw [List.getElem?_map, List.getElem?_range h]
 rfl
section
variable (s : T_School) (h : GoodWs s.Wings) (st : List Int) (hl : st.length = s.Wings.length) (hge : ∀ k, k < st.length → leastAt s.Wings st k ≤ atI st k) (m : Nat) (hm : m + 1 < s.Wings.length) (all : List (List Int)) (hA : AllPc s.Wings s.Wings.length all) {r0 g0 g1 : Int} (hP : Pks s st m r0 g0 g1)
include h hm hA
omit hm in
theorem wide_in : listP s.Wings.length (wideP s.Wings m) ∈ all := hA.every _ ⟨by simp [listP], fun k hk => by
 rw [listP_at _ hk]
 have := loW_bd h k
 unfold wideP
 split
 ·rename_i he; rw [he] at this ⊢; omega
 ·omega⟩
omit hm in
theorem narr_in : listP s.Wings.length (narrP s.Wings m) ∈ all := hA.every _ ⟨by simp [listP], fun k hk => by
 rw [listP_at _ hk]
 have := loW_bd h k
 unfold narrP
 split
 ·rename_i he; rw [he] at this ⊢; omega
 ·omega⟩
omit h hA in
theorem gp_list (f : Nat → Int) (t : Int) : gp s.Wings (atI st) (atI (listP s.Wings.length f)) m t = gp s.Wings (atI st) f m t := by
 have key : ∀ i, i < s.Wings.length → fr s.Wings (atI st) (atI (listP s.Wings.length f)) i t = fr s.Wings (atI st) f i t := by
  intro i
  induction i with
  | zero => intro hi; simp only [fr, ln]; rw [listP_at f hi]
  | succ i ih =>
   intro hi
   have hln : ln (atI st) (atI (listP s.Wings.length f)) (i + 1) t = ln (atI st) f (i + 1) t := by unfold ln; rw [listP_at f hi]
   rw [fr, fr, hln, ih (by omega)]
 unfold gp
 rw [key m (by omega), key (m + 1) hm]
include hl hge hP
omit h hP in
theorem gp_in (pc : List Int) (hpc : pc ∈ all) (t : Int) (t0 : atI st (m + 1) ≤ t) : gp s.Wings (atI st) (narrP s.Wings m) m t ≤ gp s.Wings (atI st) (atI pc) m t ∧ gp s.Wings (atI st) (atI pc) m t ≤ gp s.Wings (atI st) (wideP s.Wings m) m t := by
 have hin := (hA.ok pc hpc).2
 have hst : ∀ k, k ≤ m → atI st k ≤ t := fun k hk => by
  have := st_up s st hl hge (m + 1 - k) k (by omega)
  rw [show k + (m + 1 - k) = m + 1 by omega] at this
  omega
 have hm1 := hin (m + 1) hm
 refine ⟨gp_mono _ _ _ _ m t (fun k hk => ⟨?_, hst k hk⟩) ?_ t0, gp_mono _ _ _ _ m t (fun k hk => ⟨?_, hst k hk⟩) ?_ t0⟩
 ·have := hin k (by omega)
  unfold narrP
  rw [if_neg (by omega)]
  omega
 ·unfold narrP
  rw [if_pos rfl]
  omega
 ·have := hin k (by omega)
  unfold wideP
  rw [if_neg (by omega)]
  omega
 ·unfold wideP
  rw [if_pos rfl]
  omega
omit h in
theorem le_g0 (pc : List Int) (hpc : pc ∈ all) (t : Int) (t0 : atI st (m + 1) ≤ t) (t1 : t < till s.Wings st s.Route m) : gp s.Wings (atI st) (atI pc) m t ≤ g0 := by
 have := (hP.wide (by omega)).2.2.2 t t0 t1
 have := (gp_in s st hl hge m hm all hA pc hpc t t0).2
 omega
theorem some_iff (gap : Int) (hg : 0 ≤ gap) : (∃ pc ∈ all, ∃ t, atI st (m + 1) ≤ t ∧ t < till s.Wings st s.Route m ∧ gp s.Wings (atI st) (atI pc) m t > gap) ↔ g0 > gap := by
 constructor
 ·rintro ⟨pc, hpc, t, t0, t1, hh⟩
  have := le_g0 s st hl hge m hm all hA hP pc hpc t t0 t1
  omega
 ·intro hh
  by_cases hlt : atI st (m + 1) < till s.Wings st s.Route m
  ·obtain ⟨e, a, b, c⟩ := hP.wide hlt
   exact ⟨_, wide_in s h m all hA, r0, a, b, by rw [gp_list s st m hm]; omega⟩
  ·have := (hP.off (by omega)).1
   omega
theorem every_iff (gap : Int) (hg : 0 ≤ gap) : (∀ pc ∈ all, ∃ t, atI st (m + 1) ≤ t ∧ t < till s.Wings st s.Route m ∧ gp s.Wings (atI st) (atI pc) m t > gap) ↔ g1 > gap := by
 constructor
 ·intro hh
  obtain ⟨t, t0, t1, hg2⟩ := hh _ (narr_in s h m all hA)
  rw [gp_list s st m hm] at hg2
  obtain ⟨r1, _, _, _, hle⟩ := hP.narr (by omega)
  have := hle t t0 t1
  omega
 ·intro hh pc hpc
  by_cases hlt : atI st (m + 1) < till s.Wings st s.Route m
  ·obtain ⟨r1, e, a, b, _⟩ := hP.narr hlt
   exact ⟨r1, a, b, by have := (gp_in s st hl hge m hm all hA pc hpc r1 a).1; omega⟩
  ·have := (hP.off (by omega)).2
   omega
end
end Go.Proofs.Ytloklokkognalaa
end
section
namespace Go.Proofs.Ytloklokkognalaa
open Go.RowKit

theorem open_law (N : Nat) (hN : 300000 < N) (zs : List Int) (hz : zs.length < N) (hz2 : zs.length < 9223372036854775808) (ha : p_bl1_awake N = some true) : p_bl1_ParadeOpen N zs = some true := by
 unfold p_bl1_ParadeOpen
 obtain ⟨d, e⟩ := drumOf_p N zs hz hz2
 rw [e, Option.bind_some]; clear e
 obtain ⟨s0, d1, e, a1, a2, a3, a4, hg0⟩ := schoolOf_p N (by omega) d 3 (by omega) (by omega)
 rw [show p_bk_SchoolOf N d 3 = some (s0, d1) from e, Option.bind_some]; clear e
 try dsimp only
 refine letJ_gen (fun r => r = some true) _ _ fun K hK => ?_
 have hend : ∀ w : List T_Wing, w.length = s0.Wings.length → GoodWs w → (∀ k, k < w.length → hiW w k ≤ loW w k + 3) → K w = some true := by
  intro w hwl hg h3
  subst hK
  try dsimp only
  rw [show lenI w s0.Wings.length = some () from if_pos hwl, Option.bind_some]
  obtain ⟨s, hs⟩ : ∃ s : T_School, s = ⟨(if 200 < s0.Route then 200 else s0.Route), w⟩ := ⟨_, rfl⟩
  rw [← hs]
  have hsw : w = s.Wings := by rw [hs]
  have r0 : 1 ≤ s.Route := by rw [hs]; dsimp only; split <;> omega
  have r1 : s.Route ≤ 2000 := by rw [hs]; dsimp only; split <;> omega
  clear hs
  subst hsw
  have n3 : s.Wings.length ≤ 3 := by omega
  have h1 : 1 ≤ s.Wings.length := by omega
  have h8 : s.Wings.length ≤ 8 := by omega
  obtain ⟨st, d2, e, hl, hst⟩ := startsOf_p N (by omega) d1 s hg h8
  rw [e, Option.bind_some]; clear e
  try dsimp only
  obtain ⟨r, d3, e, hr⟩ := rulesOf_p N (by omega) d2
  rw [e, Option.bind_some]; clear e
  try dsimp only
  have hs20 : ∀ k, k < st.length → 0 ≤ atI st k ∧ atI st k ≤ 20000 := fun k hk => by
   have := hst.bd k hk
   omega
  have hge := hst.ge
  obtain ⟨R, G0, G1, hP⟩ := peaks N (by omega) s hg h8 r0 r1 st hl hs20 hge
  have g0n : ∀ i, i + 1 < s.Wings.length → 0 ≤ G0 i ∧ (0 < G0 i → atI st (i + 1) < till s.Wings st s.Route i) := fun i hi => by
   obtain ⟨p, _⟩ := hP i hi
   by_cases hlt : atI st (i + 1) < till s.Wings st s.Route i
   ·have := (p.wide hlt).1
    have := gp_nn s.Wings (atI st) (wideP s.Wings i) i (R i)
    exact ⟨by omega, fun _ => hlt⟩
   ·have := (p.off (by omega)).1
    exact ⟨by omega, fun _ => by omega⟩
  obtain ⟨vs, eO, v1, v2, v3⟩ := Opens_p N (by omega) s hg h8 h1 r0 r1 st hl hs20 hge G0 G1 r hr fun i hi => (hP i hi).2.2
  obtain ⟨wi, sec, gw, eW, hW⟩ := Widest_p N (by omega) s hg h8 h1 r0 r1 st hl hs20 hge R G0 fun i hi => ⟨(hP i hi).2.1, (g0n i hi).1⟩
  have hle : ∀ k, k + 1 < s.Wings.length → G0 k ≤ gw := fun k hk => by
   rcases hW with ⟨_, _, rfl, hh⟩ | ⟨i, _, _, _, _, _, hh⟩
   ·exact hh k hk
   ·exact hh k hk
  rw [eO, Option.bind_some, eW, Option.bind_some]
  try dsimp only
  refine letJ_gen (fun r => r = some true) _ _ fun K1 hK1 => ?_
  have hK1f : K1 false = some true := by
   subst hK1
   try dsimp only
   rw [cond_false]
   refine letJ_gen (fun r => r = some true) _ _ fun K2 hK2 => ?_
   have hend2 : ∀ all, AllPc s.Wings s.Wings.length all → K2 all = some true := by
    intro all hA
    have hall64 : all.length ≤ 64 := Nat.le_trans hA.n (Nat.pow_le_pow_right (show 0 < 4 by omega) n3)
    subst hK2
    try dsimp only
    refine letJ_gen (fun r => r = some true) _ _ fun K3 hK3 => ?_
    have hend3 : K3 true = some true := by
     subst hK3
     try dsimp only
     rw [cond_true, ha]
     rfl
    clear hK3
    try dsimp only
    rw [v1]
    refine loop2_T (fun r => r = some true) (fun met i => ∃ j : Nat, i = (j : Int) ∧ j ≤ s.Wings.length ∧ (wi = -1 → met = true) ∧ ∀ i0 : Nat, wi = ((i0 + 1 : Nat) : Int) → i0 + 1 < j → met = true) (fun _ i => s.Wings.length - i.toNat) ?_ N _ 0 ⟨0, rfl, Nat.zero_le _, fun hh => by rw [hh]; rfl, fun i0 _ hh => absurd hh (Nat.not_lt_zero _)⟩ (by simp; omega)
    rintro rec met i ⟨j, rfl, hj, m1, m2⟩ ih
    by_cases hlt : j < s.Wings.length
    ·rw [show decide ((j : Int) < ((s.Wings.length : Nat) : Int)) = true from decide_eq_true (by omega), cond_true]
     refine letJ_gen (fun r => r = some true) _ _ fun K4 hK4 => ?_
     have h4 : ∀ met' : Bool, (wi = -1 → met' = true) → (∀ i0 : Nat, wi = ((i0 + 1 : Nat) : Int) → i0 + 1 < j + 1 → met' = true) → K4 met' = some true := by
      intro met' q1 q2
      subst hK4
      try dsimp only
      rw [nadd1 j (by omega)]
      exact ih _ _ ⟨j + 1, rfl, hlt, q1, q2⟩ (by omega)
     clear hK4
     try dsimp only
     by_cases hj0 : j = 0
     ·subst hj0
      rw [show (((0 : Nat) : Int) == 0) = true from rfl, cond_true, show getI vs 0 = some 2 from by rw [show (0 : Int) = ((0 : Nat) : Int) from rfl, getI_nat]; exact v2, Option.bind_some, show ((2 : Int) != 2) = false from rfl, cond_false]
      exact h4 _ m1 fun i0 _ hh => by omega
     ·obtain ⟨m, rfl⟩ : ∃ m, j = m + 1 := ⟨j - 1, by omega⟩
      obtain ⟨p, _⟩ := hP m hlt
      have hsi := some_iff s hg st hl hge m hlt all hA p r.Gap hr.2.2.2.1
      have hei := every_iff s hg st hl hge m hlt all hA p r.Gap hr.2.2.2.1
      have hlg := le_g0 s st hl hge m hlt all hA p
      have hwi := wide_in s hg m all hA
      have hst1 := hs20 (m + 1) (by omega)
      have htb := till_bd s hg h8 r0 r1 st hl hs20 m hlt
      rw [show (((m + 1 : Nat) : Int) == 0) = false from beq_eq_false_iff_ne.2 (by omega), cond_false, watched_r N (by omega) s hg h8 r0 r1 st hl hs20 m hlt, Option.bind_some]
      refine letJ_gen (fun r => r = some true) _ _ fun K5 hK5 => ?_
      have h5 : ∀ (met' so ev : Bool), (met = true → met' = true) → (wi = ((m + 1 : Nat) : Int) → met' = true) → (so = true ↔ G0 m > r.Gap) → (ev = true ↔ G1 m > r.Gap) → K5 met' so ev = some true := by
       intro met' so ev q1 q2 q3 q4
       subst hK5
       try dsimp only
       refine letJ_gen (fun r => r = some true) _ _ fun K6 hK6 => ?_
       have h6 : K6 false = some true := by
        subst hK6
        try dsimp only
        rw [cond_false]
        refine h4 _ (fun hh => q1 (m1 hh)) fun i0 hh hi0 => ?_
        by_cases he : i0 = m
        ·subst he
         exact q2 hh
        ·exact q1 (m2 i0 hh (by omega))
       clear hK6
       try dsimp only
       have hgg : G1 m > r.Gap → G0 m > r.Gap := fun hh => hsi.1 (by
        obtain ⟨t, ht⟩ := (hei.2 hh) _ hwi
        exact ⟨_, hwi, t, ht⟩)
       rw [show getI vs ((m + 1 : Nat) : Int) = some (if G1 m > r.Gap then 1 else if G0 m > r.Gap then 3 else 2) from by rw [getI_nat]; exact v3 m hlt, Option.bind_some]
       by_cases a : G1 m > r.Gap
       ·have hso : so = true := q3.2 (hgg a)
        have hev : ev = true := q4.2 a
        subst hso hev
        rw [if_pos a]
        exact h6
       ·have hev : ev = false := by
         cases ev
         ·rfl
         ·exact absurd (q4.1 rfl) a
        subst hev
        rw [if_neg a]
        by_cases b : G0 m > r.Gap
        ·have hso : so = true := q3.2 b
         subst hso
         rw [if_pos b]
         exact h6
        ·have hso : so = false := by
          cases so
          ·rfl
          ·exact absurd (q3.1 rfl) b
         subst hso
         rw [if_neg b]
         exact h6
      clear hK5 h4 ih
      try dsimp only
      refine loop4_T (fun r => r = some true) (fun met' so ev k => ∃ q : Nat, k = (q : Int) ∧ q ≤ all.length ∧ (met = true → met' = true) ∧ (so = true ↔ ∃ pc ∈ all.take q, ∃ t, atI st (m + 1) ≤ t ∧ t < till s.Wings st s.Route m ∧ gp s.Wings (atI st) (atI pc) m t > r.Gap) ∧ (ev = true ↔ ∀ pc ∈ all.take q, ∃ t, atI st (m + 1) ≤ t ∧ t < till s.Wings st s.Route m ∧ gp s.Wings (atI st) (atI pc) m t > r.Gap) ∧ (wi = ((m + 1 : Nat) : Int) → listP s.Wings.length (wideP s.Wings m) ∈ all.take q → met' = true)) (fun _ _ _ k => all.length - k.toNat) ?_ N met false true 0 ⟨0, rfl, Nat.zero_le _, id, by simp, by simp, by simp⟩ (by have := Nat.le_trans hA.n (Nat.pow_le_pow_right (show 0 < 4 by omega) n3); simp; omega)
      rintro rec2 met2 so ev k ⟨q, rfl, hq, c1, c2, c3, c4⟩ ih2
      by_cases hqt : q < all.length
      ·have hx : all[q]? = some all[q] := List.getElem?_eq_getElem hqt
       have hmem := List.getElem_mem hqt
       have hin := hA.ok _ hmem
       have htk : all.take (q + 1) = all.take q ++ [all[q]] := List.take_succ_eq_append_getElem hqt
       rw [show decide ((q : Int) < ((all.length : Nat) : Int)) = true from decide_eq_true (by omega), cond_true]
       refine letJ_gen (fun r => r = some true) _ _ fun K7 hK7 => ?_
       have h7 : ∀ (met' so' ev' : Bool), (met = true → met' = true) → (so' = true ↔ ∃ pc ∈ all.take (q + 1), ∃ t, atI st (m + 1) ≤ t ∧ t < till s.Wings st s.Route m ∧ gp s.Wings (atI st) (atI pc) m t > r.Gap) → (ev' = true ↔ ∀ pc ∈ all.take (q + 1), ∃ t, atI st (m + 1) ≤ t ∧ t < till s.Wings st s.Route m ∧ gp s.Wings (atI st) (atI pc) m t > r.Gap) → (wi = ((m + 1 : Nat) : Int) → listP s.Wings.length (wideP s.Wings m) ∈ all.take (q + 1) → met' = true) → K7 met' so' ev' = some true := by
        intro met' so' ev' x1 x2 x3 x4
        subst hK7
        try dsimp only
        rw [nadd1 q (by omega)]
        exact ih2 _ _ _ _ ⟨q + 1, rfl, hqt, x1, x2, x3, x4⟩ (by omega)
       clear hK7
       try dsimp only
       refine letJ_gen (fun r => r = some true) _ _ fun K8 hK8 => ?_
       have h8' : ∀ (met' wd : Bool), (met2 = true → met' = true) → (wd = true ↔ ∃ t, atI st (m + 1) ≤ t ∧ t < till s.Wings st s.Route m ∧ gp s.Wings (atI st) (atI all[q]) m t > r.Gap) → (wi = ((m + 1 : Nat) : Int) → all[q] = listP s.Wings.length (wideP s.Wings m) → met' = true) → K8 met' wd = some true := by
        intro met' wd x1 x2 x3
        subst hK8
        try dsimp only
        have hgo : ∀ so' ev' : Bool, so' = (so || wd) → ev' = (ev && wd) → K7 met' so' ev' = some true := by
         intro so' ev' y1 y2
         refine h7 _ _ _ (fun hh => x1 (c1 hh)) ?_ ?_ ?_
         ·rw [y1, Bool.or_eq_true, c2, x2, htk]
          constructor
          ·rintro (⟨pc, hpc, hh⟩ | hh)
           ·exact ⟨pc, List.mem_append.2 (.inl hpc), hh⟩
           ·exact ⟨all[q], List.mem_append.2 (.inr (List.mem_singleton.2 rfl)), hh⟩
          ·rintro ⟨pc, hpc, hh⟩
           rcases List.mem_append.1 hpc with hpc | hpc
           ·exact .inl ⟨pc, hpc, hh⟩
           ·have : pc = all[q] := by simpa using hpc
            subst this
            exact .inr hh
         ·rw [y2, Bool.and_eq_true, c3, x2, htk]
          constructor
          ·rintro ⟨z1, z2⟩ pc hpc
           rcases List.mem_append.1 hpc with hpc | hpc
           ·exact z1 pc hpc
           ·have : pc = all[q] := by simpa using hpc
            subst this
            exact z2
          ·intro z
           exact ⟨fun pc hpc => z pc (List.mem_append.2 (.inl hpc)), z _ (List.mem_append.2 (.inr (List.mem_singleton.2 rfl)))⟩
         ·intro hh hmm
          rw [htk] at hmm
          rcases List.mem_append.1 hmm with hmm | hmm
          ·exact x1 (c4 hh hmm)
          ·exact x3 hh (List.mem_singleton.1 hmm).symm
        cases so <;> cases ev <;> simp only [cond_true, cond_false] <;> exact hgo _ _ (by simp) (by simp)
       clear hK8 h7 ih2
       try dsimp only
       refine loop3_T (fun r => r = some true) (fun met' wd t => atI st (m + 1) ≤ t ∧ (met2 = true → met' = true) ∧ (wd = true ↔ ∃ t', atI st (m + 1) ≤ t' ∧ t' < t ∧ t' < till s.Wings st s.Route m ∧ gp s.Wings (atI st) (atI all[q]) m t' > r.Gap) ∧ (wi = ((m + 1 : Nat) : Int) → all[q] = listP s.Wings.length (wideP s.Wings m) → sec < t → met' = true)) (fun _ _ t => (till s.Wings st s.Route m - t).toNat) ?_ N met2 false (atI st (m + 1)) ⟨Int.le_refl _, id, by simp; intro a b c; omega, fun hh _ hsec => by
        rcases hW with ⟨h0, _⟩ | ⟨i, hi, e1, e2, e3, e4, _⟩
        ·omega
        ·obtain rfl : i = m := by omega
         have := (p.wide ((g0n i hi).2 (by omega))).2.1
         omega⟩ (by omega)
       rintro rec3 met3 wd t ⟨b0, b1, b2, b3⟩ ih3
       by_cases htt : t < till s.Wings st s.Route m
       ·have hgt0 := gp_nn s.Wings (atI st) (atI all[q]) m t
        have hgt1 := hlg _ hmem t b0 htt
        have hgt2 := hle m hlt
        have hpc : ∀ k, k ≤ m + 1 → (0 ≤ atI st k ∧ atI st k ≤ 20000) ∧ 1 ≤ atI all[q] k ∧ atI all[q] k ≤ 200 := fun k hk => ⟨hs20 k (by omega), by
         have := hin.2 k (by omega)
         have := loW_bd hg k
         omega⟩
        have hWm : s.Wings[m]? = some s.Wings[m] := List.getElem?_eq_getElem (by omega)
        have hlw : lenW s.Wings m = s.Wings[m].Length := by unfold lenW; rw [hWm]; rfl
        have fb1 := fr_bd hg (t := t) ⟨by omega, by omega⟩ m fun k hk => hpc k (by omega)
        have fb2 := fr_bd hg (t := t) ⟨by omega, by omega⟩ (m + 1) hpc
        have lwb := lenW_bd hg m
        have f1 := front_r N (by omega) s hg h8 st all[q] m (by omega) (by omega) (by rw [hin.1]; omega) (fun k hk => hpc k (by omega)) t ⟨by omega, by omega⟩
        have f2 := front_r N (by omega) s hg h8 st all[q] (m + 1) (by omega) (by omega) (by rw [hin.1]; omega) hpc t ⟨by omega, by omega⟩
        have hv : IntKind.i64.wrap (IntKind.i64.wrap (fr s.Wings (atI st) (atI all[q]) m t - lenW s.Wings m) - fr s.Wings (atI st) (atI all[q]) (m + 1) t) = gp s.Wings (atI st) (atI all[q]) m t := by
         rw [w64 (x := fr s.Wings (atI st) (atI all[q]) m t - lenW s.Wings m) (by omega) (by omega), w64 (by omega) (by omega)]
         rfl
        have hrec : ∀ met' wd' : Bool, met' = (met3 || (wi == ((m + 1 : Nat) : Int)) && ((t == sec) && (gp s.Wings (atI st) (atI all[q]) m t == gw))) → wd' = (wd || decide (gp s.Wings (atI st) (atI all[q]) m t > r.Gap)) → rec3 met' wd' (IntKind.i64.wrap (t + 1)) = some true := by
         intro met' wd' y1 y2
         rw [w64 (x := t + 1) (by omega) (by omega)]
         refine ih3 _ _ _ ⟨by omega, fun hh => by rw [y1, b1 hh]; rfl, ?_, fun hh hpq hsec => ?_⟩ (by omega)
         ·rw [y2, Bool.or_eq_true, b2, decide_eq_true_eq]
          constructor
          ·rintro (⟨t', z1, z2, z3, z4⟩ | hh)
           ·exact ⟨t', z1, by omega, z3, z4⟩
           ·exact ⟨t, b0, by omega, htt, hh⟩
          ·rintro ⟨t', z1, z2, z3, z4⟩
           by_cases he : t' = t
           ·subst he
            exact .inr z4
           ·exact .inl ⟨t', z1, by omega, z3, z4⟩
         ·by_cases he : sec < t
          ·rw [y1, b3 hh hpq he]
           rfl
          ·have hts : t = sec := by omega
           have hgg : gp s.Wings (atI st) (atI all[q]) m t = gw := by
            rcases hW with ⟨h0, _⟩ | ⟨i, hi, e1, e2, e3, e4, _⟩
            ·omega
            ·obtain rfl : i = m := by omega
             have := (p.wide ((g0n i hi).2 (by omega))).1
             rw [hpq, gp_list s st i hlt, hts, e2, e3]
             exact this.symm
           rw [y1, hh, hgg, hts, beq_self_eq_true, beq_self_eq_true, beq_self_eq_true]
           simp
        rw [show decide (t < till s.Wings st s.Route m) = true from decide_eq_true htt, cond_true, getD_at hx, Option.bind_some, w64 (x := ((m + 1 : Nat) : Int) - 1) (by omega) (by omega), show ((m + 1 : Nat) : Int) - 1 = (m : Int) by omega, f1, Option.bind_some, getD_at hWm, Option.bind_some, Option.bind_some, f2, Option.bind_some, ← hlw]
        simp only [letJ_eq, hv, show decide (gp s.Wings (atI st) (atI all[q]) m t > gw) = false from decide_eq_false (by omega), show decide (gp s.Wings (atI st) (atI all[q]) m t < 0) = false from decide_eq_false (by omega), cond_false]
        have hcomm : (((m + 1 : Nat) : Int) == wi) = (wi == ((m + 1 : Nat) : Int)) := by
         by_cases he : wi = ((m + 1 : Nat) : Int)
         ·rw [he]
         ·rw [beq_eq_false_iff_ne.2 he, beq_eq_false_iff_ne.2 (Ne.symm he)]
        simp only [hcomm]
        cases wd <;> cases met3 <;> cases hA1 : (wi == ((m + 1 : Nat) : Int)) <;> cases hA2 : (t == sec) <;> simp only [cond_true, cond_false] <;> exact hrec _ _ (by rw [hA1, hA2]; rfl) rfl
       ·rw [show decide (t < till s.Wings st s.Route m) = false from decide_eq_false htt, cond_false]
        refine h8' _ _ b1 ?_ fun hh hpq => b3 hh hpq ?_
        ·rw [b2]
         constructor
         ·rintro ⟨t', z1, z2, z3, z4⟩
          exact ⟨t', z1, z3, z4⟩
         ·rintro ⟨t', z1, z3, z4⟩
          exact ⟨t', z1, by omega, z3, z4⟩
        ·rcases hW with ⟨h0, _⟩ | ⟨i, hi, e1, e2, e3, e4, _⟩
         ·omega
         ·obtain rfl : i = m := by omega
          have := (p.wide ((g0n i hi).2 (by omega))).2.2.1
          omega
      ·have : q = all.length := by omega
       subst this
       rw [show decide (((all.length : Nat) : Int) < ((all.length : Nat) : Int)) = false from decide_eq_false (by omega), cond_false]
       rw [List.take_length] at c2 c3 c4
       exact h5 _ _ _ c1 (fun hh => c4 hh hwi) (c2.trans hsi) (c3.trans hei)
    ·have : j = s.Wings.length := by omega
     subst this
     rw [show decide (((s.Wings.length : Nat) : Int) < ((s.Wings.length : Nat) : Int)) = false from decide_eq_false (by omega), cond_false]
     have : met = true := by
      rcases hW with ⟨h0, _⟩ | ⟨i, hi, e1, _⟩
      ·exact m1 h0
      ·exact m2 i e1 hi
     rw [this]
     exact hend3
   clear hK2
   try dsimp only
   exact all_p N (by omega) s.Wings hg n3 h3 K2 hend2
  clear hK1
  try dsimp only
  rw [show ((0 : Int) != 0) = false from rfl, cond_false, v1, bne_self_eq_false, cond_false]
  rcases hW with ⟨rfl, rfl, rfl, _⟩ | ⟨i, hi, rfl, rfl, rfl, hpos, _⟩
  ·exact hK1f
  ·have hR : 0 ≤ R i := by
    have := ((hP i hi).1.wide ((g0n i hi).2 hpos)).2.1
    have := hs20 (i + 1) (by omega)
    omega
   rw [show (((i + 1 : Nat) : Int) == -1) = false from beq_eq_false_iff_ne.2 (by omega), show (G0 i == 0) = false from beq_eq_false_iff_ne.2 (by omega), show (R i == -1) = false from beq_eq_false_iff_ne.2 (by omega)]
   exact hK1f
 clear hK
 try dsimp only
 refine loop2_T (fun r => r = some true) (fun i w => ∃ j : Nat, i = (j : Int) ∧ j ≤ s0.Wings.length ∧ w.length = s0.Wings.length ∧ GoodWs w ∧ ∀ k, k < j → hiW w k ≤ loW w k + 3) (fun i _ => s0.Wings.length - i.toNat) ?_ N 0 s0.Wings ⟨0, rfl, Nat.zero_le _, rfl, hg0, fun k hk => absurd hk (Nat.not_lt_zero _)⟩ (by simp; omega)
 rintro rec i w ⟨j, rfl, hj, hwl, hg, h3⟩ ih
 by_cases hlt : j < s0.Wings.length
 ·have hjw : j < w.length := by omega
  have hx : w[j]? = some w[j] := List.getElem?_eq_getElem hjw
  have hgw := hg.wing j w[j] hx
  have q0 := hgw.1.l0; have q1 := hgw.1.l1; have q2 := hgw.1.p0; have q3 := hgw.1.p1; have q4 := hgw.1.p2
  have hix : idxI (j : Int) s0.Wings.length = some () := if_pos ⟨by omega, by omega⟩
  rw [show decide ((j : Int) < ((s0.Wings.length : Nat) : Int)) = true from decide_eq_true (by omega), cond_true, hix, Option.bind_some, Int.toNat_natCast, hx, Option.bind_some, Option.bind_some, Option.bind_some, Option.bind_some, setL_p w j _ hjw, Option.bind_some, nadd1 j (by omega), w64 (x := w[j].Pace.Lo + 3) (by omega) (by omega)]
  have hset : ∀ k (x : T_Wing), k ≠ j → (w.set j x)[k]? = w[k]? := fun k x hk => List.getElem?_set_ne (by omega)
  refine ih _ _ ⟨j + 1, rfl, hlt, by rw [List.length_set]; exact hwl, ⟨fun k x hk => ?_⟩, fun k hk => ?_⟩ (by omega)
  ·by_cases he : k = j
   ·subst he
    rw [List.getElem?_set_self hjw] at hk
    cases hk
    exact ⟨⟨q0, q1, q2, by dsimp only; split <;> omega, by dsimp only; split <;> omega⟩, hgw.2⟩
   ·rw [hset k _ he] at hk
    exact hg.wing k x hk
  ·by_cases he : k = j
   ·subst he
    unfold hiW loW
    rw [List.getElem?_set_self hjw]
    show (if _ < _ then _ else _) ≤ w[k].Pace.Lo + 3
    split <;> omega
   ·have := h3 k (by omega)
    unfold hiW loW at this ⊢
    rw [hset k _ he]
    exact this
 ·have : j = s0.Wings.length := by omega
  subst this
  rw [show decide (((s0.Wings.length : Nat) : Int) < ((s0.Wings.length : Nat) : Int)) = false from decide_eq_false (by omega), cond_false]
  exact hend w hwl hg fun k hk => h3 k (by omega)
theorem awake_o : p_bl1_awake 18446744073709551616 = some true := by kernel_rfl
theorem open_m (zs : List Int) (h : zs.length < 9223372036854775808) : Does Try.prog 4 [.sl (zs.map (AV.int .i64)) none] [] fun v _ => v = .bool true :=
 (d_bl1_ParadeOpen 18446744073709551616 zs true (open_law _ (by omega) zs (by omega) h awake_o)).mono fun v c h => h.1
end Go.Proofs.Ytloklokkognalaa
end
section
namespace Go.Proofs.Ytloklokkognalaa
open Go.RowKit Go.ChangeShapes Go.WideShapes Go.ChangeAt

def nums (zs : List Int) : AV := .sl (zs.map fun z => .int .i64 z) none
theorem prog_own : ownKnob Try.prog.godebug = none := by kernel_rfl
theorem prog_laid : laidOutB Try.prog = true := by kernel_rfl

namespace paradeOpen
set_option maxRecDepth 100000 in
theorem lifted (hM : ∀ zs : List Int, (∀ z ∈ zs, (Lit.int .i64 z).wf = true) → zs.length ≤ maxLen → Does Try.prog 4 [nums zs] [] fun v _ => v = .bool true) (os : Os) (started : os.Started) (H : Type) (enc : TypeId × Value → H) :
  ReturnsInHanded {} Try.checked os 4 .any (Rows.paradeOpenSpec.pre6 enc Try.prog Try.f4 Rows.paradeOpenRow.domain false) (Rows.paradeOpenSpec.post enc Try.prog Try.f4 false true false false) := by
 refine returnsInHanded_of_change (C := Try.checked) prog_own started (by kernel_rfl) Try.func4
  (ChangeSpec.witness6 (enc := enc) (C := Try.checked) false ⟨#[], #[.slice none 0 0], []⟩ 8 (by kernel_rfl) (by kernel_rfl) (by kernel_rfl) (by kernel_rfl)) ?_
 intro W base args ds gs before hval0 hW hcnd _
 have hval : ∀ (j : Nat) t v, Try.f4.params[j]? = some t → args[j]? = some v → Value.okWide Try.prog W .any base t v := hval0
 have hW' := hW
 obtain ⟨p, q, hA0, hV, rfl, hfz, hnd⟩ := hW
 have hA : DataW.TrodAll enc Try.prog W 0 (fun _ => true) true Try.f4.params.toList args.toList ds p := hA0
 rw [Try.params4] at hA hval
 obtain ⟨v0, vs0, d0, ds0, p0, q0, hargs, rfl, rfl, h0, r0⟩ := trodAll_cons hA
 obtain ⟨rfl, rfl, rfl⟩ := trodAll_nil r0
 obtain rfl : args = #[v0] := by cases args; simp_all
 obtain ⟨rfl, rfl⟩ := trodVars_none hV
 obtain ⟨a0, len0, cap0, rfl⟩ := okWide_slice Try.underlying27 (hval 0 27 v0 rfl rfl)
 have k0 := h0
 have lt0 : ∀ x ∈ p0, x.block < W.heap.size := by obtain ⟨m, hm⟩ := k0; exact DataW.trod_lt m _ _ _ hm
 obtain ⟨zs, hwf, hlen, hvr⟩ := ints_vr Try.underlying27 Try.underlying3 (by kernel_rfl) h0
 clear hA0 hval0
 refine ((hM zs hwf hlen).law (us := #[.slice a0 len0 cap0]) ⟨rfl, fun i x u hx hu => ?_⟩).mono fun e W' ⟨he, bel⟩ => ?_
 ·cases i with
  | zero => simp at hx hu; subst hx; subst hu; exact hvr
  | succ i => simp at hx
 subst he
 exact ⟨_, rfl, _, _, _, [], _, [], hW', trodAll_mk1 (shut_bool Try.underlying4 _), (trodAll_cons_mk (Below.trod prog_laid (by kernel_rfl) (of_decide_eq_true (by kernel_rfl)) k0 bel lt0) trodAll_mk0), rfl, bel.frame _, fun h => by cases h⟩

theorem frame (hM : ∀ zs : List Int, (∀ z ∈ zs, (Lit.int .i64 z).wf = true) → zs.length ≤ maxLen → Does Try.prog 4 [nums zs] [] fun v _ => v = .bool true) : Rows.ParadeOpenSaid :=
 OpenClaim.holds_of_wide 4 Try.f4 rfl rfl rfl rfl rfl rfl rfl ⟨rfl, rfl, rfl, rfl, rfl⟩ rfl rfl rfl rfl rfl (by kernel_rfl) Try.func4 (by kernel_rfl)
  (of_decide_eq_true (by kernel_rfl)) (by unfold Func.isWrapper; first | (rw [if_pos (by decide +kernel)]; kernel_rfl) | (rw [if_neg (by decide +kernel)]; exact ⟨rfl, rfl⟩))
  (fun os started H enc _ => lifted hM os started H enc)
end paradeOpen
end Go.Proofs.Ytloklokkognalaa
end
