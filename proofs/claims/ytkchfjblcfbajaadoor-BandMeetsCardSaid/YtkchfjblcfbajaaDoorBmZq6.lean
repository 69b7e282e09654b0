/- Part 7 of what the law needs: own work, put together. -/
import Derived.ProofKit
import Derived.LaidMore
import Derived.LaidLaws
import Derived.LaidHandle
import Derived.Lib.LaidTab
import Derived.Stop.LaidErr
import Derived.OpenShut
import Derived.Stop.Joined
import Derived.Test.YtkchfjblcfbajaaDoorRows
import Derived.Test.YtkchfjblcfbajaaDoorTie
import Derived.Test.YtkchfjblcfbajaaDoorCards
import Derived.SevenTiedAt
import Derived.Test.YtkchfjblcfbajaaDoorBmZq5
set_option linter.unusedVariables false
set_option linter.unusedSimpArgs false
set_option maxRecDepth 10000
set_option maxHeartbeats 4000000
section
namespace Go.Proofs.YtkchfjblcfbajaaDoor
open Go.RowKit
set_option maxHeartbeats 400000

theorem wdiv {x d : Int} (h0 : 0 ≤ x) (h1 : x ≤ 100000) (hd : 1 ≤ d) : IntKind.i64.wrap (Int.tdiv (IntKind.i64.wrap x) d) = x / d := by
 have := Int.ediv_le_self d h0
 have := Int.ediv_nonneg h0 (show 0 ≤ d by omega)
 rw [w64 (x := x) (by omega) (by omega), Int.tdiv_eq_ediv_of_nonneg h0, w64 (by omega) (by omega)]
theorem div_nat {x d : Int} (h0 : 0 ≤ x) (hd : 1 ≤ d) : ∃ k : Nat, x / d = (k : Int) := ⟨(x / d).toNat, by have := Int.ediv_nonneg h0 (show 0 ≤ d by omega); omega⟩
theorem crossed_c (N : Nat) (hN : 1000 < N) (c : T_City) (hc : GoodC c) (a b : T_band_tour) (ha : GoodT c a) (hb : GoodT c b) (m n : Int) (m0 : a.Band.Start.Lo ≤ m) (m1 : m ≤ a.Band.Start.Hi) (n0 : b.Band.Start.Lo ≤ n) (n1 : n ≤ b.Band.Start.Hi) : p_bl7_crossed N c a.Band b.Band m n = some (MB a b c.Break m n) := by
 unfold p_bl7_crossed
 rw [squaresF_c N hN c hc a.Band a.squares_ ha, Option.bind_some, squaresF_c N hN c hc b.Band b.squares_ hb, Option.bind_some]
 have hb0 := hc.b0; have hb1 := hc.b1
 have ya := ha.y0; have ya1 := ha.y1; have yb := hb.y0; have yb1 := hb.y1
 have a0 := ha.s0; have ae := ha.en; have am := ha.mul; have la := ha.wk.len; have pa := ha.pl
 have b0 := hb.s0; have be := hb.en; have bm := hb.mul; have lb := hb.wk.len; have pb := hb.pl
 have nza : nzI a.Band.Stay = some () := by unfold nzI; rw [if_neg (by omega)]
 have nzb : nzI b.Band.Stay = some () := by unfold nzI; rw [if_neg (by omega)]
 -- what a minute says
 let CP : Int → Prop := fun x => ∃ i k : Nat, 1 ≤ i ∧ i < a.squares_.length ∧ 1 ≤ k ∧ k < b.squares_.length ∧ stA a i = stA b k ∧ x = m + (i : Int) * a.Band.Stay ∧ x = n + (k : Int) * b.Band.Stay
 let CN : Int → Prop := fun x => ∃ y q, x - y ≤ c.Break ∧ y - x ≤ c.Break ∧ AtS a m x q ∧ AtS b n y q
 have hmb : MB a b c.Break m n = true ↔ ∃ x, CN x ∨ CP x := by
  rw [mb_iff ha hb c.Break m n hb0]
  constructor
  ·rintro (⟨x, y, q, h1, h2, h3, h4⟩ | ⟨i, k, h1, h2, h3, h4, h5, h6⟩)
   ·exact ⟨x, .inl ⟨y, q, h1, h2, h3, h4⟩⟩
   ·exact ⟨_, .inr ⟨i, k, h1, h2, h3, h4, h5, rfl, h6⟩⟩
  ·rintro ⟨x, ⟨y, q, h1, h2, h3, h4⟩ | ⟨i, k, h1, h2, h3, h4, h5, h6, h7⟩⟩
   ·exact .inl ⟨x, y, q, h1, h2, h3, h4⟩
   ·exact .inr ⟨i, k, h1, h2, h3, h4, h5, by omega⟩
 have bdA : ∀ x q, AtS a m x q → m ≤ x ∧ x < 720 := fun x q ⟨k, hk, h1, h2, _⟩ => by
  obtain ⟨e1, e2, e3, e4⟩ := ha.kmul k hk
  omega
 have bdB : ∀ x q, AtS b n x q → n ≤ x ∧ x < 720 := fun x q ⟨k, hk, h1, h2, _⟩ => by
  obtain ⟨e1, e2, e3, e4⟩ := hb.kmul k hk
  omega
 have bdP : ∀ x, CP x → m < x ∧ n < x ∧ x < 720 := fun x ⟨i, k, h1, h2, h3, h4, _, h6, h7⟩ => by
  obtain ⟨e1, e2, e3, e4⟩ := ha.kmul i h2
  obtain ⟨f1, f2, f3, f4⟩ := hb.kmul k h4
  have g1 : 1 * a.Band.Stay ≤ (i : Int) * a.Band.Stay := Int.mul_le_mul_of_nonneg_right (by omega) (by omega)
  have g2 : 1 * b.Band.Stay ≤ (k : Int) * b.Band.Stay := Int.mul_le_mul_of_nonneg_right (by omega) (by omega)
  omega
 let T : Option Bool → Prop := fun x => x = some (MB a b c.Break m n)
 show T _
 refine letJ_gen T _ _ (fun K1 hK1 => ?_)
 refine loop1_T T (fun x => 0 ≤ x ∧ x ≤ 720 ∧ ∀ z, 0 ≤ z → z < x → ¬ (CN z ∨ CP z)) (fun x => (720 - x).toNat) ?_ N 0 ⟨Int.le_refl _, by omega, fun z h1 h2 => by omega⟩ (by omega)
 rintro rec x ⟨x0, x1, hno⟩ ih
 by_cases hx : x < 720
 ·rw [dT hx, cond_true]
  refine letJ_gen T _ _ (fun K2 hK2 => ?_)
  have next : ¬ (CN x ∨ CP x) → T (K2 ()) := fun h => by
   rw [hK2, w64 (x := x + 1) (by omega) (by omega)]
   refine ih _ ⟨by omega, by omega, fun z h1 h2 => ?_⟩ (by omega)
   by_cases he : z = x
   ·subst he; exact h
   ·exact hno z h1 (by omega)
  have yes : CN x ∨ CP x → T (some true) := fun h => by
   show some true = some _
   rw [hmb.2 ⟨x, h⟩]
  rw [nza, Option.bind_some]
  simp only [letJ_eq (ρ := Bool) (κ := Bool → Option Bool)]
  by_cases hxm : x < m
  ·rw [dT hxm, cond_true, cond_true]
   refine next fun h => ?_
   rcases h with ⟨y, q, _, _, h3, _⟩ | h
   ·have := bdA _ _ h3; omega
   ·have := bdP _ h; omega
  ·rw [dF hxm, cond_false]
   rw [wdiv (x := x - m) (by omega) (by omega) ya]
   obtain ⟨i, hi⟩ := div_nat (x := x - m) (d := a.Band.Stay) (by omega) ya
   have hi2 := (div_iff (k := i) ya).1 hi
   rw [hi]
   by_cases hge : (i : Int) ≥ ((a.squares_.length : Nat) : Int)
   ·rw [dT hge, cond_true]
    refine next fun h => ?_
    rcases h with ⟨y, q, _, _, h3, _⟩ | ⟨i', k, h1, h2, h3, h4, _, h6, h7⟩
    ·have := (atS_iff ya (by omega)).1 h3
     rw [hi, Int.toNat_natCast, List.getElem?_eq_none (by omega)] at this
     cases this
    ·have := (div_iff (x := x - m) (k := i') ya).2 ⟨by omega, by omega⟩
     omega
   ·rw [dF hge, cond_false]
    have hil : i < a.squares_.length := by omega
    have qi : a.squares_[i]? = some a.squares_[i] := List.getElem?_eq_getElem hil
    have hAx : AtS a m x a.squares_[i] := (atS_iff ya (by omega)).2 (by rw [hi, Int.toNat_natCast]; exact qi)
    have hAu : ∀ q, AtS a m x q → q = a.squares_[i] := fun q hq => by
     have := (atS_iff ya (by omega)).1 hq
     rw [hi, Int.toNat_natCast, qi] at this
     exact (Option.some.inj this).symm
    refine letJ_gen T _ _ (fun K3 hK3 => ?_)
    -- behind the other minutes
    have pass : ¬ CN x → T (K3 ()) := fun hcn => by
     rw [hK3, nzb, Option.bind_some]
     have no : ¬ CP x → T (bif false then some true else K2 ()) := fun h => next fun hh => hh.elim hcn h
     by_cases g1 : x > m
     ·rw [dT g1, cond_true, Option.bind_some, w64 (x := x - m) (by omega) (by omega), Int.tmod_eq_emod_of_nonneg (by omega)]
      by_cases g2 : (x - m) % a.Band.Stay = 0
      ·rw [show ((x - m) % a.Band.Stay == 0) = true from by simpa using g2, cond_true]
       have hxi : x = m + (i : Int) * a.Band.Stay := by
        have := Int.emod_add_mul_ediv (x - m) a.Band.Stay
        rw [g2, hi, Int.mul_comm] at this
        omega
       by_cases g3 : x > n
       ·rw [dT g3, cond_true, Option.bind_some, wdiv (x := x - n) (by omega) (by omega) yb, w64 (x := x - n) (by omega) (by omega), Int.tmod_eq_emod_of_nonneg (by omega)]
        obtain ⟨k, hk⟩ := div_nat (x := x - n) (d := b.Band.Stay) (by omega) yb
        have hk2 := (div_iff (k := k) yb).1 hk
        rw [hk]
        by_cases g4 : (x - n) % b.Band.Stay = 0
        ·rw [show ((x - n) % b.Band.Stay == 0) = true from by simpa using g4, cond_true]
         have hxk : x = n + (k : Int) * b.Band.Stay := by
          have := Int.emod_add_mul_ediv (x - n) b.Band.Stay
          rw [g4, hk, Int.mul_comm] at this
          omega
         by_cases g5 : (k : Int) < ((b.squares_.length : Nat) : Int)
         ·rw [dT g5, cond_true]
          have hi1 : 1 ≤ i := by
           rcases Nat.eq_zero_or_pos i with h | h
           ·subst h; simp at hxi; omega
           ·exact h
          have hk1 : 1 ≤ k := by
           rcases Nat.eq_zero_or_pos k with h | h
           ·subst h; simp at hxk; omega
           ·exact h
          obtain ⟨i', rfl⟩ : ∃ i', i = i' + 1 := ⟨i - 1, by omega⟩
          obtain ⟨k', rfl⟩ : ∃ k', k = k' + 1 := ⟨k - 1, by omega⟩
          have pi : a.Band.Path[i']? = some a.Band.Path[i'] := List.getElem?_eq_getElem (by omega)
          have pk : b.Band.Path[k']? = some b.Band.Path[k'] := List.getElem?_eq_getElem (by omega)
          rw [w64 (x := ((i' + 1 : Nat) : Int) - 1) (by omega) (by omega), w64 (x := ((k' + 1 : Nat) : Int) - 1) (by omega) (by omega), show ((i' + 1 : Nat) : Int) - 1 = (i' : Int) by omega, show ((k' + 1 : Nat) : Int) - 1 = (k' : Int) by omega, getD_at pi, Option.bind_some, getD_at pk, Option.bind_some]
          by_cases g6 : a.Band.Path[i'] = b.Band.Path[k']
          ·rw [show (a.Band.Path[i'] == b.Band.Path[k']) = true from by simpa using g6, cond_true]
           exact yes (.inr ⟨i' + 1, k' + 1, hi1, hil, hk1, by omega, by simp [stA, pi, pk, g6], hxi, hxk⟩)
          ·rw [show (a.Band.Path[i'] == b.Band.Path[k']) = false from by simpa using g6]
           refine no fun ⟨i2, k2, h1, h2, h3, h4, h5, h6, h7⟩ => ?_
           have e1 := (div_iff (x := x - m) (k := i2) ya).2 ⟨by omega, by omega⟩
           have e2 := (div_iff (x := x - n) (k := k2) yb).2 ⟨by omega, by omega⟩
           obtain rfl : i2 = i' + 1 := by omega
           obtain rfl : k2 = k' + 1 := by omega
           simp [stA, pi, pk] at h5
           exact g6 h5
         ·rw [dF g5, cond_false]
          refine no fun ⟨i2, k2, h1, h2, h3, h4, h5, h6, h7⟩ => ?_
          have e2 := (div_iff (x := x - n) (k := k2) yb).2 ⟨by omega, by omega⟩
          omega
        ·rw [show ((x - n) % b.Band.Stay == 0) = false from by simpa using g4, cond_false]
         refine no fun ⟨i2, k2, h1, h2, h3, h4, h5, h6, h7⟩ => g4 ?_
         rw [h7, show n + (k2 : Int) * b.Band.Stay - n = (k2 : Int) * b.Band.Stay by omega, Int.mul_emod_left]
       ·rw [dF g3, cond_false]
        exact no fun h => by have := bdP _ h; omega
      ·rw [show ((x - m) % a.Band.Stay == 0) = false from by simpa using g2, cond_false]
       refine no fun ⟨i2, k2, h1, h2, h3, h4, h5, h6, h7⟩ => g2 ?_
       rw [h6, show m + (i2 : Int) * a.Band.Stay - m = (i2 : Int) * a.Band.Stay by omega, Int.mul_emod_left]
     ·rw [dF g1, cond_false]
      exact no fun h => by have := bdP _ h; omega
    rw [w64 (x := x - c.Break) (by omega) (by omega), w64 (x := x + c.Break) (by omega) (by omega)]
    generalize hst : (if x - c.Break > 0 then x - c.Break else 0) = st
    have hst2 : 0 ≤ st ∧ st ≤ x ∧ x - c.Break ≤ st ∧ ∀ y, 0 ≤ y → x - y ≤ c.Break → st ≤ y := by
     refine ⟨?_, ?_, ?_, fun y h1 h2 => ?_⟩ <;> split at hst <;> omega
    refine loop1_T T (fun y => st ≤ y ∧ y ≤ x + c.Break + 1 ∧ ∀ z, st ≤ z → z < y → ¬ AtS b n z a.squares_[i]) (fun y => (x + c.Break + 1 - y).toNat) ?_ N st ⟨Int.le_refl _, by omega, fun z h1 h2 => by omega⟩ (by omega)
    rintro rec2 y ⟨y0, y1, hno2⟩ ih2
    by_cases hy : y ≤ x + c.Break
    ·rw [dT hy, cond_true, nzb, Option.bind_some]
     have next2 : ¬ AtS b n y a.squares_[i] → T (bif false then some true else rec2 (IntKind.i64.wrap (y + 1))) := fun h => by
      rw [cond_false, w64 (x := y + 1) (by omega) (by omega)]
      refine ih2 _ ⟨by omega, by omega, fun z h1 h2 => ?_⟩ (by omega)
      by_cases he : z = y
      ·subst he; exact h
      ·exact hno2 z h1 (by omega)
     by_cases hyn : y ≥ n
     ·rw [dT hyn, cond_true, wdiv (x := y - n) (by omega) (by omega) yb]
      obtain ⟨k, hk⟩ := div_nat (x := y - n) (d := b.Band.Stay) (by omega) yb
      rw [hk]
      have hAb := fun q => atS_iff (t := b) (s := n) (m := y) (q := q) yb (by omega)
      rw [hk, Int.toNat_natCast] at hAb
      by_cases hkl : (k : Int) < ((b.squares_.length : Nat) : Int)
      ·have qk : b.squares_[k]? = some b.squares_[k] := List.getElem?_eq_getElem (by omega)
       rw [dT hkl, cond_true, getD_at qi, Option.bind_some, getD_at qk, Option.bind_some]
       by_cases he : a.squares_[i] = b.squares_[k]
       ·rw [show (a.squares_[i] == b.squares_[k]) = true from by simpa using he, cond_true]
        exact yes (.inl ⟨y, a.squares_[i], by omega, by omega, hAx, (hAb _).2 (by rw [qk, he])⟩)
       ·rw [show (a.squares_[i] == b.squares_[k]) = false from by simpa using he]
        refine next2 fun h => he ?_
        have := (hAb _).1 h
        rw [qk] at this
        exact (Option.some.inj this).symm
      ·rw [dF hkl, cond_false]
       refine next2 fun h => ?_
       have := (hAb _).1 h
       rw [List.getElem?_eq_none (by omega)] at this
       cases this
     ·rw [dF hyn, cond_false]
      exact next2 fun h => by have := bdB _ _ h; omega
    ·rw [dF hy, cond_false]
     refine pass fun ⟨y', q, h1, h2, h3, h4⟩ => ?_
     have hq := hAu q h3
     subst hq
     have := bdB _ _ h4
     exact hno2 y' (hst2.2.2.2 y' (by omega) h1) (by omega) h4
 ·have hx2 : x = 720 := by omega
  subst hx2
  rw [dF hx, cond_false, hK1]
  show some false = some _
  cases hm : MB a b c.Break m n with
  | false => rfl
  | true =>
   exfalso
   obtain ⟨z, hz⟩ := hmb.1 hm
   have : 0 ≤ z ∧ z < 720 := by
    rcases hz with ⟨y, q, _, _, h3, _⟩ | h
    ·have := bdA _ _ h3; omega
    ·have := bdP _ h; omega
   exact hno z this.1 this.2 hz
end Go.Proofs.YtkchfjblcfbajaaDoor
end
section
namespace Go.Proofs.YtkchfjblcfbajaaDoor
open Go.RowKit
set_option maxHeartbeats 400000

theorem GoodB.less {c : T_City} {b : T_Band} {sq : List Int} (h : GoodB c b sq) (lo hi : Int) (h0 : b.Start.Lo ≤ lo) (h1 : lo ≤ hi) (h2 : hi ≤ b.Start.Hi) : GoodB c ⟨b.First, b.Path, ⟨lo, hi⟩, b.Stay, b.People⟩ sq := by
 have := h.s0; have := h.s2; have := h.en
 exact ⟨h.f0, h.f1, h.wk, h.pl, by dsimp only; omega, by dsimp only; omega, by dsimp only; omega, h.y0, h.y1, h.p0, h.p1, by dsimp only; omega⟩
theorem min2_p (lo hi : Int) (h0 : 0 ≤ lo) (h1 : lo ≤ hi) (h2 : hi ≤ 1000) : ∃ h, (if (IntKind.i64.wrap (lo + 2)) < hi then (IntKind.i64.wrap (lo + 2)) else hi) = h ∧ lo ≤ h ∧ h ≤ hi := by
 rw [w64 (x := lo + 2) (by omega) (by omega)]
 refine ⟨_, rfl, ?_, ?_⟩ <;> split <;> omega
theorem GoodC.break_ {c : T_City} (h : GoodC c) (b : Int) (h0 : 0 ≤ b) (h1 : b ≤ 120) : GoodC ⟨c.Town, b, c.Sleep⟩ := ⟨h.tw, h.r4, h0, h1, h.sl, h.sv⟩
theorem bandMeets_p (N : Nat) (hN : 9223372036854776000 < N) (haw : p_bl7_awake N = some true) (nums : List Int) (hl : nums.length < 9223372036854775808) : p_bl7_BandMeets N nums = some true := by
 unfold p_bl7_BandMeets
 obtain ⟨d0, e⟩ := drumOf_p N nums (by omega) hl
 rw [e, Option.bind_some]; clear e
 obtain ⟨c0, d1, e, hc0⟩ := cityOf_p N (by omega) d0
 rw [e, Option.bind_some]; clear e
 dsimp only
 obtain ⟨br, hbr, br0, br1⟩ : ∃ br, (if 8 < c0.Break then 8 else c0.Break) = br ∧ 0 ≤ br ∧ br ≤ 8 := by
  have := hc0.b0
  refine ⟨_, rfl, ?_, ?_⟩ <;> split <;> omega
 rw [hbr]
 have hc := hc0.break_ br br0 (by omega)
 generalize hcc : (⟨c0.Town, br, c0.Sleep⟩ : T_City) = c at hc
 have hbrk : c.Break = br := by rw [← hcc]
 obtain ⟨a0, d2, e, sqa, ha0, _⟩ := bandOf_p N (by omega) d1 c hc
 rw [e, Option.bind_some]; clear e
 dsimp only
 obtain ⟨b0, d3, e, sqb, hb0, _⟩ := bandOf_p N (by omega) d2 c hc
 rw [e, Option.bind_some]; clear e
 dsimp only
 have as0 := ha0.s0; have as1 := ha0.s1; have aen := ha0.en; have am := ha0.mul
 have bs0 := hb0.s0; have bs1 := hb0.s1; have ben := hb0.en; have bm := hb0.mul
 obtain ⟨ha, eha, ha1, ha2⟩ := min2_p a0.Start.Lo a0.Start.Hi as0 as1 (by omega)
 obtain ⟨hb, ehb, hb1, hb2⟩ := min2_p b0.Start.Lo b0.Start.Hi bs0 bs1 (by omega)
 rw [eha, ehb]
 have hA := ha0.less a0.Start.Lo ha (Int.le_refl _) ha1 ha2
 have hB := hb0.less b0.Start.Lo hb (Int.le_refl _) hb1 hb2
 generalize haa : (⟨a0.First, a0.Path, ⟨a0.Start.Lo, ha⟩, a0.Stay, a0.People⟩ : T_Band) = a at hA
 generalize hbb : (⟨b0.First, b0.Path, ⟨b0.Start.Lo, hb⟩, b0.Stay, b0.People⟩ : T_Band) = b at hB
 have alo : a0.Start.Lo = a.Start.Lo := by rw [← haa]
 have ahi : ha = a.Start.Hi := by rw [← haa]
 have blo : b0.Start.Lo = b.Start.Lo := by rw [← hbb]
 have bhi : hb = b.Start.Hi := by rw [← hbb]
 rw [alo, ahi, blo, bhi]
 have gA : GoodT c ⟨a, sqa⟩ := hA
 have gB : GoodT c ⟨b, sqb⟩ := hB
 obtain ⟨v, ev, v3, v1, v2⟩ := cross_c N (by omega) c hc ⟨a, sqa⟩ ⟨b, sqb⟩ gA gB
 obtain ⟨w, ew, w3, w1, w2⟩ := cross_c N (by omega) c hc ⟨b, sqb⟩ ⟨a, sqa⟩ gB gA
 rw [ev, Option.bind_some, ew, Option.bind_some]
 have hb00 : 0 ≤ c.Break := by omega
 have hvw : v = w := by
  have e1 : v = 1 ↔ w = 1 := by
   rw [v1, w1]
   exact ⟨fun h s1 g1 g2 s2 g3 g4 => by rw [mb_symm gB gA _ _ _ hb00]; exact h s2 g3 g4 s1 g1 g2, fun h s1 g1 g2 s2 g3 g4 => by rw [mb_symm gA gB _ _ _ hb00]; exact h s2 g3 g4 s1 g1 g2⟩
  have e2 : v = 2 ↔ w = 2 := by
   rw [v2, w2]
   exact ⟨fun h s1 g1 g2 s2 g3 g4 => by rw [mb_symm gB gA _ _ _ hb00]; exact h s2 g3 g4 s1 g1 g2, fun h s1 g1 g2 s2 g3 g4 => by rw [mb_symm gA gB _ _ _ hb00]; exact h s2 g3 g4 s1 g1 g2⟩
  omega
 subst hvw
 dsimp only
 simp only [bne_self_eq_false, cond_false]
 let T : Option Bool → Prop := fun x => x = some true
 show T _
 rw [letJ_eq]
 dsimp only
 rw [cond_false]
 refine letJ_gen T _ _ (fun K1 hK1 => ?_)
 have sa0 := hA.s0; have sa1 := hA.s1; have sb0 := hB.s0; have sb1 := hB.s1
 have sae := hA.en; have sam := hA.mul; have sbe := hB.en; have sbm := hB.mul
 let MM := fun s1 s2 => MB ⟨a, sqa⟩ ⟨b, sqb⟩ c.Break s1 s2
 refine loop3_T T (fun x y start => a.Start.Lo ≤ start ∧ start ≤ a.Start.Hi + 1 ∧ (x = true ↔ ∃ s1, a.Start.Lo ≤ s1 ∧ s1 < start ∧ ∃ s2, b.Start.Lo ≤ s2 ∧ s2 < b.Start.Hi + 1 ∧ MM s1 s2 = true) ∧ (y = false ↔ ∃ s1, a.Start.Lo ≤ s1 ∧ s1 < start ∧ ∃ s2, b.Start.Lo ≤ s2 ∧ s2 < b.Start.Hi + 1 ∧ MM s1 s2 = false)) (fun x y start => (a.Start.Hi + 1 - start).toNat) ?_ N false true a.Start.Lo ⟨Int.le_refl _, by omega, ⟨fun hh => (by cases hh), fun ⟨s, h1, h2, _⟩ => by omega⟩, ⟨fun hh => (by cases hh), fun ⟨s, h1, h2, _⟩ => by omega⟩⟩ (by omega)
 rintro rec x y start ⟨p0, p1, px, py⟩ ih
 by_cases hle : start ≤ a.Start.Hi
 ·rw [dT hle, cond_true]
  refine letJ_gen T _ _ (fun K3 hK3 => ?_)
  refine loop3_T T (fun x' y' other => b.Start.Lo ≤ other ∧ other ≤ b.Start.Hi + 1 ∧ (x' = true ↔ (x = true ∨ ∃ s2, b.Start.Lo ≤ s2 ∧ s2 < other ∧ MM start s2 = true)) ∧ (y' = false ↔ (y = false ∨ ∃ s2, b.Start.Lo ≤ s2 ∧ s2 < other ∧ MM start s2 = false))) (fun x y other => (b.Start.Hi + 1 - other).toNat) ?_ N x y b.Start.Lo ⟨Int.le_refl _, by omega, ⟨.inl, fun hh => hh.elim id fun ⟨s, h1, h2, _⟩ => by omega⟩, ⟨.inl, fun hh => hh.elim id fun ⟨s, h1, h2, _⟩ => by omega⟩⟩ (by omega)
  rintro rec2 x' y' other ⟨q0, q1, qx, qy⟩ ih2
  by_cases hle2 : other ≤ b.Start.Hi
  ·rw [dT hle2, cond_true]
   simp only [letJ_eq]
   rw [crossed_c N (by omega) c hc ⟨a, sqa⟩ ⟨b, sqb⟩ gA gB start other p0 hle q0 hle2, Option.bind_some, w64 (x := other + 1) (by omega) (by omega)]
   have hM : MB ⟨a, sqa⟩ ⟨b, sqb⟩ c.Break start other = MM start other := rfl
   rw [hM]
   have hx' : (x' || MM start other) = true ↔ (x = true ∨ ∃ s2, b.Start.Lo ≤ s2 ∧ s2 < other + 1 ∧ MM start s2 = true) := by
    rw [ex_snoc q0, ← or_assoc, ← qx, Bool.or_eq_true]
   have hy' : (y' && MM start other) = false ↔ (y = false ∨ ∃ s2, b.Start.Lo ≤ s2 ∧ s2 < other + 1 ∧ MM start s2 = false) := by
    rw [ex_snoc q0, ← or_assoc, ← qy, Bool.and_eq_false_iff]
   have go : T (rec2 (x' || MM start other) (y' && MM start other) (other + 1)) := ih2 _ _ _ ⟨by omega, by omega, hx', hy'⟩ (by omega)
   cases hx2 : x' <;> cases hy2 : y' <;> simp only [hx2, hy2, Bool.true_or, Bool.false_or, Bool.true_and, Bool.false_and] at go <;> simpa only [cond_true, cond_false] using go
  ·have ho : other = b.Start.Hi + 1 := by omega
   subst ho
   rw [dF hle2, cond_false, hK3, w64 (x := start + 1) (by omega) (by omega)]
   refine ih _ _ _ ⟨by omega, by omega, ?_, ?_⟩ (by omega)
   ·rw [ex_snoc p0, qx, px]
   ·rw [ex_snoc p0, qy, py]
 ·have hst : start = a.Start.Hi + 1 := by omega
  subst hst
  rw [dF hle, cond_false, hK1]
  have h1 : (v == 1) = y := by
   rw [Bool.eq_iff_iff, beq_iff_eq, v1]
   constructor
   ·intro h
    cases hy : y with
    | true => rfl
    | false =>
     obtain ⟨s1, g1, g2, s2, g3, g4, g5⟩ := py.1 hy
     have : MM s1 s2 = true := h s1 g1 (by show s1 ≤ a.Start.Hi; omega) s2 g3 (by show s2 ≤ b.Start.Hi; omega)
     rw [this] at g5; cases g5
   ·intro hy s1 g1 g2 s2 g3 g4
    have g2 : s1 ≤ a.Start.Hi := g2
    have g4 : s2 ≤ b.Start.Hi := g4
    cases hm : MB ⟨a, sqa⟩ ⟨b, sqb⟩ c.Break s1 s2 with
    | true => rfl
    | false =>
     have := py.2 ⟨s1, g1, by omega, s2, g3, by omega, hm⟩
     rw [hy] at this; cases this
  have h2 : (v == 2) = !x := by
   rw [Bool.eq_iff_iff, beq_iff_eq, v2]
   constructor
   ·intro h
    cases hx : x with
    | false => rfl
    | true =>
     obtain ⟨s1, g1, g2, s2, g3, g4, g5⟩ := px.1 hx
     have : MM s1 s2 = false := h s1 g1 (by show s1 ≤ a.Start.Hi; omega) s2 g3 (by show s2 ≤ b.Start.Hi; omega)
     rw [this] at g5; cases g5
   ·intro hx s1 g1 g2 s2 g3 g4
    have g2 : s1 ≤ a.Start.Hi := g2
    have g4 : s2 ≤ b.Start.Hi := g4
    cases hm : MB ⟨a, sqa⟩ ⟨b, sqb⟩ c.Break s1 s2 with
    | false => rfl
    | true =>
     have := px.2 ⟨s1, g1, by omega, s2, g3, by omega, hm⟩
     rw [this] at hx; cases hx
  dsimp only
  rw [h1, h2, beq_self_eq_true, beq_self_eq_true, cond_true, cond_true, haw]
  rfl
theorem bandMeets_m (nums : List Int) (haw : p_bl7_awake 18446744073709551616 = some true) (hl : nums.length < 9223372036854775808) : Does Tryd.prog 6 [.sl (nums.map fun z => .int .i64 z) none] [] fun v _ => v = .bool true :=
 (d_bl7_BandMeets _ nums true (bandMeets_p _ (by omega) haw nums hl)).mono fun v c h => h.1
end Go.Proofs.YtkchfjblcfbajaaDoor
end
section
namespace Go.Proofs.YtkchfjblcfbajaaDoor
open Go.RowKit
theorem awake_c : p_bl7_awake 18446744073709551616 = some true := by kernel_rfl
end Go.Proofs.YtkchfjblcfbajaaDoor
end
section
namespace Go.Proofs.YtkchfjblcfbajaaDoor
open Go.RowKit Go.ChangeShapes Go.WideShapes Go.ChangeAt

def nums (zs : List Int) : AV := .sl (zs.map fun z => .int .i64 z) none
theorem prog_own : ownKnob Tryd.prog.godebug = none := by kernel_rfl
theorem prog_laid : laidOutB Tryd.prog = true := by kernel_rfl

namespace bandMeets
theorem glw {W : World} (hL : laidMetH Tryd.prog Rows.bandMeetsRow.laid W) : GLW W := by
 rw [MakeChecks.laidMetH_plain _ _ _ (by kernel_rfl)] at hL
 have h0 : Lib.TabIs Tryd.prog W "math/bits.deBruijn32tab" .u8 gnum0 := Lib.tabIs_of_head (g := 0) (t := 163) (e := 5) (n := 32) (by kernel_rfl) (by kernel_rfl) (by kernel_rfl) (by kernel_rfl) (by kernel_rfl) (by kernel_rfl) (hL)
 have h1 : Lib.TabIs Tryd.prog W "math/bits.deBruijn64tab" .u8 gnum1 := Lib.tabIs_of_head (g := 1) (t := 164) (e := 5) (n := 64) (by kernel_rfl) (by kernel_rfl) (by kernel_rfl) (by kernel_rfl) (by kernel_rfl) (by kernel_rfl) (hL.tail)
 intro B o u h
 by_cases e0 : B = 0
 ·subst e0
  have := World.var?_cell (P := Tryd.prog) (g := 0) (by kernel_rfl) h0 o
  rw [this]
  simpa [gcell, gtab, gtab0] using h
 by_cases e1 : B = 1
 ·subst e1
  have := World.var?_cell (P := Tryd.prog) (g := 1) (by kernel_rfl) h1 o
  rw [this]
  simpa [gcell, gtab, gtab1] using h
 simp [gcell, gtab, e0, e1] at h
theorem door_met (os : Os) (args : Array Value) : laidMetH Tryd.prog Rows.bandMeetsRow.laid ((World.doorLaid Tryd.prog 19 os).forCall (fun _ _ => 0) ⟨#[], args, []⟩).memory :=
 laidMetH_of_parts3 (fuel := 8) (laidMet_of_run' 8 (by kernel_rfl) (by kernel_rfl)) (by kernel_rfl) (by kernel_rfl)
set_option maxRecDepth 100000 in
theorem lifted (hM : ∀ zs : List Int, (∀ z ∈ zs, (Lit.int .i64 z).wf = true) → zs.length ≤ maxLen → Does Tryd.prog 6 [nums zs] [] fun v _ => v = .bool true) (os : Os) (started : os.Started) (H : Type) (enc : TypeId × Value → H) :
  ReturnsInHanded {} Tryd.checked os 6 .any (fun w args => (Rows.bandMeetsSpec.pre enc Tryd.prog Tryd.f6 Rows.bandMeetsRow.domain false w args ∧ laidMetH Tryd.prog Rows.bandMeetsRow.laid w) ∧ sizedMet enc Tryd.prog Tryd.f6 (OpenSpec.ofChange Rows.bandMeetsSpec) false w args) (Rows.bandMeetsSpec.post enc Tryd.prog Tryd.f6 false true false false) := by
 refine returnsInHanded_of_change_and (C := Tryd.checked) (X := fun w _ => laidMetH Tryd.prog Rows.bandMeetsRow.laid w) (fun _ _ _ hh h => h.of_heap hh) prog_own started (by kernel_rfl) Tryd.func6
  (ChangeSpec.witness_shaped (enc := enc) (C := Tryd.checked) (os := os) (X := fun w _ => laidMetH Tryd.prog Rows.bandMeetsRow.laid w) false (World.doorLaid Tryd.prog 19 os) #[.slice none 0 0] 8 rfl (World.shaped_of_RefB (by kernel_rfl) (by kernel_rfl)) (by kernel_rfl) (by kernel_rfl) (by kernel_rfl) (door_met os _)) ?_
 intro W base args ds gs before hval0 hW hcnd _ hL _
 have hval : ∀ (j : Nat) t v, Tryd.f6.params[j]? = some t → args[j]? = some v → Value.okWide Tryd.prog W .any base t v := hval0
 have hW' := hW
 obtain ⟨p, q, hA0, hV, rfl, hfz, hnd⟩ := hW
 have hA : DataW.TrodAll enc Tryd.prog W 0 (fun _ => true) true Tryd.f6.params.toList args.toList ds p := hA0
 rw [Tryd.params6] at hA hval
 obtain ⟨v0, vs0, d0, ds0, p0, q0, hargs, rfl, rfl, h0, r0⟩ := trodAll_cons hA
 obtain ⟨rfl, rfl, rfl⟩ := trodAll_nil r0
 obtain rfl : args = #[v0] := by cases args; simp_all
 obtain ⟨rfl, rfl⟩ := trodVars_none hV
 obtain ⟨a0, len0, cap0, rfl⟩ := okWide_slice Tryd.underlying22 (hval 0 22 v0 rfl rfl)
 have k0 := h0
 have lt0 : ∀ x ∈ p0, x.block < W.heap.size := by obtain ⟨m, hm⟩ := k0; exact DataW.trod_lt m _ _ _ hm
 obtain ⟨zs, hwf, hlen, hvr⟩ := ints_vr Tryd.underlying22 Tryd.underlying3 (by kernel_rfl) h0
 clear hA0 hval0
 refine ((hM zs hwf hlen).law (us := #[.slice a0 len0 cap0]) ⟨rfl, fun i x u hx hu => ?_⟩ (glw hL)).mono fun e W' ⟨he, bel⟩ => ?_
 ·cases i with
  | zero => simp at hx hu; subst hx; subst hu; exact hvr
  | succ i => simp at hx
 subst he
 exact ⟨_, rfl, _, _, _, [], _, [], hW', trodAll_mk1 (shut_bool Tryd.underlying4 _), (trodAll_cons_mk (Below.trod prog_laid (by kernel_rfl) (of_decide_eq_true (by kernel_rfl)) k0 bel lt0) trodAll_mk0), rfl, bel.frame _, fun h => by cases h⟩

theorem frame (hM : ∀ zs : List Int, (∀ z ∈ zs, (Lit.int .i64 z).wf = true) → zs.length ≤ maxLen → Does Tryd.prog 6 [nums zs] [] fun v _ => v = .bool true) : Rows.BandMeetsSaid :=
 OpenClaim.holds_of_wide 6 Tryd.f6 rfl rfl rfl rfl rfl rfl rfl ⟨rfl, rfl, rfl, rfl, rfl⟩ rfl rfl rfl rfl rfl (by kernel_rfl) Tryd.func6 (by kernel_rfl)
  (of_decide_eq_true (by kernel_rfl)) (by unfold Func.isWrapper; first | (rw [if_pos (by decide +kernel)]; kernel_rfl) | (rw [if_neg (by decide +kernel)]; exact ⟨rfl, rfl⟩))
  (fun os started H enc _ => lifted hM os started H enc)
end bandMeets
end Go.Proofs.YtkchfjblcfbajaaDoor
end
section
namespace Go.Proofs.YtkchfjblcfbajaaDoor
open Go
set_option maxRecDepth 100000
theorem bandMeets_card (h : Rows.BandMeetsSaid) : Rows.BandMeetsCardSaid :=
 Claim7.holds_tied_plain_at .later [] [.data, .data] true (true, "fe01ec05f56da0775188e805bb2e3c6250aca9f9ad23cd6dd3bc488253c3c85e") false
  h (fun _ h => by cases h) (by kernel_rfl) (fun _ h => by cases h) bandMeets_row_tie rfl ⟨rfl, rfl⟩ (by kernel_rfl) rfl
  (fun f fn hf hfn => by
    obtain rfl : f = 6 := Option.some.inj ((show Tryd.prog.funcNamed "bateria/baterialaw07.BandMeets" = some 6 by kernel_rfl).symm.trans hf) |>.symm
    obtain rfl : fn = Tryd.f6 := (Option.some.inj ((Tryd.func6).symm.trans hfn)).symm
    refine ⟨by kernel_rfl, fun j t ht => ?_⟩
    have hall : (Tryd.f6.params.toList.all fun t => !Tryd.prog.wantsStandIn t) = true := by kernel_rfl
    have hm : t ∈ Tryd.f6.params.toList := by
     rw [← Array.getElem?_toList] at ht
     exact List.mem_of_getElem? ht
    have hq := List.all_eq_true.1 hall t hm
    show Tryd.prog.wantsStandIn t = false
    simpa using hq)
  (by kernel_rfl)
end Go.Proofs.YtkchfjblcfbajaaDoor
end
