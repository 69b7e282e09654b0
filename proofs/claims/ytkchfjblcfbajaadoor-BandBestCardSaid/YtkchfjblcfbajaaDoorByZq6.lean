/- Part 7 of what the law needs: own work, put together. -/
import Derived.ProofKit
import Derived.LaidMore
import Derived.LaidLaws
import Derived.LaidHandle
import Derived.Lib.LaidTab
import Derived.Stop.LaidErr
import Derived.OpenShut
import Derived.Stop.Joined
import Derived.Test.YtkchfjblcfbajaaDoorRows
import Derived.Test.YtkchfjblcfbajaaDoorTie
import Derived.Test.YtkchfjblcfbajaaDoorCards
import Derived.SevenTiedAt
import Derived.Test.YtkchfjblcfbajaaDoorByZq5
set_option linter.unusedVariables false
set_option linter.unusedSimpArgs false
set_option maxRecDepth 10000
set_option maxHeartbeats 4000000
section
namespace Go.Proofs.YtkchfjblcfbajaaDoor
open Go.RowKit
set_option maxHeartbeats 400000

theorem loop3_R {A B C ρ : Type} {body : (A → B → C → Option ρ) → A → B → C → Option ρ} (T : A → B → C → Option ρ → Prop) (P : A → B → C → Prop) (μ : A → B → C → Nat) (h : ∀ rec a b c,P a b c → (∀ a' b' c',P a' b' c' → μ a' b' c' < μ a b c → T a' b' c' (rec a' b' c')) → T a b c (body rec a b c)) : ∀ (N : Nat) (a : A) (b : B) (c : C),P a b c → μ a b c < N → T a b c (loop3 body N a b c)
 | 0,a,b,c,_,hm => absurd hm (Nat.not_lt_zero _)
 | n + 1,a,b,c,hp,hm => h (loop3 body n) a b c hp fun a' b' c' hp' hm' => loop3_R T P μ h n a' b' c' hp' (by omega)
def hi (y k : Nat) : List Nat:=(bl y).filter fun i => decide (k ≤ i)
theorem hi_all : ((List.range 5).all fun k => (List.range 32).all fun y => decide (hi y k = (bif y.testBit k then [k] else []) ++ hi y (k + 1)) && decide (y % 2 ^ (k + 1) = y % 2 ^ k + (bif y.testBit k then 2 ^ k else 0))) = true:=by kernel_rfl
theorem hi_t (k y : Nat) (hk : k < 5) (hy : y < 32) : hi y k = (bif y.testBit k then [k] else []) ++ hi y (k + 1) ∧ y % 2 ^ (k + 1) = y % 2 ^ k + (bif y.testBit k then 2 ^ k else 0):=by
 have h1:=List.all_eq_true.1 (List.all_eq_true.1 hi_all k (List.mem_range.2 hk)) y (List.mem_range.2 hy)
 rw [Bool.and_eq_true,decide_eq_true_eq,decide_eq_true_eq] at h1
 exact h1
theorem top_all : ((List.range 6).all fun n => (List.range (2 ^ n)).all fun y => decide (hi y n = []) && decide (hi y 0 = bl y)) = true:=by kernel_rfl
theorem top_t (n y : Nat) (hn : n < 6) (hy : y < 2 ^ n) : hi y n = [] ∧ hi y 0 = bl y:=by
 have h1:=List.all_eq_true.1 (List.all_eq_true.1 top_all n (List.mem_range.2 hn)) y (List.mem_range.2 hy)
 rw [Bool.and_eq_true,decide_eq_true_eq,decide_eq_true_eq] at h1
 exact h1
theorem count_all : ((List.range 32).all fun x => decide (p_band_choice_count 0 (x : Int) = some (((bl x).length : Nat) : Int))) = true:=by kernel_rfl
theorem count_t (N x : Nat) (hx : x < 32) : p_band_choice_count N (x : Int) = some (((bl x).length : Nat) : Int):=by
 have h1:=of_decide_eq_true (List.all_eq_true.1 count_all x (List.mem_range.2 hx))
 have hN : p_band_choice_count N (x : Int) = p_band_choice_count 0 (x : Int):=rfl
 rw [hN,h1]
theorem inj_all : ((List.range 32).all fun x => (List.range 32).all fun y => !decide (bl x = bl y) || decide (x = y)) = true:=by kernel_rfl
theorem inj_t (x y : Nat) (hx : x < 32) (hy : y < 32) (h : bl x = bl y) : x = y:=by
 have h1:=List.all_eq_true.1 (List.all_eq_true.1 inj_all x (List.mem_range.2 hx)) y (List.mem_range.2 hy)
 rw [Bool.or_eq_true,decide_eq_true_eq,dT h] at h1
 rcases h1 with h1 | h1
 ·cases h1
 ·exact h1
def psum : List T_band_tour → Int
 | [] => 0
 | t :: l => t.Band.People + psum l
theorem psum_append : ∀ (a b : List T_band_tour),psum (a ++ b) = psum a + psum b
 | [],b => by simp [psum]
 | t :: a,b => by rw [List.cons_append,psum,psum,psum_append a b,Int.add_assoc]
theorem psum_bd : ∀ (l : List T_band_tour),(∀ t ∈ l,∃ c,GoodT c t) → 0 ≤ psum l ∧ psum l ≤ 600 * (l.length : Int)
 | [],_ => ⟨Int.le_refl _,Int.le_refl _⟩
 | t :: l,h => by
  obtain ⟨c,ht⟩:=h t (List.mem_cons_self ..)
  have h0:=ht.p0; have h1:=ht.p1
  have ih:=psum_bd l fun x hx => h x (List.mem_cons_of_mem _ hx)
  rw [psum,List.length_cons]
  omega
def cntB (x : Nat) : Nat:=(bl x).length
def ppl (ts : List T_band_tour) (x : Nat) : Int:=psum (selOf ts x)
def beats (ts : List T_band_tour) (x y : Nat) : Prop:=cntB y < cntB x ∨ cntB x = cntB y ∧ ppl ts y < ppl ts x
theorem sel_len (ts : List T_band_tour) (x : Nat) : (selOf ts x).length ≤ 6:=by
 unfold selOf
 refine Nat.le_trans (List.length_filterMap_le _ _) ?_
 unfold bl
 exact List.length_filter_le _ _
theorem people_c (N : Nat) (hN : 1000 < N) (c : T_City) (ts : List T_band_tour) (w : List Int) (hl : ts.length ≤ 4) (h : ∀ t ∈ ts,GoodT c t) (x : Nat) (hx : x < 2 ^ ts.length) : p_band_requests_people N ⟨c,ts,w⟩ (x : Int) = some (ppl ts x):=by
 unfold p_band_requests_people
 have hpow : 2 ^ ts.length ≤ 2 ^ 4:=Nat.pow_le_pow_right (by omega) hl
 have hbd : ∀ y,0 ≤ ppl ts y ∧ ppl ts y ≤ 3600:=fun y => by
  have h1:=psum_bd (selOf ts y) fun t ht => ⟨c,h t (mem_sel ht)⟩
  have h2:=sel_len ts y
  unfold ppl; omega
 rw [show p_band_choice_bands N (x : Int) = some (x : Int) from rfl,Option.bind_some]
 dsimp only
 let T : Option Int → Prop:=fun r => r = some (ppl ts x)
 show T _
 refine letJ_gen T _ _ (fun K1 hK1 => ?_)
 refine letJ_gen T _ _ (fun K2 hK2 => ?_)
 refine loop2_T T (fun rest b => ∃ y : Nat,rest = (y : Int) ∧ y < 2 ^ ts.length ∧ b + ppl ts y = ppl ts x) (fun rest b => rest.toNat) ?_ N _ 0 ⟨x,rfl,hx,by omega⟩ (by omega)
 rintro rec rest b ⟨y,rfl,hy,hb⟩ ih
 by_cases h0 : y = 0
 ·subst h0
  have h00 : ppl ts 0 = 0:=by unfold ppl; rw [sel_zero]; rfl
  rw [show ((((0 : Nat) : Int)) != 0) = false from rfl,cond_false,hK2]
  dsimp only
  rw [hK1]
  show some b = some _
  rw [h00] at hb; rw [← hb]; simp
 ·obtain ⟨z,r,e1,e2,hr,e3⟩:=tz_t N y h0 (by omega)
  have hzb : z < ts.length:=below_t ts.length y (by omega) hy z (by rw [e3]; exact List.mem_cons_self ..)
  have hzt : ts[z]? = some ts[z]:=List.getElem?_eq_getElem hzb
  have hpy : ppl ts y = ts[z].Band.People + ppl ts r:=by
   unfold ppl
   rw [show selOf ts y = ts[z] :: selOf ts r from by simp only [selOf,e3,List.filterMap_cons,hzt],psum]
  rw [show (((y : Nat) : Int) != 0) = true from by simpa using h0,cond_true,e1,Option.bind_some]
  simp only [letJ_eq]
  have g1:=hbd y; have g2:=hbd r; have g3:=hbd x
  rw [getD_at hzt,Option.bind_some,Option.bind_some,w64 (x:=b + ts[z].Band.People) (by omega) (by omega)]
  have e2' : IntKind.u64.wrap (((BitVec.ofInt (IntKind.bits .u64) (y : Int) &&& BitVec.ofInt (IntKind.bits .u64) (IntKind.u64.wrap ((y : Int) - 1))).toNat : Nat) : Int) = (r : Int):=e2
  rw [e2']
  exact ih _ _ ⟨r,rfl,by omega,by omega⟩ (by omega)
theorem cmp_c (N : Nat) (x y : Int) : p_cmp_Compare_int N x y = some (if x < y then -1 else if x > y then 1 else 0):=by
 unfold p_cmp_Compare_int p_cmp_isNaN_int
 simp only [bne_self_eq_false,Option.bind_some,cond_false]
 by_cases h1 : x < y
 ·rw [dT h1,if_pos h1,cond_true]
 ·rw [dF h1,if_neg h1,cond_false]
  by_cases h2 : x > y
  ·rw [dT h2,if_pos h2,cond_true]
  ·rw [dF h2,if_neg h2,cond_false]
theorem or_c (N : Nat) (hN : 1000 < N) (x y : Int) : p_cmp_Or_int N [x,y] = some (if x ≠ 0 then x else if y ≠ 0 then y else 0):=by
 unfold p_cmp_Or_int
 let T : Option Int → Prop:=fun r => r = some (if x ≠ 0 then x else if y ≠ 0 then y else 0)
 show T _
 refine letJ_gen T _ _ (fun K1 hK1 => ?_)
 refine loop1_T T (fun z => z = 0 ∨ (z = 1 ∧ x = 0) ∨ (z = 2 ∧ x = 0 ∧ y = 0)) (fun z => 2 - z.toNat) ?_ N 0 (.inl rfl) (by simp; omega)
 rintro rec z (rfl | ⟨rfl,hx⟩ | ⟨rfl,hx,hy⟩) ih
 ·rw [dT (by simp),cond_true,show getI [x,y] 0 = some x from rfl,Option.bind_some]
  by_cases h : x = 0
  ·rw [show (x != 0) = false from by simpa using h,cond_false,w64 (x:=0 + 1) (by omega) (by omega)]
   exact ih _ (.inr (.inl ⟨rfl,h⟩)) (by simp)
  ·rw [show (x != 0) = true from by simpa using h,cond_true]
   show some x = some _
   rw [if_pos h]
 ·rw [dT (by simp),cond_true,show getI [x,y] 1 = some y from rfl,Option.bind_some]
  by_cases h : y = 0
  ·rw [show (y != 0) = false from by simpa using h,cond_false,w64 (x:=1 + 1) (by omega) (by omega)]
   exact ih _ (.inr (.inr ⟨rfl,hx,h⟩)) (by simp)
  ·rw [show (y != 0) = true from by simpa using h,cond_true]
   show some y = some _
   rw [if_neg (by simpa using hx),if_pos h]
 ·rw [dF (by simp),cond_false,hK1]
  show some 0 = some _
  rw [if_neg (by simpa using hx),if_neg (by simpa using hy)]
theorem compare_c (N : Nat) (hN : 1000 < N) (c : T_City) (ts : List T_band_tour) (w : List Int) (hl : ts.length ≤ 4) (h : ∀ t ∈ ts,GoodT c t) (x y : Nat) (hx : x < 2 ^ ts.length) (hy : y < 2 ^ ts.length) : ∃ v,p_band_requests_compare N ⟨c,ts,w⟩ (x : Int) (y : Int) = some v ∧ (v > 0 ↔ beats ts x y):=by
 unfold p_band_requests_compare
 have hpow : 2 ^ ts.length ≤ 2 ^ 4:=Nat.pow_le_pow_right (by omega) hl
 rw [count_t N x (by omega),count_t N y (by omega),people_c N hN c ts w hl h x hx,people_c N hN c ts w hl h y hy]
 simp only [Option.bind_some,cmp_c,or_c N hN]
 refine ⟨_,rfl,?_⟩
 unfold beats cntB
 generalize ppl ts x = p
 generalize ppl ts y = q
 generalize (bl x).length = m
 generalize (bl y).length = n
 repeat' split
 all_goals omega
end Go.Proofs.YtkchfjblcfbajaaDoor
end
section
namespace Go.Proofs.YtkchfjblcfbajaaDoor
open Go.RowKit
set_option maxHeartbeats 400000

def okL (N : Nat) (c : T_City) (g l : List T_band_tour) : Bool:=(gr N c g l).all fun a => a == 0
theorem okL_cons (N : Nat) (c : T_City) (g l : List T_band_tour) (t : T_band_tour) : okL N c g (t :: l) = (bif ansOf N c g t == 0 then okL N c (g ++ [t]) l else false):=by
 unfold okL
 rw [gr,List.all_cons]
 cases hz : ansOf N c g t == 0 with
 | true =>
  have hn : nextG N c g t = g ++ [t]:=by unfold nextG; rw [hz,cond_true]
  rw [hn,cond_true,Bool.true_and]
 | false => rw [cond_false,Bool.false_and]
def selF (ts : List T_band_tour) (y k : Nat) : List T_band_tour:=(hi y k).filterMap fun i => ts[i]?
structure In (N : Nat) (c : T_City) (ts : List T_band_tour) (x k y : Nat) : Prop where
 lt : y < 2 ^ ts.length
 md : y % 2 ^ k = x
 ok : okL N c (selOf ts x) (selF ts y k) = true
theorem in_split {N : Nat} {c : T_City} {ts : List T_band_tour} {x k y : Nat} {t : T_band_tour} (hl : ts.length ≤ 4) (ht : ts[k]? = some t) (hx : x < 2 ^ k) : In N c ts x k y ↔ (y.testBit k = true ∧ ansOf N c (selOf ts x) t = 0 ∧ In N c ts (x + 2 ^ k) (k + 1) y) ∨ (y.testBit k = false ∧ In N c ts x (k + 1) y):=by
 have hk:=(List.getElem?_eq_some_iff.1 ht).1
 have hpow : 2 ^ ts.length ≤ 2 ^ 4:=Nat.pow_le_pow_right (by omega) hl
 obtain ⟨w1,w2⟩:=with_t N k x (by omega) hx
 have hsel : selOf ts (x + 2 ^ k) = selOf ts x ++ [t]:=by simp [selOf,w2,List.filterMap_append,ht]
 have hcons : ∀ y < 2 ^ ts.length,y.testBit k = true → selF ts y k = t :: selF ts y (k + 1):=fun y hy hb => by
  have h1:=(hi_t k y (by omega) (by omega)).1
  rw [hb,cond_true] at h1
  simp only [selF,h1,List.filterMap_append,List.filterMap_cons,ht,List.filterMap_nil,List.singleton_append]
 have hskip : ∀ y < 2 ^ ts.length,y.testBit k = false → selF ts y k = selF ts y (k + 1):=fun y hy hb => by
  have h1:=(hi_t k y (by omega) (by omega)).1
  rw [hb,cond_false,List.nil_append] at h1
  simp only [selF,h1]
 constructor
 ·rintro ⟨h1,h2,h3⟩
  have hm:=(hi_t k y (by omega) (by omega)).2
  cases hb : y.testBit k with
  | true =>
   rw [hb,cond_true] at hm
   rw [hcons y h1 hb,okL_cons] at h3
   cases hz : ansOf N c (selOf ts x) t == 0 with
   | false => rw [hz,cond_false] at h3; cases h3
   | true =>
    rw [hz,cond_true,← hsel] at h3
    exact .inl ⟨rfl,eq_of_beq hz,h1,by omega,h3⟩
  | false =>
   rw [hb,cond_false] at hm
   rw [hskip y h1 hb] at h3
   exact .inr ⟨rfl,h1,by omega,h3⟩
 ·rintro (⟨hb,hz,h1,h2,h3⟩ | ⟨hb,h1,h2,h3⟩)
  ·have hm:=(hi_t k y (by omega) (by omega)).2
   rw [hb,cond_true] at hm
   refine ⟨h1,by omega,?_⟩
   rw [hcons y h1 hb,okL_cons,hz,← hsel]
   exact h3
  ·have hm:=(hi_t k y (by omega) (by omega)).2
   rw [hb,cond_false] at hm
   refine ⟨h1,by omega,?_⟩
   rw [hskip y h1 hb]; exact h3
def erl (r y : Nat) : Prop:=∃ k,k < 4 ∧ r % 2 ^ k = y % 2 ^ k ∧ r.testBit k = true ∧ y.testBit k = false
def tieB (ts : List T_band_tour) (y r : Nat) : Prop:=cntB y = cntB r ∧ ppl ts y = ppl ts r
structure Best (N : Nat) (c : T_City) (ts : List T_band_tour) (x k b r : Nat) : Prop where
 lt : r < 2 ^ ts.length
 at_ : r = b ∨ In N c ts x k r
 no : ∀ y,In N c ts x k y → ¬ beats ts y r
 up : r = b ∨ beats ts r b
 fst : r ≠ b → ∀ y,In N c ts x k y → y ≠ r → tieB ts y r → erl r y
theorem best_c (N : Nat) (hN : 1000 < N) (c : T_City) (hc : GoodC c) (ts : List T_band_tour) (hl : ts.length ≤ 4) (h : ∀ t ∈ ts,GoodT c t) (w : List Int) (hw : ∀ (i : Nat) t,ts[i]? = some t → ∃ x : Nat,w[i]? = some (x : Int) ∧ Row N c ts t x i) : ∃ r : Nat,p_band_requests_best N ⟨c,ts,w⟩ = some (r : Int) ∧ Best N c ts 0 0 0 r:=by
 unfold p_band_requests_best
 have hpow : 2 ^ ts.length ≤ 2 ^ 4:=Nat.pow_le_pow_right (by omega) hl
 have hpos : 0 < 2 ^ ts.length:=Nat.pos_of_ne_zero (by simp)
 simp only [letJ_eq]
 let T : Int → Int → Int → Option Int → Prop:=fun a b d res => ∀ x k bb : Nat,a = (x : Int) → b = (k : Int) → d = (bb : Int) → x < 2 ^ k → k ≤ ts.length → bb < 2 ^ ts.length → ∃ r : Nat,res = some (r : Int) ∧ Best N c ts x k bb r
 have key:=loop3_R T (fun a b d => ∃ k : Nat,b = (k : Int) ∧ k ≤ ts.length) (fun a b d => ts.length - b.toNat) (body:=fun rec_10 (chosen_6 : Int) (next_7 : Int) (b_8 : Int) => (bif (next_7 == ((ts.length : Nat) : Int)) then ((p_band_requests_compare N ⟨c,ts,w⟩ chosen_6 b_8).bind fun r_19 => (bif (decide (r_19 > 0)) then some chosen_6 else some b_8)) else ((p_band_requests_wrong N ⟨c,ts,w⟩ next_7 chosen_6).bind fun r_25 => (bif (r_25 == 0) then ((p_band_choice_with N chosen_6 next_7).bind fun r_27 => ((rec_10 r_27 (IntKind.i64.wrap (next_7 + 1)) b_8).bind fun s_29 => ((rec_10 chosen_6 (IntKind.i64.wrap (next_7 + 1)) s_29).bind fun s_35 => some s_35))) else ((rec_10 chosen_6 (IntKind.i64.wrap (next_7 + 1)) b_8).bind fun s_35 => some s_35))))) ?_ N 0 0 0 ⟨0,rfl,Nat.zero_le _⟩ (by simp; omega) 0 0 0 rfl rfl rfl (by decide) (Nat.zero_le _) hpos
 ·obtain ⟨r,e,hr⟩:=key
  refine ⟨r,?_,hr⟩
  rw [e]; rfl
 rintro rec a b d ⟨k',rfl,hk'⟩ ih x k bb rfl hkk rfl hx hk hbb
 obtain rfl : k' = k:=by omega
 by_cases hkn : k' = ts.length
 ·subst hkn
  rw [beq_self_eq_true,cond_true]
  obtain ⟨v,e,hv⟩:=compare_c N hN c ts w hl h x bb hx hbb
  rw [e,Option.bind_some]
  have hself : ∀ y,In N c ts x ts.length y → y = x:=fun y hy => by
   have:=hy.md
   rw [Nat.mod_eq_of_lt hy.lt] at this; exact this
  have hin : In N c ts x ts.length x:=⟨hx,Nat.mod_eq_of_lt hx,by
   unfold selF
   rw [(top_t ts.length x (by omega) hx).1]; rfl⟩
  by_cases hgt : v > 0
  ·rw [dT hgt,cond_true]
   have hb:=hv.1 hgt
   refine ⟨x,rfl,hx,.inr hin,fun y hy => ?_,.inr hb,fun _ y hy hne _ => absurd (hself y hy) hne⟩
   rw [hself y hy]; unfold beats; omega
  ·rw [dF hgt,cond_false]
   refine ⟨bb,rfl,hbb,.inl rfl,fun y hy => ?_,.inl rfl,fun hh => absurd rfl hh⟩
   rw [hself y hy]; exact fun hh => hgt (hv.2 hh)
 ·have hlt : k' < ts.length:=by omega
  have ht : ts[k']? = some ts[k']:=List.getElem?_eq_getElem hlt
  generalize ts[k'] = t at ht
  rw [show (((k' : Nat) : Int) == ((ts.length : Nat) : Int)) = false from beq_eq_false_iff_ne.2 (by omega),cond_false]
  rw [wrong_c N hN c hc ts w (by omega) h k' x t ht hx (hw k' t ht),Option.bind_some,nadd1 k' (by omega)]
  have hpow2 : 2 ^ (k' + 1) = 2 ^ k' + 2 ^ k':=by rw [Nat.pow_succ]; omega
  have hsplit:=fun y => in_split (N:=N) (c:=c) (y:=y) hl ht hx
  -- what the second call gives,behind any choice
  have second : ∀ b1 : Nat,b1 < 2 ^ ts.length → ∃ r : Nat,rec (x : Int) ((k' + 1 : Nat) : Int) (b1 : Int) = some (r : Int) ∧ Best N c ts x (k' + 1) b1 r:=fun b1 hb1 =>
   ih _ _ _ ⟨k' + 1,rfl,by omega⟩ (by omega) x (k' + 1) b1 rfl rfl rfl (by omega) (by omega) hb1
  cases hz : ansOf N c (selOf ts x) t == 0 with
  | false =>
   have hz : ansOf N c (selOf ts x) t ≠ 0:=by simpa using hz
   rw [cond_false]
   obtain ⟨r,e,hr⟩:=second bb hbb
   rw [e,Option.bind_some]
   have heq : ∀ y,In N c ts x k' y ↔ (y.testBit k' = false ∧ In N c ts x (k' + 1) y):=fun y => by
    rw [hsplit y]
    exact ⟨fun hh => hh.elim (fun q => absurd q.2.1 hz) id,.inr⟩
   refine ⟨r,rfl,hr.lt,?_,fun y hy => hr.no y ((heq y).1 hy).2,hr.up,fun hne y hy hy2 ht => hr.fst hne y ((heq y).1 hy).2 hy2 ht⟩
   rcases hr.at_ with h1 | h1
   ·exact .inl h1
   ·refine .inr ((heq r).2 ⟨?_,h1⟩)
    have hm:=(hi_t k' r (by omega) (by have:=h1.lt; omega)).2
    rw [h1.md] at hm
    cases hb : r.testBit k' with
    | false => rfl
    | true => rw [hb,cond_true] at hm; omega
  | true =>
   have hz:=eq_of_beq hz
   rw [cond_true,(with_t N k' x (by omega) hx).1,Option.bind_some]
   obtain ⟨b1,e1,h1⟩:=ih _ _ _ ⟨k' + 1,rfl,by omega⟩ (by omega) (x + 2 ^ k') (k' + 1) bb rfl rfl rfl (by omega) (by omega) hbb
   obtain ⟨r,e2,h2⟩:=second b1 h1.lt
   rw [e1,Option.bind_some,e2,Option.bind_some]
   have bit1 : ∀ y,In N c ts (x + 2 ^ k') (k' + 1) y → y.testBit k' = true ∧ y % 2 ^ k' = x:=fun y hy => by
    have hm:=(hi_t k' y (by omega) (by have:=hy.lt; omega)).2
    have hlt2 : y % 2 ^ k' < 2 ^ k':=Nat.mod_lt _ (Nat.pos_of_ne_zero (by simp))
    rw [hy.md] at hm
    cases hb : y.testBit k' with
    | true => rw [hb,cond_true] at hm; exact ⟨rfl,by omega⟩
    | false => rw [hb,cond_false] at hm; omega
   have bit0 : ∀ y,In N c ts x (k' + 1) y → y.testBit k' = false ∧ y % 2 ^ k' = x:=fun y hy => by
    have hm:=(hi_t k' y (by omega) (by have:=hy.lt; omega)).2
    rw [hy.md] at hm
    cases hb : y.testBit k' with
    | true => rw [hb,cond_true] at hm; omega
    | false => rw [hb,cond_false] at hm; exact ⟨rfl,by omega⟩
   refine ⟨r,rfl,h2.lt,?_,fun y hy => ?_,?_,fun hne y hy hy2 htie => ?_⟩
   ·rcases h2.at_ with g | g
    ·subst g
     rcases h1.at_ with g | g
     ·exact .inl g
     ·exact .inr ((hsplit _).2 (.inl ⟨(bit1 _ g).1,hz,g⟩))
    ·exact .inr ((hsplit _).2 (.inr ⟨(bit0 _ g).1,g⟩))
   ·rcases (hsplit y).1 hy with ⟨_,_,g⟩ | ⟨_,g⟩
    ·have a1:=h1.no y g
     rcases h2.up with a2 | a2
     ·rw [a2]; exact a1
     ·unfold beats at *; omega
    ·exact h2.no y g
   ·rcases h2.up with a2 | a2
    ·rw [a2]; exact h1.up
    ·rcases h1.up with a1 | a1
     ·rw [← a1]; exact .inr a2
     ·right; unfold beats at *; omega
   ·by_cases hrb : r = b1
    ·subst hrb
     have g1 : In N c ts (x + 2 ^ k') (k' + 1) r:=h1.at_.resolve_left hne
     rcases (hsplit y).1 hy with ⟨_,_,g⟩ | ⟨g0,g⟩
     ·exact h1.fst hne y g hy2 htie
     ·exact ⟨k',by omega,by rw [(bit1 r g1).2,(bit0 y g).2],(bit1 r g1).1,g0⟩
    ·have a2:=h2.up.resolve_left hrb
     rcases (hsplit y).1 hy with ⟨_,_,g⟩ | ⟨g0,g⟩
     ·have a1:=h1.no y g
      exfalso
      unfold beats tieB at *; omega
     ·exact h2.fst hrb y g hy2 htie
theorem collect_c (N : Nat) (hN : 1000 < N) (x : Nat) (hx : x < 32) : p_slices_Collect_int_band_choice_bands_1r N (x : Int) = some ((bl x).map fun (i : Nat) => (i : Int)):=by
 unfold p_slices_Collect_int_band_choice_bands_1r p_slices_AppendSeq_int_intn_band_choice_bands_1r
 let T : Option (List Int) → Prop:=fun r => r = some ((bl x).map fun (i : Nat) => (i : Int))
 have key : T (letJ (fun (b_9 : List Int) => some b_9) (fun k_10 => (letJ (fun (b_13 : List Int) => (k_10 b_13)) (fun k_14 => (loop2 (fun rec_19 (rest_17 : Int) (b_18 : List Int) => (bif (rest_17 != 0) then ((p_math_bits_TrailingZeros N rest_17).bind fun r_23 => (letJ (fun (b_32 : List Int) => ((some (IntKind.u64.wrap (((BitVec.ofInt (IntKind.bits .u64) rest_17 &&& BitVec.ofInt (IntKind.bits .u64) (IntKind.u64.wrap (rest_17 - 1))).toNat : Nat) : Int))).bind fun n_37 => (rec_19 n_37 b_32))) (fun k_33 => ((pushI b_18 ([r_23] : List Int)).bind fun l_36 => (k_33 l_36))))) else (k_14 b_18))) N (x : Int) []))))):=by
  refine letJ_gen T _ _ (fun K1 hK1 => ?_)
  refine letJ_gen T _ _ (fun K2 hK2 => ?_)
  refine loop2_T T (fun rest (b : List Int) => ∃ y : Nat,rest = (y : Int) ∧ y < 32 ∧ b ++ ((bl y).map fun (i : Nat) => (i : Int)) = (bl x).map fun (i : Nat) => (i : Int)) (fun rest b => rest.toNat) ?_ N _ [] ⟨x,rfl,hx,rfl⟩ (by omega)
  rintro rec rest b ⟨y,rfl,hy,hb⟩ ih
  by_cases h0 : y = 0
  ·subst h0
   rw [show ((((0 : Nat) : Int)) != 0) = false from rfl,cond_false,hK2]
   dsimp only
   rw [hK1]
   show some b = some _
   rw [← hb,show bl 0 = [] from by decide]; simp
  ·obtain ⟨z,r,e1,e2,hr,e3⟩:=tz_t N y h0 hy
   rw [show (((y : Nat) : Int) != 0) = true from by simpa using h0,cond_true,e1,Option.bind_some]
   simp only [letJ_eq]
   have hbn : b.length ≤ 6:=by
    have:=congrArg List.length hb
    have h6 : (bl x).length ≤ 6:=by unfold bl; exact List.length_filter_le _ _
    rw [List.length_append,List.length_map,List.length_map] at this; omega
   rw [pushI_ok (by simp; omega),Option.bind_some,Option.bind_some]
   have e2' : IntKind.u64.wrap (((BitVec.ofInt (IntKind.bits .u64) (y : Int) &&& BitVec.ofInt (IntKind.bits .u64) (IntKind.u64.wrap ((y : Int) - 1))).toNat : Nat) : Int) = (r : Int):=e2
   rw [e2']
   exact ih _ _ ⟨r,rfl,by omega,by rw [← hb,e3]; simp⟩ (by omega)
 rw [key]; rfl
theorem bestF_c (N : Nat) (hN : 1000 < N) (c : T_City) (hc : GoodC c) (ts : List T_band_tour) (hl : ts.length ≤ 4) (h : ∀ t ∈ ts,GoodT c t) : ∃ r : Nat,p_band_Best N c (ts.map (·.Band)) = some ((bl r).map (fun (i : Nat) => (i : Int)),0) ∧ Best N c ts 0 0 0 r:=by
 unfold p_band_Best
 have hpow : 2 ^ ts.length ≤ 2 ^ 4:=Nat.pow_le_pow_right (by omega) hl
 obtain ⟨w,ew,hwl,hw⟩:=requests_c N hN c ts (by omega) h
 obtain ⟨r,e,hr⟩:=best_c N hN c hc ts hl h w hw
 refine ⟨r,?_,hr⟩
 rw [tours_c N hN c hc ts (by omega) h,Option.bind_some]
 dsimp only
 have hlt:=hr.lt
 rw [bne_self_eq_false,cond_false,dF (by omega),cond_false,ew,Option.bind_some,e,Option.bind_some,show p_band_choice_bands N (r : Int) = some (r : Int) from rfl,Option.bind_some,collect_c N hN r (by omega),Option.bind_some]
theorem in0 {N : Nat} {c : T_City} {ts : List T_band_tour} {y : Nat} (hl : ts.length ≤ 4) : In N c ts 0 0 y ↔ y < 2 ^ ts.length ∧ okL N c [] (selOf ts y) = true:=by
 have hs : ∀ y < 2 ^ ts.length,selF ts y 0 = selOf ts y:=fun y hy => by unfold selF selOf; rw [(top_t ts.length y (by omega) hy).2]
 constructor
 ·rintro ⟨h1,h2,h3⟩
  rw [sel_zero,hs y h1] at h3
  exact ⟨h1,h3⟩
 ·rintro ⟨h1,h2⟩
  exact ⟨h1,by simp [Nat.mod_one],by rw [sel_zero,hs y h1]; exact h2⟩
theorem kp_set (N : Nat) (c : T_City) (ts : List T_band_tour) (hl : ts.length ≤ 4) : ∀ (d k x : Nat),k + d = ts.length → x < 2 ^ k → ∃ z,z < 2 ^ ts.length ∧ selOf ts z = selOf ts x ++ kp N c (selOf ts x) (ts.drop k)
 | 0,k,x,hk,hx => by
  have : k = ts.length:=by omega
  subst this
  exact ⟨x,hx,by rw [List.drop_length,kp,List.append_nil]⟩
 | d + 1,k,x,hk,hx => by
  have hkl : k < ts.length:=by omega
  have ht : ts[k]? = some ts[k]:=List.getElem?_eq_getElem hkl
  rw [List.drop_eq_getElem_cons hkl,kp]
  have hpow2 : 2 ^ (k + 1) = 2 ^ k + 2 ^ k:=by rw [Nat.pow_succ]; omega
  cases hz : ansOf N c (selOf ts x) ts[k] == 0 with
  | true =>
   have hn : nextG N c (selOf ts x) ts[k] = selOf ts x ++ [ts[k]]:=by unfold nextG; rw [hz,cond_true]
   obtain ⟨w1,w2⟩:=with_t N k x (by omega) hx
   have hsel : selOf ts (x + 2 ^ k) = selOf ts x ++ [ts[k]]:=by simp [selOf,w2,List.filterMap_append,ht]
   obtain ⟨z,h1,h2⟩:=kp_set N c ts hl d (k + 1) (x + 2 ^ k) (by omega) (by omega)
   refine ⟨z,h1,?_⟩
   rw [h2,hn,hsel,cond_true,List.append_assoc]
  | false =>
   have hn : nextG N c (selOf ts x) ts[k] = selOf ts x:=by unfold nextG; rw [hz,cond_false]
   obtain ⟨z,h1,h2⟩:=kp_set N c ts hl d (k + 1) x (by omega) (by omega)
   exact ⟨z,h1,by rw [h2,hn,cond_false,List.nil_append]⟩
theorem fm_len (ts : List T_band_tour) : ∀ (l : List Nat),(∀ i ∈ l,i < ts.length) → (l.filterMap fun i => ts[i]?).length = l.length
 | [],_ => rfl
 | i :: l,h => by
  have hi : ts[i]? = some (ts[i]'(h i (List.mem_cons_self ..))):=List.getElem?_eq_getElem (h i (List.mem_cons_self ..))
  rw [List.filterMap_cons,hi]
  simp only [List.length_cons]
  rw [fm_len ts l fun j hj => h j (List.mem_cons_of_mem _ hj)]
theorem selLen (ts : List T_band_tour) (hl : ts.length ≤ 4) (z : Nat) (hz : z < 2 ^ ts.length) : (selOf ts z).length = cntB z:=fm_len ts _ fun i hi => below_t ts.length z (by omega) hz i hi
theorem kp_full (N : Nat) (c : T_City) : ∀ (l g : List T_band_tour),(kp N c g l).length = l.length ↔ okL N c g l = true
 | [],g => by simp [kp,okL,gr]
 | t :: l,g => by
  rw [okL_cons,kp]
  have ih:=kp_full N c l
  have hle:=kp_length N c l
  cases hz : ansOf N c g t == 0 with
  | true =>
   have hn : nextG N c g t = g ++ [t]:=by unfold nextG; rw [hz,cond_true]
   rw [hn,cond_true,cond_true,← ih (g ++ [t])]
   simp only [List.singleton_append,List.length_cons]
   omega
  | false =>
   rw [cond_false,cond_false,List.nil_append,List.length_cons]
   have:=hle (nextG N c g t)
   constructor
   ·intro hh; omega
   ·intro hh; cases hh
theorem okL_kp (N : Nat) (c : T_City) (ts : List T_band_tour) : okL N c [] (kp N c [] ts) = true:=by
 unfold okL
 rw [List.all_eq_true]
 intro a ha
 rw [gr_kp N c ts [] a ha]; rfl
end Go.Proofs.YtkchfjblcfbajaaDoor
end
section
namespace Go.Proofs.YtkchfjblcfbajaaDoor
open Go.RowKit
attribute [local simp] ren ren1 AV.plain AV.plain1 AV.clean cleanL cleanI cleanBo cleanSt cleanII plFB clFB faFB KL_bk_Drum KL_Span KL_Street KL_Group KL_Town KL_City KL_Band KL_band_tour KL_band_visit KL_V12_bool KL_band_requests KL_band_request A_bk_Drum C_bk_Drum A_Span C_Span A_Street C_Street A_Group C_Group A_Town C_Town A_City C_City A_Band C_Band A_band_tour C_band_tour A_band_visit C_band_visit A_V12_bool C_V12_bool A_band_requests C_band_requests A_band_request C_band_request back back1 re re1 List.idxOf? List.findIdx? List.findIdx?.go KB_bk_Drum KB_Span KB_Street KB_Group KB_Town KB_City KB_Band KB_band_tour KB_band_visit KB_V12_bool KB_band_requests KB_band_request fadeS fadeV
def p_bl7_granted (N : Nat) (l_1 : (List T_Band)) (errors_2 : (List Int)) : Option ((List T_Band)):=(letJ (fun (out_3 : List T_Band) => some out_3) (fun k_4 => (loop2 (fun rec_9 (out_7 : List T_Band) (i_8 : Int) => (letJ (fun (y_12 : Bool) => (bif y_12 then (letJ (fun (out_18 : List T_Band) => (rec_9 out_18 (IntKind.i64.wrap (i_8 + 1)))) (fun k_19 => ((getI errors_2 i_8).bind fun x_22 => (bif (x_22 == 0) then ((getI l_1 i_8).bind fun x_24 => ((pushI out_7 ([x_24] : List T_Band)).bind fun l_25 => (k_19 l_25))) else (k_19 out_7))))) else (k_4 out_7))) (fun k_13 => (bif (decide (i_8 < ((l_1.length : Nat) : Int))) then (k_13 (decide (i_8 < ((errors_2.length : Nat) : Int)))) else (k_13 false))))) N [] 0)))
def v_bl7_granted (r : (List T_Band)) : AV:=.sl (r.map A_Band) none
attribute [local simp] v_bl7_granted
theorem a_bl7_granted (l_1 : (List T_Band)) (errors_2 : (List Int)) : [.sl (l_1.map A_Band) none,.sl (errors_2.map (AV.int .i64)) none].mapM (ren []) = some [.sl (l_1.map A_Band) none,.sl (errors_2.map (AV.int .i64)) none]:=by simp
theorem b_bl7_granted (r : (List T_Band)) (n n2 m : Nat) : back n n2 m (v_bl7_granted r) = some (v_bl7_granted r):=by simp
theorem d_bl7_granted (N : Nat) (l_1 : (List T_Band)) (errors_2 : (List Int)) (r : (List T_Band)) (h : p_bl7_granted N l_1 errors_2 = some r) : Does Tryd.prog 40 [.sl (l_1.map A_Band) none,.sl (errors_2.map (AV.int .i64)) none] [] fun v c => v = v_bl7_granted r ∧ c = []:=by
 unfold p_bl7_granted at h
 refine Does.ofL comp40 _ _ rfl rfl ?_
 refine Ex.seq (rg 1 [0,1] (mkS 32 [(0,.sl (l_1.map A_Band) none),(1,.sl (errors_2.map (AV.int .i64)) none)]) ⟨[],[]⟩ ?_)
 refine Ex.seq (rg 1 [0,1,5] (mkS 32 [(0,.sl (l_1.map A_Band) none),(1,.sl (errors_2.map (AV.int .i64)) none),(5,.nils)]) ⟨[],[]⟩ ?_)
 refine Ex.seq (Ex.seq ?_)
 refine rg 1 [0,1,5,6] (mkS 32 [(0,.sl (l_1.map A_Band) none),(1,.sl (errors_2.map (AV.int .i64)) none),(5,.nils),(6,i6 0)]) ⟨[],[]⟩ ?_
 obtain ⟨K_5,hK_6,h⟩:=letE h
 refine Ex.blockJ (fun a S => ∃ (out_3 : List T_Band),K_5 out_3 = some r ∧ a = mkS 32 [(5,.sl (out_3.map A_Band) (some 0))] ∧ S = ⟨[],[(out_3.length,6)]⟩) ?_ ?_
 ·refine Ex.forget (nilK 5 6 rfl) ?_
  refine Ex.castA (a2:=mkS 32 [(0,.sl (l_1.map A_Band) none),(1,.sl (errors_2.map (AV.int .i64)) none),(5,.sl (([] : List T_Band).map A_Band) (some 0)),(6,i6 0)]) (S2:=⟨[],[(0,6)]⟩) (by kernel_rfl) (by kernel_rfl) ?_
  obtain ⟨B_10,hB_11,h⟩:=loop2I h
  refine Ex.loopF (fun k a S => ∃ (out_7 : List T_Band),∃ (i_8 : Int),loop2 B_10 k out_7 i_8 = some r ∧ a = mkS 32 [(0,.sl (l_1.map A_Band) none),(1,.sl (errors_2.map (AV.int .i64)) none),(5,.sl (out_7.map A_Band) (some 0)),(6,i6 i_8)] ∧ S = ⟨[],[(out_7.length,6)]⟩) N ⟨_,_,Forgets.refl _ _ _,[],0,h,rfl,rfl⟩ ?_
  rintro k a S ⟨out_7,i_8,h,rfl,rfl⟩
  cases k with
  | zero => exact (loop2Z h).elim
  | succ k =>
   replace h:=loop2S h hB_11
   refine Ex.seq ?_
   obtain ⟨K_14,hK_15,h⟩:=letE h
   refine Ex.seqJ (fun a S => ∃ (y_12 : Bool),K_14 y_12 = some r ∧ a = mkS 32 [(0,.sl (l_1.map A_Band) none),(1,.sl (errors_2.map (AV.int .i64)) none),(5,.sl (out_7.map A_Band) (some 0)),(6,i6 i_8),(16,.bool y_12)] ∧ S = ⟨[],[(out_7.length,6)]⟩) ?_ ?_
   ·rcases condI h with ⟨hc_16,h⟩ | ⟨hc_16,h⟩
    ·refine regH 10 [(2,.eq (i6 ((l_1.length : Nat) : Int))),(4,.eq (.bool true)),(7,.eq (i6 ((errors_2.length : Nat) : Int)))] [0,1,5,6,16] [AV.int .i64 (((l_1.map A_Band).length : Nat) : Int) = AV.int .i64 ((l_1.length : Nat) : Int),AV.bool (decide (i_8 < ((l_1.length : Nat) : Int))) = AV.bool true,AV.int .i64 (((errors_2.map (AV.int .i64)).length : Nat) : Int) = AV.int .i64 ((errors_2.length : Nat) : Int)] (mkS 32 [(0,.sl (l_1.map A_Band) none),(1,.sl (errors_2.map (AV.int .i64)) none),(5,.sl (out_7.map A_Band) (some 0)),(6,i6 i_8),(16,.bool (decide (i_8 < ((errors_2.length : Nat) : Int))))]) (⟨[],[(out_7.length,6)]⟩) (by kernel_rfl) ⟨lenM _ _,congrArg AV.bool hc_16,lenM _ _,trivial⟩ rfl ?_
     (try simp only [reduceCtorEq,AEx.ex.injEq,Nat.reduceEqDiff,if_true,if_false])
     exact ⟨_,_,Forgets.refl _ _ _,(decide (i_8 < ((errors_2.length : Nat) : Int))),h,rfl,rfl⟩
    ·refine regH 10 [(2,.eq (i6 ((l_1.length : Nat) : Int))),(4,.eq (.bool false))] [0,1,5,6,16] [AV.int .i64 (((l_1.map A_Band).length : Nat) : Int) = AV.int .i64 ((l_1.length : Nat) : Int),AV.bool (decide (i_8 < ((l_1.length : Nat) : Int))) = AV.bool false] (mkS 32 [(0,.sl (l_1.map A_Band) none),(1,.sl (errors_2.map (AV.int .i64)) none),(5,.sl (out_7.map A_Band) (some 0)),(6,i6 i_8),(16,.bool false)]) (⟨[],[(out_7.length,6)]⟩) (by kernel_rfl) ⟨lenM _ _,congrArg AV.bool hc_16,trivial⟩ rfl ?_
     (try simp only [reduceCtorEq,AEx.ex.injEq,Nat.reduceEqDiff,if_true,if_false])
     exact ⟨_,_,Forgets.refl _ _ _,false,h,rfl,rfl⟩
   ·rintro a S ⟨y_12,h,rfl,rfl⟩
    subst hK_15
    rcases condI h with ⟨hc_17,h⟩ | ⟨hc_17,h⟩
    ·refine Ex.condT _ rfl hc_17 ?_
     refine Ex.skip ?_
     refine Ex.seq ?_
     obtain ⟨K_20,hK_21,h⟩:=letE h
     refine Ex.blockJ (fun a S => ∃ (out_18 : List T_Band),K_20 out_18 = some r ∧ a = mkS 32 [(0,.sl (l_1.map A_Band) none),(1,.sl (errors_2.map (AV.int .i64)) none),(5,.sl (out_18.map A_Band) (some 0)),(6,i6 i_8)] ∧ S = ⟨[],[(out_18.length,6)]⟩) ?_ ?_
     ·refine Ex.seq ?_
      obtain ⟨x_22,hx_22,h⟩:=bE h
      refine regH 5 [(2,.rop [i6 x_22])] [0,1,5,6,23] [LGet (errors_2.map (AV.int .i64)) i_8 1 [i6 x_22]] (mkS 32 [(0,.sl (l_1.map A_Band) none),(1,.sl (errors_2.map (AV.int .i64)) none),(5,.sl (out_7.map A_Band) (some 0)),(6,i6 i_8),(23,.bool (x_22 == 0))]) (⟨[],[(out_7.length,6)]⟩) (by kernel_rfl) ⟨LGet.of hx_22 rfl,trivial⟩ rfl ?_
      rcases condI h with ⟨hc_23,h⟩ | ⟨hc_23,h⟩
      ·refine Ex.condT _ rfl hc_23 ?_
       refine Ex.postF ?_
       obtain ⟨x_24,hx_24,h⟩:=bE h
       obtain ⟨l_25,hl_25,h⟩:=bE h
       refine regH 8 [(3,.rop (C_Band x_24)),(6,.app (l_25.map A_Band) l_25.length)] [0,1,5,6] [LGet (l_1.map A_Band) i_8 6 (C_Band x_24),LApp out_7.length (out_7.map A_Band) (([x_24] : List T_Band).map A_Band) 6 (l_25.map A_Band) l_25.length] (mkS 32 [(0,.sl (l_1.map A_Band) none),(1,.sl (errors_2.map (AV.int .i64)) none),(5,.sl (l_25.map A_Band) (some 0)),(6,i6 i_8)]) (⟨[],[(l_25.length,6),(1,6)]⟩) (by kernel_rfl) ⟨LGet.of hx_24 rfl,LApp.of hl_25 (fun _ => rfl),trivial⟩ rfl ?_
       refine ⟨mkS 32 [(0,.sl (l_1.map A_Band) none),(1,.sl (errors_2.map (AV.int .i64)) none),(5,.sl (l_25.map A_Band) (some 0)),(6,i6 i_8)],⟨[],[(l_25.length,6),(1,6)]⟩,Forgets.refl _ _ _,?_⟩
       (try simp only [reduceCtorEq,AEx.ex.injEq,Nat.reduceEqDiff,if_true,if_false])
       exact ⟨_,_,forgetA (m:=32) 0 [0] [(0,.sl (l_1.map A_Band) none),(1,.sl (errors_2.map (AV.int .i64)) none),(5,.sl (l_25.map A_Band) (some 0)),(6,i6 i_8)] [] [(l_25.length,6)] (by simp [setAll]) (by simp) ⟨(reN (KL_Band _)),(reN (cleanI _ _)),(reT (KL_Band _) rfl),rfl,trivial⟩ (by simp) rfl (by decide),l_25,h,rfl,rfl⟩
      ·refine Ex.condF _ rfl hc_23 ?_
       refine Ex.skip ?_
       (try simp only [reduceCtorEq,AEx.ex.injEq,Nat.reduceEqDiff,if_true,if_false])
       exact ⟨_,_,forgetK [0,1,5,6],out_7,h,rfl,rfl⟩
     ·rintro a S ⟨out_18,h,rfl,rfl⟩
      subst hK_21
      refine rg 3 [0,1,5,6] (mkS 32 [(0,.sl (l_1.map A_Band) none),(1,.sl (errors_2.map (AV.int .i64)) none),(5,.sl (out_18.map A_Band) (some 0)),(6,i6 (IntKind.i64.wrap (i_8 + 1)))]) ⟨[],[(out_18.length,6)]⟩ ?_
      dsimp only
      exact ⟨_,_,Forgets.refl _ _ _,k,Nat.lt_succ_self k,out_18,(IntKind.i64.wrap (i_8 + 1)),h,rfl,rfl⟩
    ·refine Ex.condF _ rfl hc_17 ?_
     refine Ex.exit ?_
     (try simp only [reduceCtorEq,AEx.ex.injEq,Nat.reduceEqDiff,if_true,if_false])
     exact ⟨_,_,forgetK [5],out_7,h,rfl,rfl⟩
 ·rintro a S ⟨out_3,h,rfl,rfl⟩
  subst hK_6
  refine Ex.seq (rg 2 [4] (mkS 32 [(4,.sl (out_3.map A_Band) (some 0))]) ⟨[],[(out_3.length,6)]⟩ ?_)
  refine Ex.ret ?_
  obtain rfl:=sJ h
  exact rt (.sl (out_3.map A_Band) (some 0))
def p_bl7_BandBest (N : Nat) (nums_1 : (List Int)) : Option (Bool):=((p_bk_DrumOf N nums_1).bind fun r_2 => ((p_bk_CityOf N r_2).bind fun r_3 => ((p_bk_BandsOf N r_3.2 r_3.1 4).bind fun r_4 => ((p_band_Best N r_3.1 r_4.1).bind fun r_5 => ((p_band_Grant N r_3.1 r_4.1).bind fun r_6 => (letJ (fun (y_7 : Bool) => (bif y_7 then some false else (letJ (fun (people_15 : Int) => (letJ (fun (found_35 : Bool) => (bif found_35 then ((p_bl7_awake N).bind fun r_77 => some r_77) else some false)) (fun k_36 => (loop2 (fun rec_41 (found_39 : Bool) (set_40 : Int) => ((nnI ((r_4.1.length : Nat) : Int)).bind fun u_44 => (bif (decide (set_40 < (IntKind.i64.wrap (1 * ((2 : Int) ^ (min (Int.toNat ((r_4.1.length : Nat) : Int)) (IntKind.bits .i64))))))) then (letJ (fun (found_46 : Bool) => (rec_41 found_46 (IntKind.i64.wrap (set_40 + 1)))) (fun k_47 => ((p_br7_Members N r_4.1 set_40).bind fun r_50 => ((p_bk_EqInts N r_50.1 r_5.1).bind fun r_51 => (letJ (fun (better_52 : Bool) => (letJ (fun (y_61 : Bool) => (bif y_61 then (k_47 found_39) else ((p_band_Grant N r_3.1 r_50.2.1).bind fun r_67 => (letJ (fun (y_68 : Bool) => (bif y_68 then some false else (bif found_39 then (k_47 true) else (k_47 r_51)))) (fun k_69 => (bif (r_67.2 != 0) then (k_69 true) else ((p_bl7_granted N r_50.2.1 r_67.1).bind fun r_73 => (k_69 (!((((r_73.length : Nat) : Int) == ((r_50.2.1.length : Nat) : Int)) == r_51)))))))))) (fun k_62 => (bif (!r_51) then (k_62 (!better_52)) else (k_62 false))))) (fun k_53 => (bif (decide (((r_50.1.length : Nat) : Int) > ((r_5.1.length : Nat) : Int))) then (k_53 true) else (bif (((r_50.1.length : Nat) : Int) == ((r_5.1.length : Nat) : Int)) then (bif (decide (r_50.2.2 > people_15)) then (k_53 true) else (bif (r_50.2.2 == people_15) then ((p_br7_Before N r_50.1 r_5.1).bind fun r_60 => (k_53 r_60)) else (k_53 false))) else (k_53 false))))))))) else (k_36 found_39)))) N false 0)))) (fun k_16 => (loop2 (fun rec_21 (people_19 : Int) (i_20 : Int) => (bif (decide (i_20 < ((r_5.1.length : Nat) : Int))) then (letJ (fun (y_25 : Bool) => (bif y_25 then some false else ((getI r_5.1 i_20).bind fun x_33 => ((getI r_4.1 x_33).bind fun x_34 => (rec_21 (IntKind.i64.wrap (people_19 + x_34.People)) (IntKind.i64.wrap (i_20 + 1))))))) (fun k_26 => ((getI r_5.1 i_20).bind fun x_29 => (bif (decide (x_29 < 0)) then (k_26 true) else ((getI r_5.1 i_20).bind fun x_31 => (k_26 (decide (x_31 ≥ ((r_4.1.length : Nat) : Int))))))))) else (k_16 people_19))) N 0 0))))) (fun k_8 => (bif (r_5.2 != 0) then (k_8 true) else (bif (r_6.2 != 0) then (k_8 true) else ((p_bl7_granted N r_4.1 r_6.1).bind fun r_13 => (k_8 (decide (((r_13.length : Nat) : Int) > ((r_5.1.length : Nat) : Int))))))))))))))
def v_bl7_BandBest (r : Bool) : AV:=.bool r
attribute [local simp] v_bl7_BandBest
theorem d_bl7_BandBest (N : Nat) (nums_1 : (List Int)) (r : Bool) (h : p_bl7_BandBest N nums_1 = some r) : Does Tryd.prog 10 [.sl (nums_1.map (AV.int .i64)) none] [] fun v c => v = v_bl7_BandBest r ∧ c = []:=by
 unfold p_bl7_BandBest at h
 refine Does.ofL comp10 _ _ rfl rfl ?_
 refine Ex.seq (rg 1 [0] (mkS 162 [(0,.sl (nums_1.map (AV.int .i64)) none)]) ⟨[],[]⟩ ?_)
 refine Ex.seq ?_
 obtain ⟨r_2,hr_2,h⟩:=bE h
 refine Ex.reg (rn 1 [21] (mkS 162 [(21,.sl (nums_1.map (AV.int .i64)) none)]) ⟨[],[]⟩ ?_)
 refine ExO.callL (v':=.ptr 0 0) [] [.sl (nums_1.map (AV.int .i64)) none] rfl rfl (a_bk_DrumOf nums_1) rfl rfl (d_bk_DrumOf N nums_1 r_2 hr_2) rfl (by simp) ?_
 refine rn 1 [3] (mkS 162 [(3,.ptr 0 0)]) ⟨[(C_bk_Drum r_2)],[]⟩ ?_
 refine ExO.nil ?_
 refine Ex.seq ?_
 obtain ⟨r_3,hr_3,h⟩:=bE h
 refine Ex.reg (rn 1 [3,23] (mkS 162 [(3,.ptr 0 0),(23,.ptr 0 0)]) ⟨[(C_bk_Drum r_2)],[]⟩ ?_)
 refine ExO.callL [0] [.ptr 0 0] rfl rfl (by simp; try rfl) rfl (by simp) (d_bk_CityOf N r_2 r_3 hr_3) (b_bk_CityOf _ _ _ _) (by simp) ?_
 refine rn 2 [3,4] (mkS 162 [(3,.ptr 0 0),(4,.ptr 1 0)]) ⟨[(C_bk_Drum r_3.2),(C_City r_3.1)],[]⟩ ?_
 refine ExO.nil ?_
 refine Ex.seq ?_
 obtain ⟨r_4,hr_4,h⟩:=bE h
 refine Ex.reg (rn 2 [4,25,26] (mkS 162 [(4,.ptr 1 0),(25,.ptr 0 0),(26,(A_City r_3.1))]) ⟨[(C_bk_Drum r_3.2),(C_City r_3.1)],[]⟩ ?_)
 refine ExO.callL [0] [.ptr 0 0,(A_City r_3.1),i6 4] rfl rfl (by simp; try rfl) rfl (by simp) (d_bk_BandsOf N r_3.2 r_3.1 4 r_4 hr_4) (b_bk_BandsOf _ _ _ _) (by simp) ?_
 refine rn 1 [4,5] (mkS 162 [(4,.ptr 1 0),(5,.sl (r_4.1.map A_Band) none)]) ⟨[(C_bk_Drum r_4.2),(C_City r_3.1)],[]⟩ ?_
 refine ExO.nil ?_
 refine Ex.seq ?_
 obtain ⟨r_5,hr_5,h⟩:=bE h
 refine Ex.reg (rn 2 [4,5,29,30] (mkS 162 [(4,.ptr 1 0),(5,.sl (r_4.1.map A_Band) none),(29,(A_City r_3.1)),(30,.sl (r_4.1.map A_Band) none)]) ⟨[(C_bk_Drum r_4.2),(C_City r_3.1)],[]⟩ ?_)
 refine ExO.callL [] [(A_City r_3.1),.sl (r_4.1.map A_Band) none] rfl rfl (a_band_Best r_3.1 r_4.1) rfl rfl (d_band_Best N r_3.1 r_4.1 r_5 hr_5) (b_band_Best _ _ _ _) rfl ?_
 refine rn 5 [4,5,6,7] (mkS 162 [(4,.ptr 1 0),(5,.sl (r_4.1.map A_Band) none),(6,.sl (r_5.1.map (AV.int .i64)) none),(7,i6 r_5.2)]) ⟨[(C_bk_Drum r_4.2),(C_City r_3.1)],[]⟩ ?_
 refine ExO.nil ?_
 refine Ex.seq ?_
 obtain ⟨r_6,hr_6,h⟩:=bE h
 refine Ex.reg (rn 2 [4,5,6,7,35,36] (mkS 162 [(4,.ptr 1 0),(5,.sl (r_4.1.map A_Band) none),(6,.sl (r_5.1.map (AV.int .i64)) none),(7,i6 r_5.2),(35,(A_City r_3.1)),(36,.sl (r_4.1.map A_Band) none)]) ⟨[(C_bk_Drum r_4.2),(C_City r_3.1)],[]⟩ ?_)
 refine ExO.callL [] [(A_City r_3.1),.sl (r_4.1.map A_Band) none] rfl rfl (a_band_Grant r_3.1 r_4.1) rfl rfl (d_band_Grant N r_3.1 r_4.1 r_6 hr_6) (b_band_Grant _ _ _ _) rfl ?_
 refine rn 5 [4,5,6,7,8,9] (mkS 162 [(4,.ptr 1 0),(5,.sl (r_4.1.map A_Band) none),(6,.sl (r_5.1.map (AV.int .i64)) none),(7,i6 r_5.2),(8,.sl (r_6.1.map (AV.int .i64)) none),(9,i6 r_6.2)]) ⟨[(C_bk_Drum r_4.2),(C_City r_3.1)],[]⟩ ?_
 refine ExO.nil ?_
 refine Ex.seq ?_
 obtain ⟨K_9,hK_10,h⟩:=letE h
 refine Ex.seqJ (fun a S => ∃ (y_7 : Bool),K_9 y_7 = some r ∧ a = mkS 162 [(4,.ptr 1 0),(5,.sl (r_4.1.map A_Band) none),(6,.sl (r_5.1.map (AV.int .i64)) none),(54,.bool y_7)] ∧ S = ⟨[(C_bk_Drum r_4.2),(C_City r_3.1)],[]⟩) ?_ ?_
 ·rcases condI h with ⟨hc_11,h⟩ | ⟨hc_11,h⟩
  ·refine regH 15 [(2,.eq (.bool true))] [4,5,6,54] [AV.bool (r_5.2 != 0) = AV.bool true] (mkS 162 [(4,.ptr 1 0),(5,.sl (r_4.1.map A_Band) none),(6,.sl (r_5.1.map (AV.int .i64)) none),(54,.bool true)]) (⟨[(C_bk_Drum r_4.2),(C_City r_3.1)],[]⟩) (by kernel_rfl) ⟨congrArg AV.bool hc_11,trivial⟩ rfl ?_
   (try simp only [reduceCtorEq,AEx.ex.injEq,Nat.reduceEqDiff,if_true,if_false])
   exact ⟨_,_,Forgets.refl _ _ _,true,h,rfl,rfl⟩
  ·rcases condI h with ⟨hc_12,h⟩ | ⟨hc_12,h⟩
   ·refine regH 15 [(2,.eq (.bool false)),(6,.eq (.bool true))] [4,5,6,54] [AV.bool (r_5.2 != 0) = AV.bool false,AV.bool (r_6.2 != 0) = AV.bool true] (mkS 162 [(4,.ptr 1 0),(5,.sl (r_4.1.map A_Band) none),(6,.sl (r_5.1.map (AV.int .i64)) none),(54,.bool true)]) (⟨[(C_bk_Drum r_4.2),(C_City r_3.1)],[]⟩) (by kernel_rfl) ⟨congrArg AV.bool hc_11,congrArg AV.bool hc_12,trivial⟩ rfl ?_
    (try simp only [reduceCtorEq,AEx.ex.injEq,Nat.reduceEqDiff,if_true,if_false])
    exact ⟨_,_,Forgets.refl _ _ _,true,h,rfl,rfl⟩
   ·obtain ⟨r_13,hr_13,h⟩:=bE h
    refine Ex.reg ?_
    refine runH 9 [(2,.eq (.bool false)),(6,.eq (.bool false))] [4,5,6,46,47,48] [AV.bool (r_5.2 != 0) = AV.bool false,AV.bool (r_6.2 != 0) = AV.bool false] (mkS 162 [(4,.ptr 1 0),(5,.sl (r_4.1.map A_Band) none),(6,.sl (r_5.1.map (AV.int .i64)) none),(46,.bool false),(47,.sl (r_4.1.map A_Band) none),(48,.sl (r_6.1.map (AV.int .i64)) none)]) (⟨[(C_bk_Drum r_4.2),(C_City r_3.1)],[]⟩) (by kernel_rfl) ⟨congrArg AV.bool hc_11,congrArg AV.bool hc_12,trivial⟩ ?_
    refine ExO.callL [] [.sl (r_4.1.map A_Band) none,.sl (r_6.1.map (AV.int .i64)) none] rfl rfl (a_bl7_granted r_4.1 r_6.1) rfl rfl (d_bl7_granted N r_4.1 r_6.1 r_13 hr_13) (b_bl7_granted _ _ _ _) rfl ?_
    refine runH 5 [(0,.eq (i6 ((r_13.length : Nat) : Int))),(2,.eq (i6 ((r_5.1.length : Nat) : Int)))] [4,5,6,54] [AV.int .i64 (((r_13.map A_Band).length : Nat) : Int) = AV.int .i64 ((r_13.length : Nat) : Int),AV.int .i64 (((r_5.1.map (AV.int .i64)).length : Nat) : Int) = AV.int .i64 ((r_5.1.length : Nat) : Int)] (mkS 162 [(4,.ptr 1 0),(5,.sl (r_4.1.map A_Band) none),(6,.sl (r_5.1.map (AV.int .i64)) none),(54,.bool (decide (((r_13.length : Nat) : Int) > ((r_5.1.length : Nat) : Int))))]) (⟨[(C_bk_Drum r_4.2),(C_City r_3.1)],[]⟩) (by kernel_rfl) ⟨lenM _ _,lenM _ _,trivial⟩ ?_
    refine ExO.nil ?_
    (try simp only [reduceCtorEq,AEx.ex.injEq,Nat.reduceEqDiff,if_true,if_false])
    exact ⟨_,_,Forgets.refl _ _ _,(decide (((r_13.length : Nat) : Int) > ((r_5.1.length : Nat) : Int))),h,rfl,rfl⟩
 ·rintro a S ⟨y_7,h,rfl,rfl⟩
  subst hK_10
  rcases condI h with ⟨hc_14,h⟩ | ⟨hc_14,h⟩
  ·refine Ex.condT _ rfl hc_14 ?_
   refine Ex.seq (rg 1 [2] (mkS 162 [(2,.bool false)]) ⟨[(C_bk_Drum r_4.2),(C_City r_3.1)],[]⟩ ?_)
   refine Ex.ret ?_
   obtain rfl:=sJ h
   exact rt (.bool false)
  ·refine Ex.condF _ rfl hc_14 ?_
   refine Ex.skip ?_
   refine Ex.seq (rg 2 [4,5,6,10,11] (mkS 162 [(4,.ptr 1 0),(5,.sl (r_4.1.map A_Band) none),(6,.sl (r_5.1.map (AV.int .i64)) none),(10,i6 0),(11,.bool false)]) ⟨[(C_bk_Drum r_4.2),(C_City r_3.1)],[]⟩ ?_)
   refine Ex.seq (Ex.seq ?_)
   refine rg 1 [4,5,6,10,11,12] (mkS 162 [(4,.ptr 1 0),(5,.sl (r_4.1.map A_Band) none),(6,.sl (r_5.1.map (AV.int .i64)) none),(10,i6 0),(11,.bool false),(12,i6 0)]) ⟨[(C_bk_Drum r_4.2),(C_City r_3.1)],[]⟩ ?_
   obtain ⟨K_17,hK_18,h⟩:=letE h
   refine Ex.blockJ (fun a S => ∃ (people_15 : Int),K_17 people_15 = some r ∧ a = mkS 162 [(4,.ptr 1 0),(5,.sl (r_4.1.map A_Band) none),(6,.sl (r_5.1.map (AV.int .i64)) none),(10,i6 people_15),(11,.bool false)] ∧ S = ⟨[(C_bk_Drum r_4.2),(C_City r_3.1)],[]⟩) ?_ ?_
   ·obtain ⟨B_22,hB_23,h⟩:=loop2I h
    refine Ex.loopF (fun k a S => ∃ (people_19 : Int),∃ (i_20 : Int),loop2 B_22 k people_19 i_20 = some r ∧ a = mkS 162 [(4,.ptr 1 0),(5,.sl (r_4.1.map A_Band) none),(6,.sl (r_5.1.map (AV.int .i64)) none),(10,i6 people_19),(11,.bool false),(12,i6 i_20)] ∧ S = ⟨[(C_bk_Drum r_4.2),(C_City r_3.1)],[]⟩) N ⟨_,_,Forgets.refl _ _ _,0,0,h,rfl,rfl⟩ ?_
    rintro k a S ⟨people_19,i_20,h,rfl,rfl⟩
    cases k with
    | zero => exact (loop2Z h).elim
    | succ k =>
     replace h:=loop2S h hB_23
     refine Ex.seq (Ex.seq ?_)
     refine regH 4 [(2,.eq (i6 ((r_5.1.length : Nat) : Int)))] [4,5,6,10,11,12,58] [AV.int .i64 (((r_5.1.map (AV.int .i64)).length : Nat) : Int) = AV.int .i64 ((r_5.1.length : Nat) : Int)] (mkS 162 [(4,.ptr 1 0),(5,.sl (r_4.1.map A_Band) none),(6,.sl (r_5.1.map (AV.int .i64)) none),(10,i6 people_19),(11,.bool false),(12,i6 i_20),(58,.bool (decide (i_20 < ((r_5.1.length : Nat) : Int))))]) (⟨[(C_bk_Drum r_4.2),(C_City r_3.1)],[]⟩) (by kernel_rfl) ⟨lenM _ _,trivial⟩ rfl ?_
     rcases condI h with ⟨hc_24,h⟩ | ⟨hc_24,h⟩
     ·refine Ex.condT _ rfl hc_24 ?_
      refine Ex.skip ?_
      refine Ex.seq ?_
      refine Ex.blockK ?_
      refine Ex.seq ?_
      obtain ⟨K_27,hK_28,h⟩:=letE h
      refine Ex.seqJ (fun a S => ∃ (y_25 : Bool),K_27 y_25 = some r ∧ a = mkS 162 [(4,.ptr 1 0),(5,.sl (r_4.1.map A_Band) none),(6,.sl (r_5.1.map (AV.int .i64)) none),(10,i6 people_19),(11,.bool false),(12,i6 i_20),(74,.bool y_25)] ∧ S = ⟨[(C_bk_Drum r_4.2),(C_City r_3.1)],[]⟩) ?_ ?_
      ·obtain ⟨x_29,hx_29,h⟩:=bE h
       rcases condI h with ⟨hc_30,h⟩ | ⟨hc_30,h⟩
       ·refine regH 14 [(2,.rop [i6 x_29]),(5,.eq (.bool true))] [4,5,6,10,11,12,74] [LGet (r_5.1.map (AV.int .i64)) i_20 1 [i6 x_29],AV.bool (decide (x_29 < 0)) = AV.bool true] (mkS 162 [(4,.ptr 1 0),(5,.sl (r_4.1.map A_Band) none),(6,.sl (r_5.1.map (AV.int .i64)) none),(10,i6 people_19),(11,.bool false),(12,i6 i_20),(74,.bool true)]) (⟨[(C_bk_Drum r_4.2),(C_City r_3.1)],[]⟩) (by kernel_rfl) ⟨LGet.of hx_29 rfl,congrArg AV.bool hc_30,trivial⟩ rfl ?_
        (try simp only [reduceCtorEq,AEx.ex.injEq,Nat.reduceEqDiff,if_true,if_false])
        exact ⟨_,_,Forgets.refl _ _ _,true,h,rfl,rfl⟩
       ·obtain ⟨x_31,hx_31,h⟩:=bE h
        refine regH 14 [(2,.rop [i6 x_29]),(5,.eq (.bool false)),(8,.rop [i6 x_31]),(11,.eq (i6 ((r_4.1.length : Nat) : Int)))] [4,5,6,10,11,12,74] [LGet (r_5.1.map (AV.int .i64)) i_20 1 [i6 x_29],AV.bool (decide (x_29 < 0)) = AV.bool false,LGet (r_5.1.map (AV.int .i64)) i_20 1 [i6 x_31],AV.int .i64 (((r_4.1.map A_Band).length : Nat) : Int) = AV.int .i64 ((r_4.1.length : Nat) : Int)] (mkS 162 [(4,.ptr 1 0),(5,.sl (r_4.1.map A_Band) none),(6,.sl (r_5.1.map (AV.int .i64)) none),(10,i6 people_19),(11,.bool false),(12,i6 i_20),(74,.bool (decide (x_31 ≥ ((r_4.1.length : Nat) : Int))))]) (⟨[(C_bk_Drum r_4.2),(C_City r_3.1)],[]⟩) (by kernel_rfl) ⟨LGet.of hx_29 rfl,congrArg AV.bool hc_30,LGet.of hx_31 rfl,lenM _ _,trivial⟩ rfl ?_
        (try simp only [reduceCtorEq,AEx.ex.injEq,Nat.reduceEqDiff,if_true,if_false])
        exact ⟨_,_,Forgets.refl _ _ _,(decide (x_31 ≥ ((r_4.1.length : Nat) : Int))),h,rfl,rfl⟩
      ·rintro a S ⟨y_25,h,rfl,rfl⟩
       subst hK_28
       rcases condI h with ⟨hc_32,h⟩ | ⟨hc_32,h⟩
       ·refine Ex.condT _ rfl hc_32 ?_
        refine Ex.seq (rg 1 [2] (mkS 162 [(2,.bool false)]) ⟨[(C_bk_Drum r_4.2),(C_City r_3.1)],[]⟩ ?_)
        refine Ex.ret ?_
        obtain rfl:=sJ h
        exact rt (.bool false)
       ·refine Ex.condF _ rfl hc_32 ?_
        refine Ex.skip ?_
        obtain ⟨x_33,hx_33,h⟩:=bE h
        obtain ⟨x_34,hx_34,h⟩:=bE h
        refine regH 11 [(4,.rop [i6 x_33]),(6,.rop (C_Band x_34))] [4,5,6,10,11,12] [LGet (r_5.1.map (AV.int .i64)) i_20 1 [i6 x_33],LGet (r_4.1.map A_Band) x_33 6 (C_Band x_34)] (mkS 162 [(4,.ptr 1 0),(5,.sl (r_4.1.map A_Band) none),(6,.sl (r_5.1.map (AV.int .i64)) none),(10,i6 (IntKind.i64.wrap (people_19 + x_34.People))),(11,.bool false),(12,i6 i_20)]) (⟨[(C_bk_Drum r_4.2),(C_City r_3.1)],[]⟩) (by kernel_rfl) ⟨LGet.of hx_33 rfl,LGet.of hx_34 rfl,trivial⟩ rfl ?_
        refine rg 3 [4,5,6,10,11,12] (mkS 162 [(4,.ptr 1 0),(5,.sl (r_4.1.map A_Band) none),(6,.sl (r_5.1.map (AV.int .i64)) none),(10,i6 (IntKind.i64.wrap (people_19 + x_34.People))),(11,.bool false),(12,i6 (IntKind.i64.wrap (i_20 + 1)))]) ⟨[(C_bk_Drum r_4.2),(C_City r_3.1)],[]⟩ ?_
        dsimp only
        exact ⟨_,_,Forgets.refl _ _ _,k,Nat.lt_succ_self k,(IntKind.i64.wrap (people_19 + x_34.People)),(IntKind.i64.wrap (i_20 + 1)),h,rfl,rfl⟩
     ·refine Ex.condF _ rfl hc_24 ?_
      refine Ex.exit ?_
      (try simp only [reduceCtorEq,AEx.ex.injEq,Nat.reduceEqDiff,if_true,if_false])
      exact ⟨_,_,forgetK [4,5,6,10,11],people_19,h,rfl,rfl⟩
   ·rintro a S ⟨people_15,h,rfl,rfl⟩
    subst hK_18
    refine Ex.seq (Ex.seq ?_)
    refine rg 1 [4,5,6,10,11,13] (mkS 162 [(4,.ptr 1 0),(5,.sl (r_4.1.map A_Band) none),(6,.sl (r_5.1.map (AV.int .i64)) none),(10,i6 people_15),(11,.bool false),(13,i6 0)]) ⟨[(C_bk_Drum r_4.2),(C_City r_3.1)],[]⟩ ?_
    obtain ⟨K_37,hK_38,h⟩:=letE h
    refine Ex.blockJ (fun a S => ∃ (found_35 : Bool),K_37 found_35 = some r ∧ a = mkS 162 [(11,.bool found_35)] ∧ S = ⟨[],[]⟩) ?_ ?_
    ·obtain ⟨B_42,hB_43,h⟩:=loop2I h
     refine Ex.loopF (fun k a S => ∃ (found_39 : Bool),∃ (set_40 : Int),loop2 B_42 k found_39 set_40 = some r ∧ a = mkS 162 [(4,.ptr 1 0),(5,.sl (r_4.1.map A_Band) none),(6,.sl (r_5.1.map (AV.int .i64)) none),(10,i6 people_15),(11,.bool found_39),(13,i6 set_40)] ∧ S = ⟨[(C_bk_Drum r_4.2),(C_City r_3.1)],[]⟩) N ⟨_,_,Forgets.refl _ _ _,false,0,h,rfl,rfl⟩ ?_
     rintro k a S ⟨found_39,set_40,h,rfl,rfl⟩
     cases k with
     | zero => exact (loop2Z h).elim
     | succ k =>
      replace h:=loop2S h hB_43
      refine Ex.seq (Ex.seq ?_)
      obtain ⟨u_44,hu_44,h⟩:=bE h
      refine regH 5 [(2,.eq (i6 ((r_4.1.length : Nat) : Int))),(3,.bin (i6 (IntKind.i64.wrap (1 * ((2 : Int) ^ (min (Int.toNat ((r_4.1.length : Nat) : Int)) (IntKind.bits .i64)))))))] [4,5,6,10,11,13,89] [AV.int .i64 (((r_4.1.map A_Band).length : Nat) : Int) = AV.int .i64 ((r_4.1.length : Nat) : Int),binA .shl (i6 1) (i6 ((r_4.1.length : Nat) : Int)) = some (i6 (IntKind.i64.wrap (1 * ((2 : Int) ^ (min (Int.toNat ((r_4.1.length : Nat) : Int)) (IntKind.bits .i64))))))] (mkS 162 [(4,.ptr 1 0),(5,.sl (r_4.1.map A_Band) none),(6,.sl (r_5.1.map (AV.int .i64)) none),(10,i6 people_15),(11,.bool found_39),(13,i6 set_40),(89,.bool (decide (set_40 < (IntKind.i64.wrap (1 * ((2 : Int) ^ (min (Int.toNat ((r_4.1.length : Nat) : Int)) (IntKind.bits .i64))))))))]) (⟨[(C_bk_Drum r_4.2),(C_City r_3.1)],[]⟩) (by kernel_rfl) ⟨lenM _ _,binSl hu_44,trivial⟩ rfl ?_
      rcases condI h with ⟨hc_45,h⟩ | ⟨hc_45,h⟩
      ·refine Ex.condT _ rfl hc_45 ?_
       refine Ex.skip ?_
       refine Ex.seq ?_
       obtain ⟨K_48,hK_49,h⟩:=letE h
       refine Ex.blockJ (fun a S => ∃ (found_46 : Bool),K_48 found_46 = some r ∧ a = mkS 162 [(4,.ptr 1 0),(5,.sl (r_4.1.map A_Band) none),(6,.sl (r_5.1.map (AV.int .i64)) none),(10,i6 people_15),(11,.bool found_46),(13,i6 set_40)] ∧ S = ⟨[(C_bk_Drum r_4.2),(C_City r_3.1)],[]⟩) ?_ ?_
       ·refine Ex.seq ?_
        obtain ⟨r_50,hr_50,h⟩:=bE h
        refine Ex.reg (rn 2 [4,5,6,10,11,13,93,94] (mkS 162 [(4,.ptr 1 0),(5,.sl (r_4.1.map A_Band) none),(6,.sl (r_5.1.map (AV.int .i64)) none),(10,i6 people_15),(11,.bool found_39),(13,i6 set_40),(93,.sl (r_4.1.map A_Band) none),(94,i6 set_40)]) ⟨[(C_bk_Drum r_4.2),(C_City r_3.1)],[]⟩ ?_)
        refine ExO.callL [] [.sl (r_4.1.map A_Band) none,i6 set_40] rfl rfl (a_br7_Members r_4.1 set_40) rfl rfl (d_br7_Members N r_4.1 set_40 r_50 hr_50) (b_br7_Members _ _ _ _) rfl ?_
        refine rn 7 [4,5,6,10,11,13,14,15,16] (mkS 162 [(4,.ptr 1 0),(5,.sl (r_4.1.map A_Band) none),(6,.sl (r_5.1.map (AV.int .i64)) none),(10,i6 people_15),(11,.bool found_39),(13,i6 set_40),(14,.sl (r_50.1.map (AV.int .i64)) none),(15,.sl (r_50.2.1.map A_Band) none),(16,i6 r_50.2.2)]) ⟨[(C_bk_Drum r_4.2),(C_City r_3.1)],[]⟩ ?_
        refine ExO.nil ?_
        refine Ex.seq ?_
        obtain ⟨r_51,hr_51,h⟩:=bE h
        refine Ex.reg (rn 2 [4,5,6,10,11,13,14,15,16,99,100] (mkS 162 [(4,.ptr 1 0),(5,.sl (r_4.1.map A_Band) none),(6,.sl (r_5.1.map (AV.int .i64)) none),(10,i6 people_15),(11,.bool found_39),(13,i6 set_40),(14,.sl (r_50.1.map (AV.int .i64)) none),(15,.sl (r_50.2.1.map A_Band) none),(16,i6 r_50.2.2),(99,.sl (r_50.1.map (AV.int .i64)) none),(100,.sl (r_5.1.map (AV.int .i64)) none)]) ⟨[(C_bk_Drum r_4.2),(C_City r_3.1)],[]⟩ ?_)
        refine ExO.callL [] [.sl (r_50.1.map (AV.int .i64)) none,.sl (r_5.1.map (AV.int .i64)) none] rfl rfl (a_bk_EqInts r_50.1 r_5.1) rfl rfl (d_bk_EqInts N r_50.1 r_5.1 r_51 hr_51) (b_bk_EqInts _ _ _ _) rfl ?_
        refine rn 1 [4,5,6,10,11,13,14,15,16,17] (mkS 162 [(4,.ptr 1 0),(5,.sl (r_4.1.map A_Band) none),(6,.sl (r_5.1.map (AV.int .i64)) none),(10,i6 people_15),(11,.bool found_39),(13,i6 set_40),(14,.sl (r_50.1.map (AV.int .i64)) none),(15,.sl (r_50.2.1.map A_Band) none),(16,i6 r_50.2.2),(17,.bool r_51)]) ⟨[(C_bk_Drum r_4.2),(C_City r_3.1)],[]⟩ ?_
        refine ExO.nil ?_
        obtain ⟨K_54,hK_55,h⟩:=letE h
        refine Ex.seqJ (fun a S => ∃ (better_52 : Bool),K_54 better_52 = some r ∧ a = mkS 162 [(4,.ptr 1 0),(5,.sl (r_4.1.map A_Band) none),(6,.sl (r_5.1.map (AV.int .i64)) none),(10,i6 people_15),(11,.bool found_39),(13,i6 set_40),(15,.sl (r_50.2.1.map A_Band) none),(17,.bool r_51),(18,.bool better_52)] ∧ S = ⟨[(C_bk_Drum r_4.2),(C_City r_3.1)],[]⟩) ?_ ?_
        ·rcases condI h with ⟨hc_56,h⟩ | ⟨hc_56,h⟩
         ·refine regH 28 [(1,.eq (i6 ((r_50.1.length : Nat) : Int))),(3,.eq (i6 ((r_5.1.length : Nat) : Int))),(5,.eq (.bool true))] [4,5,6,10,11,13,15,17,18] [AV.int .i64 (((r_50.1.map (AV.int .i64)).length : Nat) : Int) = AV.int .i64 ((r_50.1.length : Nat) : Int),AV.int .i64 (((r_5.1.map (AV.int .i64)).length : Nat) : Int) = AV.int .i64 ((r_5.1.length : Nat) : Int),AV.bool (decide (((r_50.1.length : Nat) : Int) > ((r_5.1.length : Nat) : Int))) = AV.bool true] (mkS 162 [(4,.ptr 1 0),(5,.sl (r_4.1.map A_Band) none),(6,.sl (r_5.1.map (AV.int .i64)) none),(10,i6 people_15),(11,.bool found_39),(13,i6 set_40),(15,.sl (r_50.2.1.map A_Band) none),(17,.bool r_51),(18,.bool true)]) (⟨[(C_bk_Drum r_4.2),(C_City r_3.1)],[]⟩) (by kernel_rfl) ⟨lenM _ _,lenM _ _,congrArg AV.bool hc_56,trivial⟩ rfl ?_
          (try simp only [reduceCtorEq,AEx.ex.injEq,Nat.reduceEqDiff,if_true,if_false])
          exact ⟨_,_,Forgets.refl _ _ _,true,h,rfl,rfl⟩
         ·rcases condI h with ⟨hc_57,h⟩ | ⟨hc_57,h⟩
          ·rcases condI h with ⟨hc_58,h⟩ | ⟨hc_58,h⟩
           ·refine regH 28 [(1,.eq (i6 ((r_50.1.length : Nat) : Int))),(3,.eq (i6 ((r_5.1.length : Nat) : Int))),(5,.eq (.bool false)),(7,.eq (i6 ((r_50.1.length : Nat) : Int))),(9,.eq (i6 ((r_5.1.length : Nat) : Int))),(11,.eq (.bool true)),(15,.eq (.bool true))] [4,5,6,10,11,13,15,17,18] [AV.int .i64 (((r_50.1.map (AV.int .i64)).length : Nat) : Int) = AV.int .i64 ((r_50.1.length : Nat) : Int),AV.int .i64 (((r_5.1.map (AV.int .i64)).length : Nat) : Int) = AV.int .i64 ((r_5.1.length : Nat) : Int),AV.bool (decide (((r_50.1.length : Nat) : Int) > ((r_5.1.length : Nat) : Int))) = AV.bool false,AV.int .i64 (((r_50.1.map (AV.int .i64)).length : Nat) : Int) = AV.int .i64 ((r_50.1.length : Nat) : Int),AV.int .i64 (((r_5.1.map (AV.int .i64)).length : Nat) : Int) = AV.int .i64 ((r_5.1.length : Nat) : Int),AV.bool (((r_50.1.length : Nat) : Int) == ((r_5.1.length : Nat) : Int)) = AV.bool true,AV.bool (decide (r_50.2.2 > people_15)) = AV.bool true] (mkS 162 [(4,.ptr 1 0),(5,.sl (r_4.1.map A_Band) none),(6,.sl (r_5.1.map (AV.int .i64)) none),(10,i6 people_15),(11,.bool found_39),(13,i6 set_40),(15,.sl (r_50.2.1.map A_Band) none),(17,.bool r_51),(18,.bool true)]) (⟨[(C_bk_Drum r_4.2),(C_City r_3.1)],[]⟩) (by kernel_rfl) ⟨lenM _ _,lenM _ _,congrArg AV.bool hc_56,lenM _ _,lenM _ _,congrArg AV.bool hc_57,congrArg AV.bool hc_58,trivial⟩ rfl ?_
            (try simp only [reduceCtorEq,AEx.ex.injEq,Nat.reduceEqDiff,if_true,if_false])
            exact ⟨_,_,Forgets.refl _ _ _,true,h,rfl,rfl⟩
           ·rcases condI h with ⟨hc_59,h⟩ | ⟨hc_59,h⟩
            ·obtain ⟨r_60,hr_60,h⟩:=bE h
             refine Ex.reg ?_
             refine runH 22 [(1,.eq (i6 ((r_50.1.length : Nat) : Int))),(3,.eq (i6 ((r_5.1.length : Nat) : Int))),(5,.eq (.bool false)),(7,.eq (i6 ((r_50.1.length : Nat) : Int))),(9,.eq (i6 ((r_5.1.length : Nat) : Int))),(11,.eq (.bool true)),(15,.eq (.bool false)),(19,.eq (.bool true))] [4,5,6,10,11,13,15,17,107,113,117,121,122,123] [AV.int .i64 (((r_50.1.map (AV.int .i64)).length : Nat) : Int) = AV.int .i64 ((r_50.1.length : Nat) : Int),AV.int .i64 (((r_5.1.map (AV.int .i64)).length : Nat) : Int) = AV.int .i64 ((r_5.1.length : Nat) : Int),AV.bool (decide (((r_50.1.length : Nat) : Int) > ((r_5.1.length : Nat) : Int))) = AV.bool false,AV.int .i64 (((r_50.1.map (AV.int .i64)).length : Nat) : Int) = AV.int .i64 ((r_50.1.length : Nat) : Int),AV.int .i64 (((r_5.1.map (AV.int .i64)).length : Nat) : Int) = AV.int .i64 ((r_5.1.length : Nat) : Int),AV.bool (((r_50.1.length : Nat) : Int) == ((r_5.1.length : Nat) : Int)) = AV.bool true,AV.bool (decide (r_50.2.2 > people_15)) = AV.bool false,AV.bool (r_50.2.2 == people_15) = AV.bool true] (mkS 162 [(4,.ptr 1 0),(5,.sl (r_4.1.map A_Band) none),(6,.sl (r_5.1.map (AV.int .i64)) none),(10,i6 people_15),(11,.bool found_39),(13,i6 set_40),(15,.sl (r_50.2.1.map A_Band) none),(17,.bool r_51),(107,.bool false),(113,.bool true),(117,.bool false),(121,.bool true),(122,.sl (r_50.1.map (AV.int .i64)) none),(123,.sl (r_5.1.map (AV.int .i64)) none)]) (⟨[(C_bk_Drum r_4.2),(C_City r_3.1)],[]⟩) (by kernel_rfl) ⟨lenM _ _,lenM _ _,congrArg AV.bool hc_56,lenM _ _,lenM _ _,congrArg AV.bool hc_57,congrArg AV.bool hc_58,congrArg AV.bool hc_59,trivial⟩ ?_
             refine ExO.callL [] [.sl (r_50.1.map (AV.int .i64)) none,.sl (r_5.1.map (AV.int .i64)) none] rfl rfl (a_br7_Before r_50.1 r_5.1) rfl rfl (d_br7_Before N r_50.1 r_5.1 r_60 hr_60) (b_br7_Before _ _ _ _) rfl ?_
             refine rn 5 [4,5,6,10,11,13,15,17,18] (mkS 162 [(4,.ptr 1 0),(5,.sl (r_4.1.map A_Band) none),(6,.sl (r_5.1.map (AV.int .i64)) none),(10,i6 people_15),(11,.bool found_39),(13,i6 set_40),(15,.sl (r_50.2.1.map A_Band) none),(17,.bool r_51),(18,.bool r_60)]) ⟨[(C_bk_Drum r_4.2),(C_City r_3.1)],[]⟩ ?_
             refine ExO.nil ?_
             (try simp only [reduceCtorEq,AEx.ex.injEq,Nat.reduceEqDiff,if_true,if_false])
             exact ⟨_,_,Forgets.refl _ _ _,r_60,h,rfl,rfl⟩
            ·refine regH 28 [(1,.eq (i6 ((r_50.1.length : Nat) : Int))),(3,.eq (i6 ((r_5.1.length : Nat) : Int))),(5,.eq (.bool false)),(7,.eq (i6 ((r_50.1.length : Nat) : Int))),(9,.eq (i6 ((r_5.1.length : Nat) : Int))),(11,.eq (.bool true)),(15,.eq (.bool false)),(19,.eq (.bool false))] [4,5,6,10,11,13,15,17,18] [AV.int .i64 (((r_50.1.map (AV.int .i64)).length : Nat) : Int) = AV.int .i64 ((r_50.1.length : Nat) : Int),AV.int .i64 (((r_5.1.map (AV.int .i64)).length : Nat) : Int) = AV.int .i64 ((r_5.1.length : Nat) : Int),AV.bool (decide (((r_50.1.length : Nat) : Int) > ((r_5.1.length : Nat) : Int))) = AV.bool false,AV.int .i64 (((r_50.1.map (AV.int .i64)).length : Nat) : Int) = AV.int .i64 ((r_50.1.length : Nat) : Int),AV.int .i64 (((r_5.1.map (AV.int .i64)).length : Nat) : Int) = AV.int .i64 ((r_5.1.length : Nat) : Int),AV.bool (((r_50.1.length : Nat) : Int) == ((r_5.1.length : Nat) : Int)) = AV.bool true,AV.bool (decide (r_50.2.2 > people_15)) = AV.bool false,AV.bool (r_50.2.2 == people_15) = AV.bool false] (mkS 162 [(4,.ptr 1 0),(5,.sl (r_4.1.map A_Band) none),(6,.sl (r_5.1.map (AV.int .i64)) none),(10,i6 people_15),(11,.bool found_39),(13,i6 set_40),(15,.sl (r_50.2.1.map A_Band) none),(17,.bool r_51),(18,.bool false)]) (⟨[(C_bk_Drum r_4.2),(C_City r_3.1)],[]⟩) (by kernel_rfl) ⟨lenM _ _,lenM _ _,congrArg AV.bool hc_56,lenM _ _,lenM _ _,congrArg AV.bool hc_57,congrArg AV.bool hc_58,congrArg AV.bool hc_59,trivial⟩ rfl ?_
             (try simp only [reduceCtorEq,AEx.ex.injEq,Nat.reduceEqDiff,if_true,if_false])
             exact ⟨_,_,Forgets.refl _ _ _,false,h,rfl,rfl⟩
          ·refine regH 28 [(1,.eq (i6 ((r_50.1.length : Nat) : Int))),(3,.eq (i6 ((r_5.1.length : Nat) : Int))),(5,.eq (.bool false)),(7,.eq (i6 ((r_50.1.length : Nat) : Int))),(9,.eq (i6 ((r_5.1.length : Nat) : Int))),(11,.eq (.bool false))] [4,5,6,10,11,13,15,17,18] [AV.int .i64 (((r_50.1.map (AV.int .i64)).length : Nat) : Int) = AV.int .i64 ((r_50.1.length : Nat) : Int),AV.int .i64 (((r_5.1.map (AV.int .i64)).length : Nat) : Int) = AV.int .i64 ((r_5.1.length : Nat) : Int),AV.bool (decide (((r_50.1.length : Nat) : Int) > ((r_5.1.length : Nat) : Int))) = AV.bool false,AV.int .i64 (((r_50.1.map (AV.int .i64)).length : Nat) : Int) = AV.int .i64 ((r_50.1.length : Nat) : Int),AV.int .i64 (((r_5.1.map (AV.int .i64)).length : Nat) : Int) = AV.int .i64 ((r_5.1.length : Nat) : Int),AV.bool (((r_50.1.length : Nat) : Int) == ((r_5.1.length : Nat) : Int)) = AV.bool false] (mkS 162 [(4,.ptr 1 0),(5,.sl (r_4.1.map A_Band) none),(6,.sl (r_5.1.map (AV.int .i64)) none),(10,i6 people_15),(11,.bool found_39),(13,i6 set_40),(15,.sl (r_50.2.1.map A_Band) none),(17,.bool r_51),(18,.bool false)]) (⟨[(C_bk_Drum r_4.2),(C_City r_3.1)],[]⟩) (by kernel_rfl) ⟨lenM _ _,lenM _ _,congrArg AV.bool hc_56,lenM _ _,lenM _ _,congrArg AV.bool hc_57,trivial⟩ rfl ?_
           (try simp only [reduceCtorEq,AEx.ex.injEq,Nat.reduceEqDiff,if_true,if_false])
           exact ⟨_,_,Forgets.refl _ _ _,false,h,rfl,rfl⟩
        ·rintro a S ⟨better_52,h,rfl,rfl⟩
         subst hK_55
         refine Ex.seq ?_
         obtain ⟨K_63,hK_64,h⟩:=letE h
         refine Ex.seqJ (fun a S => ∃ (y_61 : Bool),K_63 y_61 = some r ∧ a = mkS 162 [(4,.ptr 1 0),(5,.sl (r_4.1.map A_Band) none),(6,.sl (r_5.1.map (AV.int .i64)) none),(10,i6 people_15),(11,.bool found_39),(13,i6 set_40),(15,.sl (r_50.2.1.map A_Band) none),(17,.bool r_51),(134,.bool y_61)] ∧ S = ⟨[(C_bk_Drum r_4.2),(C_City r_3.1)],[]⟩) ?_ ?_
         ·rcases condI h with ⟨hc_65,h⟩ | ⟨hc_65,h⟩
          ·refine regH 6 [(2,.eq (.bool true))] [4,5,6,10,11,13,15,17,134] [AV.bool (!r_51) = AV.bool true] (mkS 162 [(4,.ptr 1 0),(5,.sl (r_4.1.map A_Band) none),(6,.sl (r_5.1.map (AV.int .i64)) none),(10,i6 people_15),(11,.bool found_39),(13,i6 set_40),(15,.sl (r_50.2.1.map A_Band) none),(17,.bool r_51),(134,.bool (!better_52))]) (⟨[(C_bk_Drum r_4.2),(C_City r_3.1)],[]⟩) (by kernel_rfl) ⟨congrArg AV.bool hc_65,trivial⟩ rfl ?_
           (try simp only [reduceCtorEq,AEx.ex.injEq,Nat.reduceEqDiff,if_true,if_false])
           exact ⟨_,_,Forgets.refl _ _ _,(!better_52),h,rfl,rfl⟩
          ·refine regH 6 [(2,.eq (.bool false))] [4,5,6,10,11,13,15,17,134] [AV.bool (!r_51) = AV.bool false] (mkS 162 [(4,.ptr 1 0),(5,.sl (r_4.1.map A_Band) none),(6,.sl (r_5.1.map (AV.int .i64)) none),(10,i6 people_15),(11,.bool found_39),(13,i6 set_40),(15,.sl (r_50.2.1.map A_Band) none),(17,.bool r_51),(134,.bool false)]) (⟨[(C_bk_Drum r_4.2),(C_City r_3.1)],[]⟩) (by kernel_rfl) ⟨congrArg AV.bool hc_65,trivial⟩ rfl ?_
           (try simp only [reduceCtorEq,AEx.ex.injEq,Nat.reduceEqDiff,if_true,if_false])
           exact ⟨_,_,Forgets.refl _ _ _,false,h,rfl,rfl⟩
         ·rintro a S ⟨y_61,h,rfl,rfl⟩
          subst hK_64
          rcases condI h with ⟨hc_66,h⟩ | ⟨hc_66,h⟩
          ·refine Ex.condT _ rfl hc_66 ?_
           refine Ex.exit ?_
           (try simp only [reduceCtorEq,AEx.ex.injEq,Nat.reduceEqDiff,if_true,if_false])
           exact ⟨_,_,forgetK [4,5,6,10,11,13],found_39,h,rfl,rfl⟩
          ·refine Ex.condF _ rfl hc_66 ?_
           refine Ex.skip ?_
           refine Ex.seq ?_
           obtain ⟨r_67,hr_67,h⟩:=bE h
           refine Ex.reg (rn 2 [4,5,6,10,11,13,15,17,136,137] (mkS 162 [(4,.ptr 1 0),(5,.sl (r_4.1.map A_Band) none),(6,.sl (r_5.1.map (AV.int .i64)) none),(10,i6 people_15),(11,.bool found_39),(13,i6 set_40),(15,.sl (r_50.2.1.map A_Band) none),(17,.bool r_51),(136,(A_City r_3.1)),(137,.sl (r_50.2.1.map A_Band) none)]) ⟨[(C_bk_Drum r_4.2),(C_City r_3.1)],[]⟩ ?_)
           refine ExO.callL [] [(A_City r_3.1),.sl (r_50.2.1.map A_Band) none] rfl rfl (a_band_Grant r_3.1 r_50.2.1) rfl rfl (d_band_Grant N r_3.1 r_50.2.1 r_67 hr_67) (b_band_Grant _ _ _ _) rfl ?_
           refine rn 5 [4,5,6,10,11,13,15,17,19,20] (mkS 162 [(4,.ptr 1 0),(5,.sl (r_4.1.map A_Band) none),(6,.sl (r_5.1.map (AV.int .i64)) none),(10,i6 people_15),(11,.bool found_39),(13,i6 set_40),(15,.sl (r_50.2.1.map A_Band) none),(17,.bool r_51),(19,.sl (r_67.1.map (AV.int .i64)) none),(20,i6 r_67.2)]) ⟨[(C_bk_Drum r_4.2),(C_City r_3.1)],[]⟩ ?_
           refine ExO.nil ?_
           refine Ex.seq ?_
           obtain ⟨K_70,hK_71,h⟩:=letE h
           refine Ex.seqJ (fun a S => ∃ (y_68 : Bool),K_70 y_68 = some r ∧ a = mkS 162 [(4,.ptr 1 0),(5,.sl (r_4.1.map A_Band) none),(6,.sl (r_5.1.map (AV.int .i64)) none),(10,i6 people_15),(11,.bool found_39),(13,i6 set_40),(17,.bool r_51),(153,.bool y_68)] ∧ S = ⟨[(C_bk_Drum r_4.2),(C_City r_3.1)],[]⟩) ?_ ?_
           ·rcases condI h with ⟨hc_72,h⟩ | ⟨hc_72,h⟩
            ·refine regH 13 [(2,.eq (.bool true))] [4,5,6,10,11,13,17,153] [AV.bool (r_67.2 != 0) = AV.bool true] (mkS 162 [(4,.ptr 1 0),(5,.sl (r_4.1.map A_Band) none),(6,.sl (r_5.1.map (AV.int .i64)) none),(10,i6 people_15),(11,.bool found_39),(13,i6 set_40),(17,.bool r_51),(153,.bool true)]) (⟨[(C_bk_Drum r_4.2),(C_City r_3.1)],[]⟩) (by kernel_rfl) ⟨congrArg AV.bool hc_72,trivial⟩ rfl ?_
             (try simp only [reduceCtorEq,AEx.ex.injEq,Nat.reduceEqDiff,if_true,if_false])
             exact ⟨_,_,Forgets.refl _ _ _,true,h,rfl,rfl⟩
            ·obtain ⟨r_73,hr_73,h⟩:=bE h
             refine Ex.reg ?_
             refine runH 5 [(2,.eq (.bool false))] [4,5,6,10,11,13,15,17,143,144,145] [AV.bool (r_67.2 != 0) = AV.bool false] (mkS 162 [(4,.ptr 1 0),(5,.sl (r_4.1.map A_Band) none),(6,.sl (r_5.1.map (AV.int .i64)) none),(10,i6 people_15),(11,.bool found_39),(13,i6 set_40),(15,.sl (r_50.2.1.map A_Band) none),(17,.bool r_51),(143,.bool false),(144,.sl (r_50.2.1.map A_Band) none),(145,.sl (r_67.1.map (AV.int .i64)) none)]) (⟨[(C_bk_Drum r_4.2),(C_City r_3.1)],[]⟩) (by kernel_rfl) ⟨congrArg AV.bool hc_72,trivial⟩ ?_
             refine ExO.callL [] [.sl (r_50.2.1.map A_Band) none,.sl (r_67.1.map (AV.int .i64)) none] rfl rfl (a_bl7_granted r_50.2.1 r_67.1) rfl rfl (d_bl7_granted N r_50.2.1 r_67.1 r_73 hr_73) (b_bl7_granted _ _ _ _) rfl ?_
             refine runH 7 [(0,.eq (i6 ((r_73.length : Nat) : Int))),(2,.eq (i6 ((r_50.2.1.length : Nat) : Int)))] [4,5,6,10,11,13,17,153] [AV.int .i64 (((r_73.map A_Band).length : Nat) : Int) = AV.int .i64 ((r_73.length : Nat) : Int),AV.int .i64 (((r_50.2.1.map A_Band).length : Nat) : Int) = AV.int .i64 ((r_50.2.1.length : Nat) : Int)] (mkS 162 [(4,.ptr 1 0),(5,.sl (r_4.1.map A_Band) none),(6,.sl (r_5.1.map (AV.int .i64)) none),(10,i6 people_15),(11,.bool found_39),(13,i6 set_40),(17,.bool r_51),(153,.bool (!((((r_73.length : Nat) : Int) == ((r_50.2.1.length : Nat) : Int)) == r_51)))]) (⟨[(C_bk_Drum r_4.2),(C_City r_3.1)],[]⟩) (by kernel_rfl) ⟨lenM _ _,lenM _ _,trivial⟩ ?_
             refine ExO.nil ?_
             (try simp only [reduceCtorEq,AEx.ex.injEq,Nat.reduceEqDiff,if_true,if_false])
             exact ⟨_,_,Forgets.refl _ _ _,(!((((r_73.length : Nat) : Int) == ((r_50.2.1.length : Nat) : Int)) == r_51)),h,rfl,rfl⟩
           ·rintro a S ⟨y_68,h,rfl,rfl⟩
            subst hK_71
            rcases condI h with ⟨hc_74,h⟩ | ⟨hc_74,h⟩
            ·refine Ex.condT _ rfl hc_74 ?_
             refine Ex.seq (rg 1 [2] (mkS 162 [(2,.bool false)]) ⟨[(C_bk_Drum r_4.2),(C_City r_3.1)],[]⟩ ?_)
             refine Ex.ret ?_
             obtain rfl:=sJ h
             exact rt (.bool false)
            ·refine Ex.condF _ rfl hc_74 ?_
             refine Ex.skip ?_
             rcases condI h with ⟨hc_75,h⟩ | ⟨hc_75,h⟩
             ·refine regH 5 [(1,.eq (.bool true))] [4,5,6,10,11,13] [AV.bool found_39 = AV.bool true] (mkS 162 [(4,.ptr 1 0),(5,.sl (r_4.1.map A_Band) none),(6,.sl (r_5.1.map (AV.int .i64)) none),(10,i6 people_15),(11,.bool true),(13,i6 set_40)]) (⟨[(C_bk_Drum r_4.2),(C_City r_3.1)],[]⟩) (by kernel_rfl) ⟨congrArg AV.bool hc_75,trivial⟩ rfl ?_
              (try simp only [reduceCtorEq,AEx.ex.injEq,Nat.reduceEqDiff,if_true,if_false])
              exact ⟨_,_,Forgets.refl _ _ _,true,h,rfl,rfl⟩
             ·refine regH 5 [(1,.eq (.bool false))] [4,5,6,10,11,13] [AV.bool found_39 = AV.bool false] (mkS 162 [(4,.ptr 1 0),(5,.sl (r_4.1.map A_Band) none),(6,.sl (r_5.1.map (AV.int .i64)) none),(10,i6 people_15),(11,.bool r_51),(13,i6 set_40)]) (⟨[(C_bk_Drum r_4.2),(C_City r_3.1)],[]⟩) (by kernel_rfl) ⟨congrArg AV.bool hc_75,trivial⟩ rfl ?_
              (try simp only [reduceCtorEq,AEx.ex.injEq,Nat.reduceEqDiff,if_true,if_false])
              exact ⟨_,_,Forgets.refl _ _ _,r_51,h,rfl,rfl⟩
       ·rintro a S ⟨found_46,h,rfl,rfl⟩
        subst hK_49
        refine rg 3 [4,5,6,10,11,13] (mkS 162 [(4,.ptr 1 0),(5,.sl (r_4.1.map A_Band) none),(6,.sl (r_5.1.map (AV.int .i64)) none),(10,i6 people_15),(11,.bool found_46),(13,i6 (IntKind.i64.wrap (set_40 + 1)))]) ⟨[(C_bk_Drum r_4.2),(C_City r_3.1)],[]⟩ ?_
        dsimp only
        exact ⟨_,_,Forgets.refl _ _ _,k,Nat.lt_succ_self k,found_46,(IntKind.i64.wrap (set_40 + 1)),h,rfl,rfl⟩
      ·refine Ex.condF _ rfl hc_45 ?_
       refine Ex.exit ?_
       (try simp only [reduceCtorEq,AEx.ex.injEq,Nat.reduceEqDiff,if_true,if_false])
       exact ⟨_,_,forgetA (m:=162) 0 [] [(11,.bool found_39)] [] [] (by simp [setAll]) (by simp) ⟨rfl,trivial⟩ (by simp) rfl (by decide),found_39,h,rfl,rfl⟩
    ·rintro a S ⟨found_35,h,rfl,rfl⟩
     subst hK_38
     refine Ex.seq ?_
     rcases condI h with ⟨hc_76,h⟩ | ⟨hc_76,h⟩
     ·obtain ⟨r_77,hr_77,h⟩:=bE h
      refine Ex.reg ?_
      refine runH 2 [(1,.eq (.bool true))] [159] [AV.bool found_35 = AV.bool true] (mkS 162 [(159,.bool true)]) (⟨[],[]⟩) (by kernel_rfl) ⟨congrArg AV.bool hc_76,trivial⟩ ?_
      refine ExO.callL [] [] rfl rfl (a_bl7_awake) rfl rfl (d_bl7_awake N r_77 hr_77) (b_bl7_awake _ _ _ _) rfl ?_
      refine rn 2 [2] (mkS 162 [(2,.bool r_77)]) ⟨[],[]⟩ ?_
      refine ExO.nil ?_
      refine Ex.ret ?_
      obtain rfl:=sJ h
      exact rt (.bool r_77)
     ·refine regH 5 [(1,.eq (.bool false))] [2] [AV.bool found_35 = AV.bool false] (mkS 162 [(2,.bool false)]) (⟨[],[]⟩) (by kernel_rfl) ⟨congrArg AV.bool hc_76,trivial⟩ rfl ?_
      refine Ex.ret ?_
      obtain rfl:=sJ h
      exact rt (.bool false)
end Go.Proofs.YtkchfjblcfbajaaDoor
end
section
namespace Go.Proofs.YtkchfjblcfbajaaDoor
open Go.RowKit
set_option maxHeartbeats 400000

theorem granted_c (N : Nat) (hN : 1000 < N) (l : List T_Band) (e : List Int) (hl : l.length ≤ 100) : p_bl7_granted N l e = some (kept l e):=by
 unfold p_bl7_granted
 let T : Option (List T_Band) → Prop:=fun r => r = some (kept l e)
 show T _
 refine letJ_gen T _ _ (fun K1 hK1 => ?_)
 refine loop2_T T (fun (out : List T_Band) y => ∃ i : Nat,y = (i : Int) ∧ i ≤ l.length ∧ out.length ≤ i ∧ out ++ kept (l.drop i) (e.drop i) = kept l e) (fun out y => l.length - y.toNat) ?_ N [] 0 ⟨0,rfl,Nat.zero_le _,Nat.le_refl _,by simp⟩ (by simp; omega)
 rintro rec out y ⟨i,rfl,hi,ho,hk⟩ ih
 simp only [letJ_eq]
 have stop : kept (l.drop i) (e.drop i) = [] → T (K1 out):=fun h => by
  rw [h,List.append_nil] at hk
  rw [hK1,hk]
 by_cases h1 : i < l.length
 ·rw [ltD h1,cond_true]
  by_cases h2 : i < e.length
  ·rw [ltD h2,cond_true]
   have hx : e[i]? = some e[i]:=List.getElem?_eq_getElem h2
   have hb : l[i]? = some l[i]:=List.getElem?_eq_getElem h1
   rw [List.drop_eq_getElem_cons h1,List.drop_eq_getElem_cons h2,kept_cons] at hk
   rw [getD_at hx,Option.bind_some,nadd1 i (by omega)]
   cases hz : e[i] == 0 with
   | true =>
    rw [hz,cond_true] at hk
    rw [cond_true,getD_at hb,Option.bind_some,pushI_ok (by simp; omega),Option.bind_some]
    exact ih _ _ ⟨i + 1,rfl,by omega,by simp; omega,by rw [List.append_assoc]; exact hk⟩ (by omega)
   | false =>
    rw [hz,cond_false,List.nil_append] at hk
    rw [cond_false]
    exact ih _ _ ⟨i + 1,rfl,by omega,by omega,hk⟩ (by omega)
  ·rw [dF (show ¬ ((i : Int) < ((e.length : Nat) : Int)) by omega),cond_false]
   refine stop ?_
   rw [List.drop_eq_nil_of_le (show e.length ≤ i by omega)]
   simp [kept]
 ·rw [dF (show ¬ ((i : Int) < ((l.length : Nat) : Int)) by omega),cond_false,cond_false]
  refine stop ?_
  rw [List.drop_eq_nil_of_le (show l.length ≤ i by omega)]
  simp [kept]
theorem eqIntsD_p (N : Nat) (a b : List Int) (hN : a.length < N) (hl : a.length < 65537) : p_bk_EqInts N a b = some (decide (a = b)):=by
 unfold p_bk_EqInts
 by_cases hlen : a.length = b.length
 ·rw [show (((a.length : Nat) : Int) != ((b.length : Nat) : Int)) = false from by simp [hlen],cond_false]
  let T : Option Bool → Prop:=fun r => r = some (decide (a = b))
  show T _
  refine letJ_gen T _ _ (fun K1 hK1 => ?_)
  refine loop1_T T (fun y => ∃ i : Nat,y = (i : Int) ∧ i ≤ a.length ∧ ∀ j,j < i → a[j]? = b[j]?) (fun y => a.length - y.toNat) ?_ N 0 ⟨0,rfl,Nat.zero_le _,fun j hj => absurd hj (Nat.not_lt_zero _)⟩ (by simpa using hN)
  rintro rec y ⟨i,rfl,hi,hij⟩ ih
  by_cases hlt : i < a.length
  ·have hx : a[i]? = some a[i]:=List.getElem?_eq_getElem hlt
   have hy : b[i]? = some b[i]:=List.getElem?_eq_getElem (by omega)
   rw [ltD hlt,cond_true,getD_at hx,Option.bind_some,getD_at hy,Option.bind_some]
   by_cases he : a[i] = b[i]
   ·rw [show (a[i] != b[i]) = false from by simpa using he,cond_false,nadd1 i (by omega)]
    refine ih _ ⟨i + 1,rfl,by omega,fun j hj => ?_⟩ (by omega)
    by_cases hji : j = i
    ·subst hji; rw [hx,hy,he]
    ·exact hij j (by omega)
   ·rw [show (a[i] != b[i]) = true from by simpa using he,cond_true]
    show some false = some _
    rw [dF (fun hh => he (by subst hh; rfl))]
  ·have : i = a.length:=by omega
   subst this
   rw [ltE,cond_false,hK1]
   show some true = some _
   rw [dT]
   apply List.ext_getElem?
   intro j
   by_cases hj : j < a.length
   ·exact hij j hj
   ·rw [List.getElem?_eq_none (by omega),List.getElem?_eq_none (by omega)]
 ·rw [show (((a.length : Nat) : Int) != ((b.length : Nat) : Int)) = true from by simp; omega,cond_true,dF fun hh => hlen (by rw [hh])]
def lexB : List Int → List Int → Bool
 | [],[] => false
 | [],_ :: _ => true
 | _ :: _,[] => false
 | x :: a,y :: b => bif x == y then lexB a b else decide (x < y)
theorem before_p (N : Nat) (a b : List Int) (hN : a.length < N) (hl : a.length < 65537) : p_br7_Before N a b = some (lexB a b):=by
 unfold p_br7_Before
 let T : Option Bool → Prop:=fun r => r = some (lexB a b)
 show T _
 refine letJ_gen T _ _ (fun K1 hK1 => ?_)
 refine loop1_T T (fun y => ∃ i : Nat,y = (i : Int) ∧ i ≤ a.length ∧ i ≤ b.length ∧ lexB (a.drop i) (b.drop i) = lexB a b) (fun y => a.length - y.toNat) ?_ N 0 ⟨0,rfl,Nat.zero_le _,Nat.zero_le _,rfl⟩ (by simpa using hN)
 rintro rec y ⟨i,rfl,hi,hi2,hd⟩ ih
 simp only [letJ_eq]
 by_cases h1 : i < a.length
 ·rw [ltD h1,cond_true]
  by_cases h2 : i < b.length
  ·rw [ltD h2,cond_true]
   have hx : a[i]? = some a[i]:=List.getElem?_eq_getElem h1
   have hy : b[i]? = some b[i]:=List.getElem?_eq_getElem h2
   rw [List.drop_eq_getElem_cons h1,List.drop_eq_getElem_cons h2,lexB] at hd
   rw [getD_at hx,Option.bind_some,getD_at hy,Option.bind_some,nadd1 i (by omega)]
   by_cases he : a[i] = b[i]
   ·rw [show (a[i] != b[i]) = false from by simpa using he,cond_false]
    rw [show (a[i] == b[i]) = true from by simpa using he,cond_true] at hd
    exact ih _ ⟨i + 1,rfl,by omega,by omega,hd⟩ (by omega)
   ·rw [show (a[i] != b[i]) = true from by simpa using he,cond_true,Option.bind_some,Option.bind_some]
    rw [show (a[i] == b[i]) = false from by simpa using he,cond_false] at hd
    show some _ = some _
    rw [hd]
  ·have : i = b.length:=by omega
   subst this
   rw [dF (show ¬ (((b.length : Nat) : Int) < ((b.length : Nat) : Int)) by omega),cond_false,hK1]
   rw [List.drop_eq_getElem_cons h1,List.drop_length,lexB] at hd
   show some _ = some _
   rw [← hd,dF (by omega)]
 ·have : i = a.length:=by omega
  subst this
  rw [dF (show ¬ (((a.length : Nat) : Int) < ((a.length : Nat) : Int)) by omega),cond_false,cond_false,hK1]
  show some _ = some _
  rw [List.drop_length] at hd
  by_cases h2 : a.length < b.length
  ·rw [List.drop_eq_getElem_cons h2,lexB] at hd
   rw [← hd,dT (by omega)]
  ·rw [List.drop_eq_nil_of_le (by omega),lexB] at hd
   rw [← hd,dF (by omega)]
theorem c5_all : ((List.range 32).all fun x => decide (cntB x ≤ 5)) = true:=by kernel_rfl
theorem count5 (x : Nat) (hx : x < 32) : cntB x ≤ 5:=of_decide_eq_true (List.all_eq_true.1 c5_all x (List.mem_range.2 hx))
def toI (l : List Nat) : List Int:=l.map fun (i : Nat) => (i : Int)
theorem erl_all : ((List.range 16).all fun y => (List.range 16).all fun r => (List.range 4).all fun k => !(decide (r % 2 ^ k = y % 2 ^ k) && (r.testBit k && (!(y.testBit k) && decide ((bl y).length = (bl r).length)))) || !(lexB (toI (bl y)) (toI (bl r)))) = true:=by kernel_rfl
theorem erl_t (r y : Nat) (hr : r < 16) (hy : y < 16) (h : erl r y) (hc : cntB y = cntB r) : lexB (toI (bl y)) (toI (bl r)) = false:=by
 obtain ⟨k,hk,h1,h2,h3⟩:=h
 have h4:=List.all_eq_true.1 (List.all_eq_true.1 (List.all_eq_true.1 erl_all y (List.mem_range.2 hy)) r (List.mem_range.2 hr)) k (List.mem_range.2 hk)
 have hc : (bl y).length = (bl r).length:=hc
 rw [dT h1,h2,h3,dT hc] at h4
 simpa using h4
theorem toI_inj : ∀ {a b : List Nat},toI a = toI b → a = b
 | [],[],_ => rfl
 | [],_ :: _,h => by simp [toI] at h
 | _ :: _,[],h => by simp [toI] at h
 | x :: a,y :: b,h => by
  simp only [toI,List.map_cons,List.cons.injEq] at h
  rw [toI_inj (a:=a) (b:=b) h.2,show x = y by omega]
def lo (x i : Nat) : List Nat:=(bl x).filter fun j => decide (j < i)
theorem lo_all : ((List.range 5).all fun i => (List.range 32).all fun x => decide (lo x (i + 1) = lo x i ++ (bif x.testBit i then [i] else [])) && decide ((IntKind.i64.wrap (((BitVec.ofInt (IntKind.bits .i64) (Int.fdiv (x : Int) ((2 : Int) ^ (min (Int.toNat (i : Int)) (IntKind.bits .i64)))) &&& BitVec.ofInt (IntKind.bits .i64) 1).toNat : Nat) : Int) == 1) = x.testBit i)) = true:=by kernel_rfl
theorem lo_t (i x : Nat) (hi : i < 5) (hx : x < 32) : lo x (i + 1) = lo x i ++ (bif x.testBit i then [i] else []) ∧ (IntKind.i64.wrap (((BitVec.ofInt (IntKind.bits .i64) (Int.fdiv (x : Int) ((2 : Int) ^ (min (Int.toNat (i : Int)) (IntKind.bits .i64)))) &&& BitVec.ofInt (IntKind.bits .i64) 1).toNat : Nat) : Int) == 1) = x.testBit i:=by
 have h1:=List.all_eq_true.1 (List.all_eq_true.1 lo_all i (List.mem_range.2 hi)) x (List.mem_range.2 hx)
 rw [Bool.and_eq_true,decide_eq_true_eq,decide_eq_true_eq] at h1
 exact h1
def selO (ts : List T_band_tour) (x i : Nat) : List T_band_tour:=(lo x i).filterMap fun j => ts[j]?
theorem lo_len (x i : Nat) : (lo x i).length ≤ 6:=by
 unfold lo
 refine Nat.le_trans (List.length_filter_le _ _) ?_
 unfold bl
 exact List.length_filter_le _ _
theorem members_c (N : Nat) (hN : 1000 < N) {c : T_City} (ts : List T_band_tour) (hl : ts.length ≤ 4) (h : ∀ t ∈ ts,GoodT c t) (x : Nat) (hx : x < 2 ^ ts.length) : p_br7_Members N (ts.map (·.Band)) (x : Int) = some (toI (bl x),(selOf ts x).map (·.Band),ppl ts x):=by
 unfold p_br7_Members
 have hpow : 2 ^ ts.length ≤ 2 ^ 4:=Nat.pow_le_pow_right (by omega) hl
 have hlo : lo x ts.length = bl x:=by
  unfold lo
  rw [List.filter_eq_self.2]
  intro i hi
  exact decide_eq_true (below_t ts.length x (by omega) hx i hi)
 have lo0 : lo x 0 = []:=by unfold lo; rw [List.filter_eq_nil_iff]; intro j _; simp
 let T : Option (List Int × List T_Band × Int) → Prop:=fun r => r = some (toI (bl x),(selOf ts x).map (·.Band),ppl ts x)
 show T _
 refine letJ_gen T _ _ (fun K1 hK1 => ?_)
 refine loop4_T T (fun (out : List Int) (bands : List T_Band) p i => ∃ j : Nat,i = (j : Int) ∧ j ≤ ts.length ∧ out = toI (lo x j) ∧ bands = (selO ts x j).map (·.Band) ∧ p = psum (selO ts x j)) (fun out bands p i => ts.length - i.toNat) ?_ N [] [] 0 0 ⟨0,rfl,Nat.zero_le _,by rw [lo0]; rfl,by unfold selO; rw [lo0]; rfl,by unfold selO; rw [lo0]; rfl⟩ (by simp; omega)
 rintro rec out bands p i ⟨j,rfl,hj,rfl,rfl,rfl⟩ ih
 rw [List.length_map]
 by_cases hjl : j < ts.length
 ·have ht : ts[j]? = some ts[j]:=List.getElem?_eq_getElem hjl
  generalize ts[j] = t at ht
  have hgt:=h t (List.mem_of_getElem? ht)
  have hb : (ts.map (·.Band))[j]? = some t.Band:=by rw [List.getElem?_map,ht]; rfl
  obtain ⟨l1,l2⟩:=lo_t j x (by omega) (by omega)
  have hll:=lo_len x j
  rw [ltD hjl,cond_true]
  simp only [letJ_eq]
  have hnn : nnI (j : Int) = some ():=by unfold nnI; rw [if_neg (by omega)]
  rw [hnn,Option.bind_some,Option.bind_some,l2,nadd1 j (by omega)]
  have hsl : (selO ts x j).length ≤ 6:=Nat.le_trans (List.length_filterMap_le _ _) hll
  cases hbit : x.testBit j with
  | true =>
   rw [hbit,cond_true] at l1
   have hso : selO ts x (j + 1) = selO ts x j ++ [t]:=by simp [selO,l1,List.filterMap_append,ht]
   have hbd:=psum_bd (selO ts x j) fun y hy => by
    simp only [selO,List.mem_filterMap] at hy
    obtain ⟨i,_,hy⟩:=hy
    exact ⟨c,h y (List.mem_of_getElem? hy)⟩
   have hp0:=hgt.p0; have hp1:=hgt.p1
   rw [cond_true,pushI_ok (by simp [toI]; omega),Option.bind_some,getD_at hb,Option.bind_some,pushI_ok (by simp; omega),Option.bind_some,Option.bind_some,w64 (x:=psum (selO ts x j) + t.Band.People) (by omega) (by omega)]
   refine ih _ _ _ _ ⟨j + 1,rfl,by omega,by rw [l1]; simp [toI],by rw [hso]; simp,by rw [hso,psum_append]; simp [psum]⟩ (by omega)
  | false =>
   rw [hbit,cond_false,List.append_nil] at l1
   rw [cond_false]
   exact ih _ _ _ _ ⟨j + 1,rfl,by omega,by rw [l1],by unfold selO; rw [l1],by unfold selO; rw [l1]⟩ (by omega)
 ·have : j = ts.length:=by omega
  subst this
  have hso : selO ts x ts.length = selOf ts x:=by unfold selO selOf; rw [hlo]
  rw [ltE,cond_false,hK1,hlo,hso]
  rfl
theorem people_at (ts : List T_band_tour) : ∀ (l : List Nat),(∀ i ∈ l,i < ts.length) → ∀ k i,l[k]? = some i → ∃ t,ts[i]? = some t ∧ psum ((l.take (k + 1)).filterMap fun j => ts[j]?) = psum ((l.take k).filterMap fun j => ts[j]?) + t.Band.People:=by
 intro l hl k i hk
 have hi:=hl i (List.mem_of_getElem? hk)
 have ht : ts[i]? = some ts[i]:=List.getElem?_eq_getElem hi
 refine ⟨_,ht,?_⟩
 rw [List.take_add_one,hk,List.filterMap_append,psum_append]
 simp [ht,psum]
theorem pow_t : ∀ n,n < 5 → IntKind.i64.wrap (1 * ((2 : Int) ^ (min (Int.toNat ((n : Nat) : Int)) (IntKind.bits .i64)))) = ((2 ^ n : Nat) : Int):=by
 intro n hn
 rcases (show n = 0 ∨ n = 1 ∨ n = 2 ∨ n = 3 ∨ n = 4 by omega) with rfl | rfl | rfl | rfl | rfl <;> rfl
theorem bandBest_p (N : Nat) (hN : 9223372036854776000 < N) (haw : p_bl7_awake N = some true) (nums : List Int) (hl : nums.length < 9223372036854775808) : p_bl7_BandBest N nums = some true:=by
 unfold p_bl7_BandBest
 obtain ⟨d0,e⟩:=drumOf_p N nums (by omega) hl
 rw [e,Option.bind_some]; clear e
 obtain ⟨c,d1,e,hc⟩:=cityOf_p N (by omega) d0
 rw [e,Option.bind_some]; clear e
 dsimp only
 obtain ⟨l,d2,e,hll,hlb⟩:=bandsOf_p N (by omega) d1 c hc 4 (by omega)
 rw [show ((4 : Nat) : Int) = 4 from rfl] at e
 rw [e,Option.bind_some]; clear e
 dsimp only
 obtain ⟨ts,rfl,hts⟩:=tours_ex l hlb
 rw [List.length_map] at hll
 have hT : ∀ t ∈ ts,GoodT c t:=fun t ht => (hts t ht).1
 have hpow : 2 ^ ts.length ≤ 2 ^ 4:=Nat.pow_le_pow_right (by omega) hll
 obtain ⟨r,e,hr⟩:=bestF_c N (by omega) c hc ts hll hT
 have hrlt:=hr.lt
 rw [e,Option.bind_some,grant_c N (by omega) c hc ts (by omega) hT,Option.bind_some]
 have hrb : ∀ i ∈ bl r,i < ts.length:=below_t ts.length r (by omega) hrlt
 have hrl : (bl r).length ≤ 6:=by unfold bl; exact List.length_filter_le _ _
 rw [show (bl r).map (fun (i : Nat) => (i : Int)) = toI (bl r) from rfl]
 have htl : (toI (bl r)).length = (bl r).length:=by simp [toI]
 -- what Best has is granted,and none is better
 have hrin : In N c ts 0 0 r:=by
  rcases hr.at_ with h0 | h0
  ·rw [h0]; exact (in0 hll).2 ⟨Nat.pos_of_ne_zero (by simp),by rw [sel_zero]; rfl⟩
  ·exact h0
 have hrok:=((in0 hll).1 hrin).2
 have hnob : ∀ y,y < 2 ^ ts.length → okL N c [] (selOf ts y) = true → ¬ beats ts y r:=fun y h1 h2 => hr.no y ((in0 hll).2 ⟨h1,h2⟩)
 have hgn : ¬ (((kp N c [] ts).map (·.Band)).length : Int) > ((bl r).length : Int):=by
  obtain ⟨z,hz,hz2⟩:=kp_set N c ts hll ts.length 0 0 (by omega) (by decide)
  rw [sel_zero,List.nil_append,List.drop_zero] at hz2
  have h1:=hnob z hz (by rw [hz2]; exact okL_kp N c ts)
  have h2:=selLen ts hll z hz
  rw [hz2] at h2
  rw [List.length_map,h2]
  unfold beats at h1
  unfold cntB at *; omega
 rw [letJ_eq]
 dsimp only
 rw [bne_self_eq_false,cond_false,cond_false,granted_c N (by omega) _ _ (by simp; omega),Option.bind_some,kept_gr,htl,dF hgn,cond_false]
 let T : Option Bool → Prop:=fun r => r = some true
 show T _
 refine letJ_gen T _ _ (fun K1 hK1 => ?_)
 have hbd : ∀ k,0 ≤ psum (((bl r).take k).filterMap fun j => ts[j]?) ∧ psum (((bl r).take k).filterMap fun j => ts[j]?) ≤ 3600:=fun k => by
  have h1:=psum_bd (((bl r).take k).filterMap fun j => ts[j]?) fun y hy => by
   simp only [List.mem_filterMap] at hy
   obtain ⟨i,_,hy⟩:=hy
   exact ⟨c,hT y (List.mem_of_getElem? hy)⟩
  have h2 : (((bl r).take k).filterMap fun j => ts[j]?).length ≤ 6:=Nat.le_trans (List.length_filterMap_le _ _) (by rw [List.length_take]; omega)
  omega
 refine loop2_T T (fun p i => ∃ k : Nat,i = (k : Int) ∧ k ≤ (bl r).length ∧ p = psum (((bl r).take k).filterMap fun j => ts[j]?)) (fun p i => (bl r).length - i.toNat) ?_ N 0 0 ⟨0,rfl,Nat.zero_le _,by simp [psum]⟩ (by simp; omega)
 rintro rec p i ⟨k,rfl,hk,rfl⟩ ih
 by_cases hkl : k < (bl r).length
 ·have hx : (bl r)[k]? = some (bl r)[k]:=List.getElem?_eq_getElem hkl
  generalize (bl r)[k] = i at hx
  have hi:=hrb i (List.mem_of_getElem? hx)
  have hxi : (toI (bl r))[k]? = some (i : Int):=by unfold toI; rw [List.getElem?_map,hx]; rfl
  obtain ⟨t,ht,hps⟩:=people_at ts (bl r) hrb k i hx
  have hb : (ts.map (·.Band))[i]? = some t.Band:=by rw [List.getElem?_map,ht]; rfl
  have g1:=hbd (k + 1); have g2:=hbd k
  rw [ltD hkl,cond_true]
  simp only [letJ_eq]
  rw [getD_at hxi,Option.bind_some,dF (show ¬ (i : Int) < 0 by omega),cond_false,Option.bind_some,List.length_map,dF (show ¬ (i : Int) ≥ ((ts.length : Nat) : Int) by omega),cond_false,Option.bind_some,getD_at hb,Option.bind_some,nadd1 k (by omega),w64 (x:=psum (((bl r).take k).filterMap fun j => ts[j]?) + t.Band.People) (by omega) (by omega),← hps]
  exact ih _ _ ⟨k + 1,rfl,by omega,rfl⟩ (by omega)
 ·have : k = (bl r).length:=by omega
  subst this
  rw [ltE,cond_false,hK1,List.take_length]
  dsimp only
  rw [show psum ((bl r).filterMap fun j => ts[j]?) = ppl ts r from rfl]
  refine letJ_gen T _ _ (fun K2 hK2 => ?_)
  refine loop2_T T (fun found s => ∃ x : Nat,s = (x : Int) ∧ x ≤ 2 ^ ts.length ∧ (found = true ↔ r < x)) (fun found s => 2 ^ ts.length - s.toNat) ?_ N false 0 ⟨0,rfl,Nat.zero_le _,⟨fun hh => (by cases hh),fun hh => absurd hh (Nat.not_lt_zero _)⟩⟩ (by simp; omega)
  rintro rec2 found s ⟨x,rfl,hxl,hfound⟩ ih2
  have hnn : nnI ((ts.length : Nat) : Int) = some ():=by unfold nnI; rw [if_neg (by omega)]
  rw [List.length_map,hnn,Option.bind_some,pow_t ts.length (by omega)]
  by_cases hx : x < 2 ^ ts.length
  ·rw [dT (show (x : Int) < ((2 ^ ts.length : Nat) : Int) by omega),cond_true]
   refine letJ_gen T _ _ (fun K3 hK3 => ?_)
   have fin : ∀ f : Bool,(f = true ↔ r < x + 1) → T (K3 f):=fun f hf => by
    rw [hK3]; dsimp only; rw [nadd1 x (by omega)]
    exact ih2 _ _ ⟨x + 1,rfl,by omega,hf⟩ (by omega)
   rw [members_c N (by omega) ts hll hT x hx,Option.bind_some]
   dsimp only
   have hxlen : (bl x).length ≤ 6:=by unfold bl; exact List.length_filter_le _ _
   have htx : (toI (bl x)).length = (bl x).length:=by simp [toI]
   rw [eqIntsD_p N _ _ (by omega) (by omega),Option.bind_some,htx]
   have hsame : decide (toI (bl x) = toI (bl r)) = decide (x = r):=by
    by_cases he : x = r
    ·subst he; rw [dT rfl,dT rfl]
    ·rw [dF he,dF fun hh => he (inj_t x r (by omega) (by omega) (toI_inj hh))]
   rw [hsame]
   refine letJ_gen T _ _ (fun K4 hK4 => ?_)
   have hgood : ∀ t ∈ selOf ts x,GoodT c t:=fun t ht => hT t (mem_sel ht)
   have hsl:=sel_len ts x
   have hsl2:=selLen ts hll x hx
   -- with or without being better
   have go : ∀ better : Bool,(better = true → okL N c [] (selOf ts x) = true → x = r) → T (K4 better):=fun better hbet => by
    rw [hK4]
    dsimp only
    rw [letJ_eq]
    dsimp only
    have skip : x ≠ r → T (K3 found):=fun hne => fin found (by rw [hfound]; omega)
    have ask : (okL N c [] (selOf ts x) = true ↔ x = r) → T ((p_band_Grant N c ((selOf ts x).map (·.Band))).bind fun r_67 => (letJ (fun (y_68 : Bool) => (bif y_68 then some false else (bif found then (K3 true) else (K3 (decide (x = r)))))) (fun k_69 => (bif (r_67.2 != 0) then (k_69 true) else ((p_bl7_granted N ((selOf ts x).map (·.Band)) r_67.1).bind fun r_73 => (k_69 (!((((r_73.length : Nat) : Int) == ((((selOf ts x).map (·.Band)).length : Nat) : Int)) == decide (x = r))))))))):=fun hiff => by
     rw [grant_c N (by omega) c hc (selOf ts x) (by rw [hsl2]; exact count5 x (by omega)) hgood,Option.bind_some]
     simp only [letJ_eq]
     rw [bne_self_eq_false,cond_false,granted_c N (by omega) _ _ (by simp; omega),Option.bind_some,kept_gr,List.length_map,List.length_map]
     have hk:=kp_full N c (selOf ts x) []
     have heq : ((((kp N c [] (selOf ts x)).length : Nat) : Int) == (((selOf ts x).length : Nat) : Int)) = decide (x = r):=by
      rw [Bool.eq_iff_iff,beq_iff_eq,decide_eq_true_eq,← hiff,← hk]
      omega
     rw [heq,beq_self_eq_true,Bool.not_true,cond_false]
     cases hf : found with
     | true => rw [cond_true]; exact fin true ⟨fun _ => by have:=hfound.1 hf; omega,fun _ => rfl⟩
     | false =>
      rw [cond_false]
      refine fin _ ?_
      rw [decide_eq_true_eq]
      have hnf : ¬ r < x:=fun hh => by rw [hfound.2 hh] at hf; cases hf
      omega
    by_cases he : x = r
    ·rw [dT he,Bool.not_true,cond_false,cond_false]
     rw [show decide (x = r) = true from dT he] at ask
     exact ask ⟨fun _ => he,fun _ => by rw [he]; exact hrok⟩
    ·rw [dF he,Bool.not_false,cond_true]
     rw [show decide (x = r) = false from dF he] at ask
     cases better with
     | false => rw [Bool.not_false,cond_true]; exact skip he
     | true =>
      rw [Bool.not_true,cond_false]
      exact ask ⟨fun hh => hbet rfl hh,fun hh => absurd hh he⟩
   have hno:=fun hok => hnob x hx hok
   have hc1 : ∀ x,cntB x = (bl x).length:=fun _ => rfl
   by_cases g1 : (((bl x).length : Nat) : Int) > (((bl r).length : Nat) : Int)
   ·rw [dT g1,cond_true]
    exact go true fun _ hok => absurd (show beats ts x r from .inl (by rw [hc1,hc1]; omega)) (hno hok)
   ·rw [dF g1,cond_false]
    by_cases g2 : (((bl x).length : Nat) : Int) = (((bl r).length : Nat) : Int)
    ·rw [show ((((bl x).length : Nat) : Int) == (((bl r).length : Nat) : Int)) = true from by simpa using g2,cond_true]
     by_cases g3 : ppl ts x > ppl ts r
     ·rw [dT g3,cond_true]
      exact go true fun _ hok => absurd (show beats ts x r from .inr ⟨by rw [hc1,hc1]; omega,g3⟩) (hno hok)
     ·rw [dF g3,cond_false]
      by_cases g4 : ppl ts x = ppl ts r
      ·rw [show (ppl ts x == ppl ts r) = true from by simpa using g4,cond_true,before_p N _ _ (by omega) (by omega),Option.bind_some]
       refine go _ fun hlex hok => ?_
       have hin : In N c ts 0 0 x:=(in0 hll).2 ⟨hx,hok⟩
       by_cases hr0 : r = 0
       ·have h1 : (bl r).length = 0:=by rw [hr0]; decide
        have h2 : bl x = bl r:=by
         rw [List.eq_nil_of_length_eq_zero h1,List.eq_nil_of_length_eq_zero (show (bl x).length = 0 by omega)]
        exact inj_t x r (by omega) (by omega) h2
       ·apply Classical.byContradiction
        intro hne
        have h3:=hr.fst hr0 x hin hne ⟨by rw [hc1,hc1]; omega,g4⟩
        have h4:=erl_t r x (by omega) (by omega) h3 (by rw [hc1,hc1]; omega)
        rw [h4] at hlex; cases hlex
      ·rw [show (ppl ts x == ppl ts r) = false from by simpa using g4,cond_false]
       exact go false fun hh => by cases hh
    ·rw [show ((((bl x).length : Nat) : Int) == (((bl r).length : Nat) : Int)) = false from by simpa using g2,cond_false]
     exact go false fun hh => by cases hh
  ·have hx2 : x = 2 ^ ts.length:=by omega
   have hf : found = true:=hfound.2 (by omega)
   rw [dF (show ¬ (x : Int) < ((2 ^ ts.length : Nat) : Int) by omega),cond_false,hK2,hf]
   dsimp only
   rw [cond_true,haw]; rfl
theorem bandBest_m (nums : List Int) (haw : p_bl7_awake 18446744073709551616 = some true) (hl : nums.length < 9223372036854775808) : Does Tryd.prog 10 [.sl (nums.map fun z => .int .i64 z) none] [] fun v _ => v = .bool true :=
 (d_bl7_BandBest _ nums true (bandBest_p _ (by omega) haw nums hl)).mono fun v c h => h.1
end Go.Proofs.YtkchfjblcfbajaaDoor
end
section
namespace Go.Proofs.YtkchfjblcfbajaaDoor
open Go.RowKit
theorem awake_c : p_bl7_awake 18446744073709551616 = some true:=by kernel_rfl
end Go.Proofs.YtkchfjblcfbajaaDoor
end
section
namespace Go.Proofs.YtkchfjblcfbajaaDoor
open Go.RowKit Go.ChangeShapes Go.WideShapes Go.ChangeAt

def nums (zs : List Int) : AV:=.sl (zs.map fun z => .int .i64 z) none
theorem prog_own : ownKnob Tryd.prog.godebug = none:=by kernel_rfl
theorem prog_laid : laidOutB Tryd.prog = true:=by kernel_rfl

namespace bandBest
theorem glw {W : World} (hL : laidMetH Tryd.prog Rows.bandBestRow.laid W) : GLW W:=by
 rw [MakeChecks.laidMetH_plain _ _ _ (by kernel_rfl)] at hL
 have h0 : Lib.TabIs Tryd.prog W "math/bits.deBruijn32tab" .u8 gnum0 := Lib.tabIs_of_head (g := 0) (t := 163) (e := 5) (n := 32) (by kernel_rfl) (by kernel_rfl) (by kernel_rfl) (by kernel_rfl) (by kernel_rfl) (by kernel_rfl) (hL)
 have h1 : Lib.TabIs Tryd.prog W "math/bits.deBruijn64tab" .u8 gnum1 := Lib.tabIs_of_head (g := 1) (t := 164) (e := 5) (n := 64) (by kernel_rfl) (by kernel_rfl) (by kernel_rfl) (by kernel_rfl) (by kernel_rfl) (by kernel_rfl) (hL.tail)
 intro B o u h
 by_cases e0 : B = 0
 ·subst e0
  have:=World.var?_cell (P:=Tryd.prog) (g:=0) (by kernel_rfl) h0 o
  rw [this]
  simpa [gcell,gtab,gtab0] using h
 by_cases e1 : B = 1
 ·subst e1
  have:=World.var?_cell (P:=Tryd.prog) (g:=1) (by kernel_rfl) h1 o
  rw [this]
  simpa [gcell,gtab,gtab1] using h
 simp [gcell,gtab,e0,e1] at h
theorem door_met (os : Os) (args : Array Value) : laidMetH Tryd.prog Rows.bandBestRow.laid ((World.doorLaid Tryd.prog 19 os).forCall (fun _ _ => 0) ⟨#[],args,[]⟩).memory :=
 laidMetH_of_parts3 (fuel:=8) (laidMet_of_run' 8 (by kernel_rfl) (by kernel_rfl)) (by kernel_rfl) (by kernel_rfl)
set_option maxRecDepth 100000 in
theorem lifted (hM : ∀ zs : List Int,(∀ z ∈ zs,(Lit.int .i64 z).wf = true) → zs.length ≤ maxLen → Does Tryd.prog 10 [nums zs] [] fun v _ => v = .bool true) (os : Os) (started : os.Started) (H : Type) (enc : TypeId × Value → H) :
  ReturnsInHanded {} Tryd.checked os 10 .any (fun w args => (Rows.bandBestSpec.pre enc Tryd.prog Tryd.f10 Rows.bandBestRow.domain false w args ∧ laidMetH Tryd.prog Rows.bandBestRow.laid w) ∧ sizedMet enc Tryd.prog Tryd.f10 (OpenSpec.ofChange Rows.bandBestSpec) false w args) (Rows.bandBestSpec.post enc Tryd.prog Tryd.f10 false true false false):=by
 refine returnsInHanded_of_change_and (C:=Tryd.checked) (X:=fun w _ => laidMetH Tryd.prog Rows.bandBestRow.laid w) (fun _ _ _ hh h => h.of_heap hh) prog_own started (by kernel_rfl) Tryd.func10
  (ChangeSpec.witness_shaped (enc:=enc) (C:=Tryd.checked) (os:=os) (X:=fun w _ => laidMetH Tryd.prog Rows.bandBestRow.laid w) false (World.doorLaid Tryd.prog 19 os) #[.slice none 0 0] 8 rfl (World.shaped_of_RefB (by kernel_rfl) (by kernel_rfl)) (by kernel_rfl) (by kernel_rfl) (by kernel_rfl) (door_met os _)) ?_
 intro W base args ds gs before hval0 hW hcnd _ hL _
 have hval : ∀ (j : Nat) t v,Tryd.f10.params[j]? = some t → args[j]? = some v → Value.okWide Tryd.prog W .any base t v:=hval0
 have hW':=hW
 obtain ⟨p,q,hA0,hV,rfl,hfz,hnd⟩:=hW
 have hA : DataW.TrodAll enc Tryd.prog W 0 (fun _ => true) true Tryd.f10.params.toList args.toList ds p:=hA0
 rw [Tryd.params10] at hA hval
 obtain ⟨v0,vs0,d0,ds0,p0,q0,hargs,rfl,rfl,h0,r0⟩:=trodAll_cons hA
 obtain ⟨rfl,rfl,rfl⟩:=trodAll_nil r0
 obtain rfl : args = #[v0]:=by cases args; simp_all
 obtain ⟨rfl,rfl⟩:=trodVars_none hV
 obtain ⟨a0,len0,cap0,rfl⟩:=okWide_slice Tryd.underlying22 (hval 0 22 v0 rfl rfl)
 have k0:=h0
 have lt0 : ∀ x ∈ p0,x.block < W.heap.size:=by obtain ⟨m,hm⟩:=k0; exact DataW.trod_lt m _ _ _ hm
 obtain ⟨zs,hwf,hlen,hvr⟩:=ints_vr Tryd.underlying22 Tryd.underlying3 (by kernel_rfl) h0
 clear hA0 hval0
 refine ((hM zs hwf hlen).law (us:=#[.slice a0 len0 cap0]) ⟨rfl,fun i x u hx hu => ?_⟩ (glw hL)).mono fun e W' ⟨he,bel⟩ => ?_
 ·cases i with
  | zero => simp at hx hu; subst hx; subst hu; exact hvr
  | succ i => simp at hx
 subst he
 exact ⟨_,rfl,_,_,_,[],_,[],hW',trodAll_mk1 (shut_bool Tryd.underlying4 _),(trodAll_cons_mk (Below.trod prog_laid (by kernel_rfl) (of_decide_eq_true (by kernel_rfl)) k0 bel lt0) trodAll_mk0),rfl,bel.frame _,fun h => by cases h⟩

theorem frame (hM : ∀ zs : List Int,(∀ z ∈ zs,(Lit.int .i64 z).wf = true) → zs.length ≤ maxLen → Does Tryd.prog 10 [nums zs] [] fun v _ => v = .bool true) : Rows.BandBestSaid :=
 OpenClaim.holds_of_wide 10 Tryd.f10 rfl rfl rfl rfl rfl rfl rfl ⟨rfl,rfl,rfl,rfl,rfl⟩ rfl rfl rfl rfl rfl (by kernel_rfl) Tryd.func10 (by kernel_rfl)
  (of_decide_eq_true (by kernel_rfl)) (by unfold Func.isWrapper; first | (rw [if_pos (by decide +kernel)]; kernel_rfl) | (rw [if_neg (by decide +kernel)]; exact ⟨rfl,rfl⟩))
  (fun os started H enc _ => lifted hM os started H enc)
end bandBest
end Go.Proofs.YtkchfjblcfbajaaDoor
end
section
namespace Go.Proofs.YtkchfjblcfbajaaDoor
open Go
set_option maxRecDepth 100000
theorem bandBest_card (h : Rows.BandBestSaid) : Rows.BandBestCardSaid :=
 Claim7.holds_tied_plain_at .later [] [.data, .data] true (true, "fe01ec05f56da0775188e805bb2e3c6250aca9f9ad23cd6dd3bc488253c3c85e") false
  h (fun _ h => by cases h) (by kernel_rfl) (fun _ h => by cases h) bandBest_row_tie rfl ⟨rfl,rfl⟩ (by kernel_rfl) rfl
  (fun f fn hf hfn => by
    obtain rfl : f = 10 := Option.some.inj ((show Tryd.prog.funcNamed "bateria/baterialaw07.BandBest" = some 10 by kernel_rfl).symm.trans hf) |>.symm
    obtain rfl : fn = Tryd.f10:=(Option.some.inj ((Tryd.func10).symm.trans hfn)).symm
    refine ⟨by kernel_rfl,fun j t ht => ?_⟩
    have hall : (Tryd.f10.params.toList.all fun t => !Tryd.prog.wantsStandIn t) = true:=by kernel_rfl
    have hm : t ∈ Tryd.f10.params.toList:=by
     rw [← Array.getElem?_toList] at ht
     exact List.mem_of_getElem? ht
    have hq:=List.all_eq_true.1 hall t hm
    show Tryd.prog.wantsStandIn t = false
    simpa using hq)
  (by kernel_rfl)
end Go.Proofs.YtkchfjblcfbajaaDoor
end
