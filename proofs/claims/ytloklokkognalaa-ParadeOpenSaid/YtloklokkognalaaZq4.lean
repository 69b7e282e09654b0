/- Part 5 of what the law needs: own work, put together. -/
import Derived.Test.YtloklokkognalaaZq3
set_option linter.unusedVariables false
set_option linter.unusedSimpArgs false
set_option maxRecDepth 10000
set_option maxHeartbeats 4000000
section
namespace Go.Proofs.Ytloklokkognalaa
open Go.RowKit

def loW (ws : List T_Wing) (k : Nat) : Int := (ws[k]?.map (·.Pace.Lo)).getD 1
def hiW (ws : List T_Wing) (k : Nat) : Int := (ws[k]?.map (·.Pace.Hi)).getD 1
def leastAt (ws : List T_Wing) (st : List Int) : Nat → Int
 | 0 => 0
 | k + 1 => up ws (atI st) (loW ws) (k + 1) (lenW ws k) (atI st k)
theorem loW_bd {ws : List T_Wing} (h : GoodWs ws) (k : Nat) : 1 ≤ loW ws k ∧ loW ws k ≤ hiW ws k ∧ hiW ws k ≤ 80 := by
 unfold loW hiW
 cases hw : ws[k]? with
 | none => simp
 | some w =>
  have := (h.wing k w hw).1
  have := this.p0
  have := (h.wing k w hw).1.p1
  have := (h.wing k w hw).1.p2
  simp
  omega
theorem leastAt_congr {ws : List T_Wing} {st st' : List Int} : ∀ (k : Nat), (∀ j, j < k → atI st j = atI st' j) → leastAt ws st k = leastAt ws st' k
 | 0, _ => rfl
 | k + 1, h => by
  show up ws (atI st) (loW ws) (k + 1) (lenW ws k) (atI st k) = up ws (atI st') (loW ws) (k + 1) (lenW ws k) (atI st' k)
  rw [h k (by omega)]
  exact up_congr (k + 1) _ _ fun j hj => ⟨h j hj, rfl⟩
theorem atI_app {l : List Int} {x : Int} {k : Nat} (hk : k < l.length) : atI (l ++ [x]) k = atI l k := by
 unfold atI
 rw [List.getElem?_append_left hk]
theorem atI_end {l : List Int} {x : Int} : atI (l ++ [x]) l.length = x := by
 unfold atI
 rw [List.getElem?_concat_length]
 rfl
theorem slow_p (N : Nat) (hN : 1000 < N) (s : T_School) (h8 : s.Wings.length ≤ 8) : p_br1_Slow N s = some (s.Wings.map (·.Pace.Lo)) := by
 unfold p_br1_Slow
 simp only [letJ_eq]
 refine invZ' s.Wings (fun x => x = some (s.Wings.map (·.Pace.Lo))) (fun i (b : List Int) => b = (s.Wings.take i).map (·.Pace.Lo)) (by omega) (by simp) (fun rec b hb => ?_) (fun rec i w b hw hi hb ih => ?_)
 ·simp only [ltE, cond_false]
  rw [hb, List.take_length]
 ·simp only [ltD hi, cond_true, getD_at hw, Option.bind_some, nadd1 i (by omega)]
  rw [pushI_ok (by rw [hb]; simp; omega), Option.bind_some]
  refine ih _ ?_
  rw [hb, List.take_add_one, hw, List.map_append]
  rfl
theorem atI_map {ws : List T_Wing} {k : Nat} (hk : k < ws.length) : atI (ws.map (·.Pace.Lo)) k = loW ws k := by
 unfold atI loW
 rw [List.getElem?_map, List.getElem?_eq_getElem hk]
 rfl
theorem leastOf_p (N : Nat) (hN : 1000 < N) (s : T_School) (h : GoodWs s.Wings) (h8 : s.Wings.length ≤ 8) (st : List Int) (hi : st.length < s.Wings.length) (hs : ∀ k, k < st.length → 0 ≤ atI st k ∧ atI st k ≤ 20000) : p_br1_LeastOf N s st ((st.length : Nat) : Int) = some (leastAt s.Wings st st.length) := by
 unfold p_br1_LeastOf
 cases hq : st.length with
 | zero => rfl
 | succ k =>
  have hlb := lenW_bd h k
  have hW : s.Wings[k]? = some s.Wings[k] := List.getElem?_eq_getElem (by omega)
  have hle : lenW s.Wings k = s.Wings[k].Length := by unfold lenW; rw [hW]; rfl
  rw [show ((((k + 1 : Nat) : Int) == 0) : Bool) = false from by simp; omega, cond_false, slow_p N hN s h8, Option.bind_some, w64 (x := ((k + 1 : Nat) : Int) - 1) (by omega) (by omega), show ((k + 1 : Nat) : Int) - 1 = (k : Int) by omega, getD_at hW, Option.bind_some, ← hle]
  rw [passed_p N hN s h st _ k (by omega) h8 (by omega) (by simp; omega) (fun j hj => hs j (by omega)) (fun j hj => by rw [atI_map (by omega)]; have := loW_bd h j; omega) _ hlb.1 (by omega), Option.bind_some]
  congr 1
  exact up_congr (k + 1) _ _ fun j hj => ⟨rfl, atI_map (by omega)⟩
structure GoodSt (ws : List T_Wing) (st : List Int) : Prop where
 ge : ∀ k, k < st.length → leastAt ws st k ≤ atI st k
 bd : ∀ k, k < st.length → 0 ≤ atI st k ∧ atI st k ≤ 1000 * ((k : Int) + 1)
theorem leastAt_bd {ws : List T_Wing} (h : GoodWs ws) {st : List Int} {m : Int} (m0 : 0 ≤ m) : ∀ (k : Nat), k ≤ 8 → (∀ j, j < k → 0 ≤ atI st j ∧ atI st j ≤ m) → 0 ≤ leastAt ws st k ∧ leastAt ws st k ≤ m + 900
 | 0, _, _ => by show 0 ≤ (0 : Int) ∧ (0 : Int) ≤ m + 900; omega
 | k + 1, hk, hs => by
  have hlb := lenW_bd h k
  have h1 := hs k (by omega)
  refine ⟨Int.le_trans h1.1 (up_ge _ _ _), ?_⟩
  exact up_bd (fun j => lenW_bd h j) (k + 1) _ _ hlb.1 (by omega) (fun j hj => ⟨(hs j hj).2, (loW_bd h j).1⟩) (by omega)
theorem startsOf_p (N : Nat) (hN : 1000 < N) (d : T_bk_Drum) (s : T_School) (h : GoodWs s.Wings) (h8 : s.Wings.length ≤ 8) : ∃ (st : List Int) (d' : T_bk_Drum), p_bk_StartsOf N d s = some (st, d') ∧ st.length = s.Wings.length ∧ GoodSt s.Wings st := by
 unfold p_bk_StartsOf
 refine letJ_gen (fun x => ∃ (st : List Int) (d' : T_bk_Drum), x = some (st, d') ∧ st.length = s.Wings.length ∧ GoodSt s.Wings st) _ _ (fun K hK => ?_)
 refine loop3_T (fun x => ∃ (st : List Int) (d' : T_bk_Drum), x = some (st, d') ∧ st.length = s.Wings.length ∧ GoodSt s.Wings st) (fun out i b => i = ((out.length : Nat) : Int) ∧ out.length ≤ s.Wings.length ∧ GoodSt s.Wings out) (fun out i b => 100 - i.toNat) ?_ N [] 0 _ ⟨rfl, Nat.zero_le _, ⟨fun k hk => absurd hk (Nat.not_lt_zero _), fun k hk => absurd hk (Nat.not_lt_zero _)⟩⟩ (by omega)
 rintro rec out i b ⟨rfl, q1, q2⟩ ih
 by_cases hlt : out.length < s.Wings.length
 ·rw [ltD hlt, cond_true]
  have hbm : ∀ j, j < out.length → 0 ≤ atI out j ∧ atI out j ≤ 1000 * (out.length : Int) := fun j hj => by
   have := q2.bd j hj
   omega
  rw [leastOf_p N hN s h h8 out hlt (fun k hk => by have := hbm k hk; omega), Option.bind_some]
  have hle := leastAt_bd h (m := 1000 * (out.length : Int)) (by omega) out.length (by omega) hbm
  obtain ⟨a, d1, e, a0, a1⟩ := roll_le N ⟨b⟩ 4 (by omega) (by omega)
  rw [e, Option.bind_some]; clear e
  dsimp only
  obtain ⟨b2, d2, e, b0, b1⟩ := roll_le N d1 40 (by omega) (by omega)
  rw [e, Option.bind_some]; clear e
  dsimp only
  obtain ⟨z, d3, e, hz⟩ := any_p N d2 [0, a, b2] (by simp) (by simp)
  rw [e, Option.bind_some]; clear e
  have hz : z = 0 ∨ z = a ∨ z = b2 := by simpa using hz
  dsimp only
  rw [w64 (x := leastAt s.Wings out out.length + z) (by omega) (by omega), pushI_ok (by simp; omega), Option.bind_some, nadd1 _ (by omega)]
  refine ih _ _ _ ⟨by simp, by simp; omega, ⟨fun k hk => ?_, fun k hk => ?_⟩⟩ (by omega)
  ·rw [leastAt_congr (st' := out) k (fun j hj => atI_app (by simp at hk; omega))]
   by_cases hk2 : k < out.length
   ·rw [atI_app hk2]; exact q2.ge k hk2
   ·have : k = out.length := by simp at hk; omega
    subst this
    rw [atI_end]
    omega
  ·by_cases hk2 : k < out.length
   ·rw [atI_app hk2]; exact q2.bd k hk2
   ·have : k = out.length := by simp at hk; omega
    subst this
    rw [atI_end]
    omega
 ·rw [show decide (((out.length : Nat) : Int) < ((s.Wings.length : Nat) : Int)) = false from decide_eq_false (by omega), cond_false, hK]
  exact ⟨_, _, rfl, by omega, q2⟩
theorem pw_p (N : Nat) (n a b : Int) (h0 : a ≤ n) (h1 : n ≤ b) : p_parade_within N n a b = some true := by
 unfold p_parade_within
 rw [decide_eq_true (show n ≥ a from h0), cond_true, decide_eq_true h1]
theorem names_all : (wn.all fun b => decide (1 ≤ b.size ∧ b.size ≤ 8) && (List.range b.size).all fun i => match b[i]? with | some c => decide (97 ≤ c.toNat ∧ c.toNat ≤ 122) | none => false) = true := by kernel_rfl
theorem isName_p (N : Nat) (hN : 1000 < N) (b : ByteArray) (hb : b ∈ wn) : p_parade_isName N b = some true := by
 have h1 := List.all_eq_true.1 names_all b hb
 simp only [Bool.and_eq_true, decide_eq_true_eq] at h1
 obtain ⟨⟨s0, s1⟩, h2⟩ := h1
 unfold p_parade_isName
 rw [pw_p N _ 1 8 (by omega) (by omega), Option.bind_some]
 simp only [Bool.not_true, cond_false, letJ_eq]
 refine st1 b.size _ (some true) ?_ ?_ N 0 (by omega) (by omega)
 ·intro rec
  rw [show decide (((b.size : Nat) : Int) < (b.size : Int)) = false from decide_eq_false (by omega), cond_false]
 ·intro rec i hi
  have h3 := List.all_eq_true.1 h2 i (by simpa using hi)
  split at h3
  ·rename_i c hc
   simp only [decide_eq_true_eq] at h3
   have e : idxB b (i : Int) = some (c.toNat : Int) := by
    unfold idxB
    rw [if_pos (by omega), Int.toNat_natCast, hc]
    rfl
   rw [show decide ((i : Int) < (b.size : Int)) = true from decide_eq_true (by omega), cond_true, e, Option.bind_some, decide_eq_false (by omega), cond_false, Option.bind_some, decide_eq_false (by omega), cond_false, nadd1 i (by omega)]
  ·cases h3
theorem names_ne : ((List.range 8).all fun i => (List.range i).all fun k => match wn[k]?, wn[i]? with | some a, some b => !(a.toList == b.toList) | _, _ => false) = true := by kernel_rfl
theorem names_p {i k : Nat} (hi : i < 8) (hk : k < i) {a b : ByteArray} (ha : wn[k]? = some a) (hb : wn[i]? = some b) : (a.toList == b.toList) = false := by
 have h1 := List.all_eq_true.1 (List.all_eq_true.1 names_ne i (by simpa using hi)) k (by simpa using hk)
 simp only [ha, hb] at h1
 simpa using h1
theorem pcheck_p (N : Nat) (hN : 1000 < N) (s : T_School) (h : GoodWs s.Wings) (h8 : s.Wings.length ≤ 8) (h1 : 1 ≤ s.Wings.length) (r0 : 1 ≤ s.Route) (r1 : s.Route ≤ 100000) : p_parade_Check N s = some 0 := by
 unfold p_parade_Check
 rw [pw_p N _ _ _ r0 r1, Option.bind_some]
 simp only [Bool.not_true, cond_false, letJ_eq]
 rw [show ((((s.Wings.length : Nat) : Int) == 0) : Bool) = false from by simp; intro q; simp [q] at h1, cond_false, show decide (((s.Wings.length : Nat) : Int) > 8) = false from decide_eq_false (by omega), cond_false]
 refine st1 s.Wings.length _ (some 0) ?_ ?_ N 0 (by omega) (by omega)
 ·intro rec; simp only [ltE, cond_false]
 ·intro rec i hi
  have hW : s.Wings[i]? = some s.Wings[i] := List.getElem?_eq_getElem hi
  obtain ⟨g, hn⟩ := h.wing i _ hW
  have g1 := g.l0; have g2 := g.l1; have g3 := g.p0; have g4 := g.p1; have g5 := g.p2
  have hpart : partI s.Wings 0 (i : Int) = some (s.Wings.take i) := by
   unfold partI
   rw [if_pos (by omega)]
   simp
  have hcw : p_parade_checkWing N s.Wings[i] (s.Wings.take i) = some 0 := by
   unfold p_parade_checkWing
   rw [isName_p N hN _ (List.mem_of_getElem? hn), Option.bind_some]
   simp only [Bool.not_true, cond_false, letJ_eq]
   refine st1 (s.Wings.take i).length _ (some 0) ?_ ?_ N 0 (by simp) (by simp; omega)
   ·intro rec
    simp only [ltE, cond_false, pw_p N _ 1 5000 g1 (by omega), Option.bind_some, Bool.not_true, pw_p N _ 1 200 g3 (by omega), pw_p N _ 1 200 (show 1 ≤ s.Wings[i].Pace.Hi by omega) (by omega)]
    rw [decide_eq_false (by omega), cond_false]
   ·intro rec k hk
    have hki : k < i := by simp at hk; omega
    have hWk : s.Wings[k]? = some s.Wings[k] := List.getElem?_eq_getElem (by omega)
    have hWk2 : (s.Wings.take i)[k]? = some s.Wings[k] := by rw [List.getElem?_take, if_pos hki, hWk]
    obtain ⟨_, hnk⟩ := h.wing k _ hWk
    simp only [ltD hk, cond_true, getD_at hWk2, Option.bind_some, names_p (by omega) hki hnk hn, cond_false, nadd1 k (by omega)]
  simp only [ltD hi, cond_true, getD_at hW, Option.bind_some, hpart, hcw, bne_self_eq_false, cond_false, nadd1 i (by omega)]
structure TrP (ws : List T_Wing) (st : List Int) (pc : Nat → Int) (t : T_parade_truth) : Prop where
 w : t.wings_ = ws
 s : t.starts_ = st
 p : ∀ k, k < ws.length → t.paces_.l[k]? = some (pc k)
theorem allAt_p (N : Nat) (hN : 1000 < N) (s : T_School) (h8 : s.Wings.length ≤ 8) (st : List Int) (e : Int) (pc : Nat → Int) (hpc : ∀ (k : Nat) w, s.Wings[k]? = some w → getA [w.Pace.Lo, w.Pace.Hi] e 2 = some (pc k)) : ∃ t, p_parade_allAt N s st e = some t ∧ TrP s.Wings st pc t := by
 unfold p_parade_allAt
 simp only [letJ_eq]
 refine invZ s.Wings (fun x => ∃ t, x = some t ∧ TrP s.Wings st pc t) (fun i (z : T_parade_truth) => z.wings_ = s.Wings ∧ z.starts_ = st ∧ ∀ k, k < i → z.paces_.l[k]? = some (pc k)) (by omega) ⟨rfl, rfl, fun k hk => absurd hk (Nat.not_lt_zero _)⟩ (fun rec z hz => ?_) (fun rec i w z hw hi hz ih => ?_)
 ·simp only [ltE, cond_false]
  exact ⟨z, rfl, hz.1, hz.2.1, hz.2.2⟩
 ·have e1 : p_parade_endsOf N w.Pace = some (⟨w.Pace.Lo, w.Pace.Hi⟩ : T_V2_i64) := rfl
  have e2 : (⟨w.Pace.Lo, w.Pace.Hi⟩ : T_V2_i64).l = [w.Pace.Lo, w.Pace.Hi] := rfl
  simp only [ltD hi, cond_true, getD_at hw, Option.bind_some, e1, e2, hpc i w hw, nadd1 i (by omega), show idxI (i : Int) 8 = some () from by unfold idxI; rw [if_pos (by omega)], Int.toNat_natCast]
  refine ih _ ⟨hz.1, hz.2.1, fun k hk => ?_⟩
  dsimp only
  rw [T_V8_i64.l_ofl _ (by rw [List.length_set]; rfl), List.getElem?_set]
  by_cases hki : i = k
  ·subst hki
   rw [if_pos rfl, if_pos (by show i < 8; omega)]
  ·rw [if_neg hki]
   exact hz.2.2 k (by omega)
theorem tpasses_p (N : Nat) (hN : 1000 < N) (ws : List T_Wing) (h : GoodWs ws) (h8 : ws.length ≤ 8) (st : List Int) (pc : Nat → Int) (t : T_parade_truth) (ht : TrP ws st pc t) (i : Nat) (hi : i < ws.length) (hst : i < st.length) (hs : ∀ k, k ≤ i → 0 ≤ atI st k ∧ atI st k ≤ 20000) (hp : ∀ k, k ≤ i → 1 ≤ pc k ∧ pc k ≤ 200) (pl : Int) (p0 : 0 ≤ pl) (p1 : pl ≤ 100000) : p_parade_truth_passes N t (i : Int) pl = some (up ws (atI st) pc (i + 1) pl (atI st i)) := by
 have hget : ∀ (l : List Int) k, k < l.length → getI l (k : Int) = some (atI l k) := fun l k hk => by
  rw [getI_nat]
  unfold atI
  rw [List.getElem?_eq_getElem hk]
  rfl
 unfold p_parade_truth_passes
 rw [ht.s, ht.w, hget st i hst, Option.bind_some, show p_parade_upTo N ws (i : Int) = some ((i : Int), ws) from rfl, Option.bind_some]
 simp only [letJ_eq]
 refine loop3_T (fun x => x = some (up ws (atI st) pc (i + 1) pl (atI st i))) (fun dist k second => ∃ j : Nat, k = (j : Int) - 1 ∧ j ≤ i + 1 ∧ 0 ≤ dist ∧ pl + dist + 100 * (j : Int) ≤ 200000 ∧ 0 ≤ second ∧ second ≤ 400000 ∧ up ws (atI st) pc j (if j ≤ i then pl + dist + lenW ws (j - 1) else pl + dist) second = up ws (atI st) pc (i + 1) pl (atI st i)) (fun _ k _ => (k + 1).toNat) ?_ N _ _ _ ⟨i + 1, by omega, Nat.le_refl _, Int.le_refl _, by omega, (hs i (Nat.le_refl _)).1, by have := (hs i (Nat.le_refl _)).2; omega, by rw [if_neg (by omega), Int.add_zero]⟩ (by omega)
 rintro rec dist k second ⟨j, rfl, hj, q0, q1, q2, q3, q4⟩ ih
 by_cases hj0 : j = 0
 ·subst hj0
  rw [show decide (((0 : Nat) : Int) - 1 ≥ 0) = false from rfl, cond_false]
  rw [← q4]
  rfl
 ·obtain ⟨m, rfl⟩ : ∃ m, j = m + 1 := ⟨j - 1, by omega⟩
  have hm : ((m + 1 : Nat) : Int) - 1 = (m : Int) := by omega
  rw [hm, show decide ((m : Int) ≥ 0) = true from decide_eq_true (by omega), cond_true]
  have hlb := lenW_bd h m
  have hsm := hs m (by omega)
  have hpm := hp m (by omega)
  have hgo : ∀ dist2 : Int, dist2 = (if m + 1 ≤ i then dist + lenW ws m else dist) → ((getI st (m : Int)).bind fun x_46 => ((idxI (m : Int) 8).bind fun u_47 => ((t.paces_.l[Int.toNat (m : Int)]?).bind fun x_48 => ((p_parade_dividedUp N (IntKind.i64.wrap (pl + dist2)) x_48).bind fun r_49 => (rec dist2 (IntKind.i64.wrap ((m : Int) - 1)) (if (IntKind.i64.wrap (x_46 + r_49)) > second then (IntKind.i64.wrap (x_46 + r_49)) else second)))))) = some (up ws (atI st) pc (i + 1) pl (atI st i)) := by
   intro dist2 hp2
   have hpb : 0 ≤ dist2 ∧ pl + dist2 + 100 * (m : Int) ≤ 200000 := by rw [hp2]; split <;> omega
   have hc0 := cdiv_nonneg (n := pl + dist2) (by omega) hpm.1
   have hc1 := cdiv_self (n := pl + dist2) (by omega) hpm.1
   have hdu : p_parade_dividedUp N (pl + dist2) (pc m) = some (cdiv (pl + dist2) (pc m)) := by
    unfold p_parade_dividedUp
    rw [show nzI (pc m) = some () from by unfold nzI; rw [if_neg (by omega)], Option.bind_some, w64 (x := pl + dist2 + pc m) (by omega) (by omega), w64 (x := pl + dist2 + pc m - 1) (by omega) (by omega)]
    rw [show Int.tdiv (pl + dist2 + pc m - 1) (pc m) = cdiv (pl + dist2) (pc m) from rfl, w64 (by omega) (by omega)]
   rw [hget st m (by omega), Option.bind_some, show idxI (m : Int) 8 = some () from by unfold idxI; rw [if_pos (by omega)], Option.bind_some, Int.toNat_natCast, ht.p m (by omega), Option.bind_some, w64 (x := pl + dist2) (by omega) (by omega), hdu, Option.bind_some, w64 (x := atI st m + cdiv (pl + dist2) (pc m)) (by omega) (by omega), w64 (x := (m : Int) - 1) (by omega) (by omega)]
   refine ih _ _ _ ⟨m, rfl, by omega, hpb.1, hpb.2, ?_, ?_, ?_⟩ (by omega)
   ·split <;> omega
   ·split <;> omega
   ·rw [if_pos (by omega), ← q4]
    have : (if m + 1 ≤ i then pl + dist + lenW ws (m + 1 - 1) else pl + dist) = pl + dist2 := by
     rw [hp2]
     show (if m + 1 ≤ i then pl + dist + lenW ws m else pl + dist) = _
     split <;> omega
    rw [this]
    rfl
  have hW : ws[m]? = some ws[m] := List.getElem?_eq_getElem (by omega)
  by_cases hlt : m < i
  ·rw [show decide ((m : Int) < (i : Int)) = true from decide_eq_true (by omega), cond_true, getD_at hW, Option.bind_some]
   have hle : lenW ws m = ws[m].Length := by unfold lenW; rw [hW]; rfl
   rw [w64 (x := dist + ws[m].Length) (by omega) (by omega)]
   exact hgo _ (by rw [if_pos (by omega), hle])
  ·rw [show decide ((m : Int) < (i : Int)) = false from decide_eq_false (by omega), cond_false]
   exact hgo _ (by rw [if_neg (by omega)])
theorem lo_ok {ws : List T_Wing} (k : Nat) (w : T_Wing) (h : ws[k]? = some w) : getA [w.Pace.Lo, w.Pace.Hi] 0 2 = some (loW ws k) := by
 unfold getA loW
 rw [h]
 rfl
theorem hi_ok {ws : List T_Wing} (k : Nat) (w : T_Wing) (h : ws[k]? = some w) : getA [w.Pace.Lo, w.Pace.Hi] 1 2 = some (hiW ws k) := by
 unfold getA hiW
 rw [h]
 rfl
theorem leastStart_p (N : Nat) (hN : 1000 < N) (s : T_School) (h : GoodWs s.Wings) (h8 : s.Wings.length ≤ 8) (st : List Int) (hi : st.length ≤ s.Wings.length) (hs : ∀ k, k < st.length → 0 ≤ atI st k ∧ atI st k ≤ 20000) : p_parade_leastStart N s st = some (leastAt s.Wings st st.length) := by
 unfold p_parade_leastStart
 cases hq : st.length with
 | zero => rfl
 | succ k =>
  obtain ⟨t, e, ht⟩ := allAt_p N hN s h8 st 0 (loW s.Wings) (fun k w => lo_ok k w)
  have hlb := lenW_bd h k
  have hW : s.Wings[k]? = some s.Wings[k] := List.getElem?_eq_getElem (by omega)
  have hle : lenW s.Wings k = s.Wings[k].Length := by unfold lenW; rw [hW]; rfl
  rw [show ((((k + 1 : Nat) : Int) == 0) : Bool) = false from by simp; omega, cond_false, e, Option.bind_some, w64 (x := ((k + 1 : Nat) : Int) - 1) (by omega) (by omega), show ((k + 1 : Nat) : Int) - 1 = (k : Int) by omega]
  unfold p_parade_truth_leaves
  rw [ht.w, getD_at hW, Option.bind_some, ← hle, Int.zero_add, w64 (x := lenW s.Wings k) (by omega) (by omega)]
  rw [tpasses_p N hN s.Wings h h8 st _ t ht k (by omega) (by omega) (fun j hj => hs j (by omega)) (fun j hj => by have := loW_bd h j; omega) _ hlb.1 (by omega)]
  rfl
theorem checkStarts_p (N : Nat) (hN : 1000 < N) (s : T_School) (h : GoodWs s.Wings) (h8 : s.Wings.length ≤ 8) (h1 : 1 ≤ s.Wings.length) (r0 : 1 ≤ s.Route) (r1 : s.Route ≤ 100000) (st : List Int) (hl : st.length = s.Wings.length) (hs : ∀ k, k < st.length → 0 ≤ atI st k ∧ atI st k ≤ 20000) (hge : ∀ k, k < st.length → leastAt s.Wings st k ≤ atI st k) : p_parade_CheckStarts N s st = some 0 := by
 unfold p_parade_CheckStarts
 rw [pcheck_p N hN s h h8 h1 r0 r1, Option.bind_some]
 simp only [bne_self_eq_false, cond_false, letJ_eq]
 rw [show ((((st.length : Nat) : Int) != ((s.Wings.length : Nat) : Int)) : Bool) = false from by simp; omega, cond_false]
 refine st1 st.length _ (some 0) ?_ ?_ N 0 (by omega) (by omega)
 ·intro rec; simp only [ltE, cond_false]
 ·intro rec i hi
  have hx : getI st (i : Int) = some (atI st i) := by
   rw [getI_nat]
   unfold atI
   rw [List.getElem?_eq_getElem hi]
   rfl
  have hpart : partI st 0 (i : Int) = some (st.take i) := by
   unfold partI
   rw [if_pos (by omega)]
   simp
  have htk : ∀ k, k < i → atI (st.take i) k = atI st k := fun k hk => by
   unfold atI
   rw [List.getElem?_take, if_pos hk]
  have htl : (st.take i).length = i := by simp; omega
  have hsi := hs i hi
  rw [ltD hi, cond_true, hx, Option.bind_some, pw_p N _ 0 20000 hsi.1 hsi.2, Option.bind_some]
  simp only [Bool.not_true, cond_false]
  rw [hpart, Option.bind_some, leastStart_p N hN s h h8 (st.take i) (by omega) (fun k hk => by rw [htk k (by omega)]; exact hs k (by omega)), Option.bind_some, htl, leastAt_congr (st' := st) i htk, decide_eq_false (by have := hge i hi; omega), cond_false, nadd1 i (by omega)]
end Go.Proofs.Ytloklokkognalaa
end
section
namespace Go.Proofs.Ytloklokkognalaa
open Go.RowKit

def ln (st pc : Nat → Int) (k : Nat) (t : Int) : Int := pc k * (t - st k)
def fr (ws : List T_Wing) (st pc : Nat → Int) : Nat → Int → Int
 | 0, t => ln st pc 0 t
 | i + 1, t => if ln st pc (i + 1) t < fr ws st pc i t - lenW ws i then ln st pc (i + 1) t else fr ws st pc i t - lenW ws i
def dn (ws : List T_Wing) (st pc : Nat → Int) (t : Int) : Nat → Int → Int → Int
 | 0, _, pl => pl
 | j + 1, d, pl => dn ws st pc t j (d + lenW ws (j - 1)) (if ln st pc j t - d < pl then ln st pc j t - d else pl)
theorem dn_fr (ws : List T_Wing) (st pc : Nat → Int) (t : Int) : ∀ (i : Nat) (d pl : Int), dn ws st pc t (i + 1) d pl = if fr ws st pc i t - d < pl then fr ws st pc i t - d else pl
 | 0, d, pl => rfl
 | i + 1, d, pl => by
  rw [dn, dn_fr ws st pc t i, show lenW ws (i + 1 - 1) = lenW ws i from rfl]
  show (if fr ws st pc i t - (d + lenW ws i) < _ then _ else _) = if fr ws st pc (i + 1) t - d < pl then fr ws st pc (i + 1) t - d else pl
  rw [fr]
  split <;> split <;> split <;> (try split) <;> omega
theorem ln_bd {st pc : Nat → Int} {k : Nat} {t : Int} (hs : 0 ≤ st k ∧ st k ≤ 20000) (hp : 1 ≤ pc k ∧ pc k ≤ 200) (ht : 0 ≤ t ∧ t ≤ 200000) : -40000000 ≤ ln st pc k t ∧ ln st pc k t ≤ 40000000 := by
 unfold ln
 by_cases h : 0 ≤ t - st k
 ·have h1 := Int.mul_le_mul hp.2 (show t - st k ≤ 200000 by omega) h (by omega)
  have h2 := Int.mul_nonneg (show 0 ≤ pc k by omega) h
  omega
 ·have h1 := Int.mul_le_mul hp.2 (show st k - t ≤ 200000 by omega) (by omega) (by omega)
  have h2 := Int.mul_nonneg (show 0 ≤ pc k by omega) (show 0 ≤ st k - t by omega)
  have h3 : pc k * (t - st k) = -(pc k * (st k - t)) := by rw [Int.mul_sub, Int.mul_sub]; omega
  omega
theorem fr_bd {ws : List T_Wing} (h : GoodWs ws) {st pc : Nat → Int} {t : Int} (ht : 0 ≤ t ∧ t ≤ 200000) : ∀ (i : Nat), (∀ k, k ≤ i → (0 ≤ st k ∧ st k ≤ 20000) ∧ 1 ≤ pc k ∧ pc k ≤ 200) → -40000000 - 100 * (i : Int) ≤ fr ws st pc i t ∧ fr ws st pc i t ≤ 40000000
 | 0, hk => by
  have := ln_bd (hk 0 (Nat.le_refl _)).1 (hk 0 (Nat.le_refl _)).2 ht
  rw [fr]
  omega
 | i + 1, hk => by
  have i1 := fr_bd h ht i fun k hk' => hk k (by omega)
  have l1 := ln_bd (hk (i + 1) (Nat.le_refl _)).1 (hk (i + 1) (Nat.le_refl _)).2 ht
  have lw := lenW_bd h i
  rw [fr]
  split <;> omega
theorem front_p (N : Nat) (hN : 1000 < N) (ws : List T_Wing) (h : GoodWs ws) (h8 : ws.length ≤ 8) (st : List Int) (pc : Nat → Int) (t : T_parade_truth) (ht : TrP ws st pc t) (i : Nat) (hi : i < ws.length) (hst : i < st.length) (hs : ∀ k, k ≤ i → (0 ≤ atI st k ∧ atI st k ≤ 20000) ∧ 1 ≤ pc k ∧ pc k ≤ 200) (sec : Int) (s01 : 0 ≤ sec ∧ sec ≤ 200000) : p_parade_truth_front N t (i : Int) sec = some (fr ws (atI st) pc i sec) := by
 have hget : ∀ (l : List Int) k, k < l.length → getI l (k : Int) = some (atI l k) := fun l k hk => by
  rw [getI_nat]
  unfold atI
  rw [List.getElem?_eq_getElem hk]
  rfl
 have hfb := fr_bd h s01 i hs
 unfold p_parade_truth_front
 rw [ht.w, show p_parade_upTo N ws (i : Int) = some ((i : Int), ws) from rfl, Option.bind_some]
 simp only [letJ_eq]
 refine loop3_T (fun x => x = some (fr ws (atI st) pc i sec)) (fun dist k pl => ∃ j : Nat, k = (j : Int) - 1 ∧ j ≤ i + 1 ∧ 0 ≤ dist ∧ dist + 100 * (j : Int) ≤ 1000 ∧ dn ws (atI st) pc sec j (if j ≤ i then dist + lenW ws (j - 1) else dist) pl = fr ws (atI st) pc i sec) (fun _ k _ => (k + 1).toNat) ?_ N _ _ _ ⟨i + 1, by omega, Nat.le_refl _, Int.le_refl _, by omega, by rw [if_neg (by omega), dn_fr]; split <;> omega⟩ (by omega)
 rintro rec dist k pl ⟨j, rfl, hj, q0, q1, q4⟩ ih
 by_cases hj0 : j = 0
 ·subst hj0
  rw [show decide (((0 : Nat) : Int) - 1 ≥ 0) = false from rfl, cond_false]
  rw [← q4]
  rfl
 ·obtain ⟨m, rfl⟩ : ∃ m, j = m + 1 := ⟨j - 1, by omega⟩
  have hm : ((m + 1 : Nat) : Int) - 1 = (m : Int) := by omega
  rw [hm, show decide ((m : Int) ≥ 0) = true from decide_eq_true (by omega), cond_true]
  have hlb := lenW_bd h m
  have hsm := hs m (by omega)
  have hlm := ln_bd hsm.1 hsm.2 s01
  have hgo : ∀ dist2 : Int, dist2 = (if m + 1 ≤ i then dist + lenW ws m else dist) → ((idxI (m : Int) 8).bind fun u_45 => ((t.paces_.l[Int.toNat (m : Int)]?).bind fun x_46 => ((getI t.starts_ (m : Int)).bind fun x_47 => (rec dist2 (IntKind.i64.wrap ((m : Int) - 1)) (if (IntKind.i64.wrap ((IntKind.i64.wrap (x_46 * (IntKind.i64.wrap (sec - x_47)))) - dist2)) < pl then (IntKind.i64.wrap ((IntKind.i64.wrap (x_46 * (IntKind.i64.wrap (sec - x_47)))) - dist2)) else pl))))) = some (fr ws (atI st) pc i sec) := by
   intro dist2 hp2
   have hpb : 0 ≤ dist2 ∧ dist2 + 100 * (m : Int) ≤ 1000 := by rw [hp2]; split <;> omega
   rw [show idxI (m : Int) 8 = some () from by unfold idxI; rw [if_pos (by omega)], Option.bind_some, Int.toNat_natCast, ht.p m (by omega), Option.bind_some, ht.s, hget st m (by omega), Option.bind_some, w64 (x := sec - atI st m) (by omega) (by omega), show pc m * (sec - atI st m) = ln (atI st) pc m sec from rfl, w64 (x := ln (atI st) pc m sec) (by omega) (by omega), w64 (x := ln (atI st) pc m sec - dist2) (by omega) (by omega), w64 (x := (m : Int) - 1) (by omega) (by omega)]
   refine ih _ _ _ ⟨m, rfl, by omega, hpb.1, hpb.2, ?_⟩ (by omega)
   rw [if_pos (by omega), ← q4]
   have : (if m + 1 ≤ i then dist + lenW ws (m + 1 - 1) else dist) = dist2 := by
    rw [hp2]
    rfl
   rw [this]
   rfl
  have hW : ws[m]? = some ws[m] := List.getElem?_eq_getElem (by omega)
  by_cases hlt : m < i
  ·rw [show decide ((m : Int) < (i : Int)) = true from decide_eq_true (by omega), cond_true, getD_at hW, Option.bind_some]
   have hle : lenW ws m = ws[m].Length := by unfold lenW; rw [hW]; rfl
   rw [w64 (x := dist + ws[m].Length) (by omega) (by omega)]
   exact hgo _ (by rw [if_pos (by omega), hle])
  ·rw [show decide ((m : Int) < (i : Int)) = false from decide_eq_false (by omega), cond_false]
   exact hgo _ (by rw [if_neg (by omega)])
def gp (ws : List T_Wing) (st pc : Nat → Int) (i : Nat) (t : Int) : Int := fr ws st pc i t - lenW ws i - fr ws st pc (i + 1) t
theorem gap_p (N : Nat) (hN : 1000 < N) (ws : List T_Wing) (h : GoodWs ws) (h8 : ws.length ≤ 8) (st : List Int) (pc : Nat → Int) (t : T_parade_truth) (ht : TrP ws st pc t) (i : Nat) (hi : i + 1 < ws.length) (hst : i + 1 < st.length) (hs : ∀ k, k ≤ i + 1 → (0 ≤ atI st k ∧ atI st k ≤ 20000) ∧ 1 ≤ pc k ∧ pc k ≤ 200) (sec : Int) (s01 : 0 ≤ sec ∧ sec ≤ 200000) : p_parade_truth_gap N t ((i + 1 : Nat) : Int) sec = some (gp ws (atI st) pc i sec) := by
 have hW : ws[i]? = some ws[i] := List.getElem?_eq_getElem (by omega)
 have hle : lenW ws i = ws[i].Length := by unfold lenW; rw [hW]; rfl
 have b1 := fr_bd h s01 i fun k hk => hs k (by omega)
 have b2 := fr_bd h s01 (i + 1) hs
 have lw := lenW_bd h i
 unfold p_parade_truth_gap
 rw [w64 (x := ((i + 1 : Nat) : Int) - 1) (by omega) (by omega), show ((i + 1 : Nat) : Int) - 1 = (i : Int) by omega, front_p N hN ws h h8 st pc t ht i (by omega) (by omega) (fun k hk => hs k (by omega)) sec s01, Option.bind_some, ht.w, getD_at hW, Option.bind_some, front_p N hN ws h h8 st pc t ht (i + 1) hi hst hs sec s01, Option.bind_some, ← hle, w64 (x := fr ws (atI st) pc i sec - lenW ws i) (by omega) (by omega), w64 (by omega) (by omega)]
 rfl
theorem gp_eq (ws : List T_Wing) (st pc : Nat → Int) (i : Nat) (t : Int) : gp ws st pc i t = if 0 < fr ws st pc i t - lenW ws i - ln st pc (i + 1) t then fr ws st pc i t - lenW ws i - ln st pc (i + 1) t else 0 := by
 unfold gp
 rw [fr]
 split <;> split <;> omega
theorem ln_mid (st pc : Nat → Int) (k : Nat) (t : Int) : ln st pc k (t + 2) - ln st pc k (t + 1) = ln st pc k (t + 1) - ln st pc k t := by
 unfold ln
 rw [show t + 2 - st k = (t - st k) + 2 by omega, show t + 1 - st k = (t - st k) + 1 by omega, Int.mul_add, Int.mul_add]
 omega
theorem fr_conc (ws : List T_Wing) (st pc : Nat → Int) : ∀ (i : Nat) (t : Int), fr ws st pc i (t + 2) + fr ws st pc i t ≤ 2 * fr ws st pc i (t + 1)
 | 0, t => by
  have := ln_mid st pc 0 t
  simp only [fr]
  omega
 | i + 1, t => by
  have := ln_mid st pc (i + 1) t
  have := fr_conc ws st pc i t
  simp only [fr]
  split <;> split <;> split <;> omega
theorem fr_mono (ws : List T_Wing) (st pc pc' : Nat → Int) (t : Int) : ∀ (i : Nat), (∀ k, k ≤ i → pc k ≤ pc' k ∧ st k ≤ t) → fr ws st pc i t ≤ fr ws st pc' i t
 | 0, h => by
  obtain ⟨a, b⟩ := h 0 (Nat.le_refl _)
  simp only [fr, ln]
  exact Int.mul_le_mul_of_nonneg_right a (by omega)
 | i + 1, h => by
  have ih := fr_mono ws st pc pc' t i fun k hk => h k (by omega)
  obtain ⟨a, b⟩ := h (i + 1) (Nat.le_refl _)
  have hl : ln st pc (i + 1) t ≤ ln st pc' (i + 1) t := Int.mul_le_mul_of_nonneg_right a (show 0 ≤ t - st (i + 1) by omega)
  rw [fr, fr]
  split <;> split <;> omega
end Go.Proofs.Ytloklokkognalaa
end
section
namespace Go.Proofs.Ytloklokkognalaa
open Go.RowKit

def pos (x : Int) : Int := if 0 < x then x else 0
theorem conc_up {c : Int → Int} (hc : ∀ t, c (t + 2) + c t ≤ 2 * c (t + 1)) (f : Int) : ∀ d : Nat, c (f + d) < c (f + d + 1) → c f ≤ c (f + d)
 | 0, _ => by simp
 | d + 1, h => by
  have e : f + ((d + 1 : Nat) : Int) = f + d + 1 := by omega
  rw [e] at h ⊢
  have h2 := hc (f + d)
  rw [show f + (d : Int) + 1 + 1 = f + d + 2 by omega] at h
  have := conc_up hc f d (by omega)
  omega
theorem conc_down {c : Int → Int} (hc : ∀ t, c (t + 2) + c t ≤ 2 * c (t + 1)) (f : Int) (h0 : 0 ≤ c f) (x : Int) (hx : f ≤ x) (h : pos (c (x + 1)) ≤ pos (c x)) : ∀ d : Nat, pos (c (x + d + 1)) ≤ pos (c (x + d))
 | 0 => by simpa using h
 | d + 1 => by
  have ih := conc_down hc f h0 x hx h d
  have e : x + ((d + 1 : Nat) : Int) = x + d + 1 := by omega
  rw [e]
  have h2 := hc (x + d)
  rw [show x + (d : Int) + 1 + 1 = x + d + 2 by omega]
  have hu : c (x + d) < c (x + d + 1) → c f ≤ c (x + d) := fun hh => by
   have := conc_up hc f (x + d - f).toNat
   rw [show f + (((x + d - f).toNat : Nat) : Int) = x + d by omega] at this
   exact this hh
  by_cases hlt : c (x + d) < c (x + d + 1)
  ·have := hu hlt
   unfold pos at ih
   split at ih <;> split at ih <;> omega
  ·unfold pos
   split <;> split <;> omega
theorem grow_le {G : Int → Int} (f : Int) (r : Nat) (h : ∀ k : Nat, k < r → G (f + k) < G (f + k + 1)) : ∀ d : Nat, d ≤ r → G (f + (r - d : Nat)) ≤ G (f + r)
 | 0, _ => Int.le_refl _
 | d + 1, hd => by
  have ih := grow_le f r h d (by omega)
  have := h (r - (d + 1)) (by omega)
  rw [show f + ((r - (d + 1) : Nat) : Int) + 1 = f + ((r - d : Nat) : Int) by omega] at this
  omega
theorem fall_le {G : Int → Int} (f : Int) (r n : Nat) (h : ∀ k : Nat, r ≤ k → k < n → G (f + k + 1) ≤ G (f + k)) : ∀ d : Nat, r + d ≤ n → G (f + (r + d : Nat)) ≤ G (f + r)
 | 0, _ => Int.le_refl _
 | d + 1, hd => by
  have ih := fall_le f r n h d (by omega)
  have := h (r + d) (by omega) (by omega)
  rw [show f + ((r + d : Nat) : Int) + 1 = f + ((r + (d + 1) : Nat) : Int) by omega] at this
  omega
theorem peak_p (N : Nat) (t : T_parade_truth) (wing f u : Int) (G : Int → Int) (f0 : 0 ≤ f) (u1 : u ≤ 100000) (hfu : f < u) (hN : u.toNat < N) (hG : ∀ s, f ≤ s → s < u → p_parade_truth_gap N t wing s = some (G s)) (hU : ∀ x y, f ≤ x → x ≤ y → y + 1 < u → G (x + 1) ≤ G x → G (y + 1) ≤ G y) : ∃ r, p_parade_peak_parade_truth_gap N t wing f u = some ⟨wing, r, G r⟩ ∧ f ≤ r ∧ r < u ∧ ∀ s, f ≤ s → s < u → G s ≤ G r := by
 unfold p_parade_peak_parade_truth_gap
 rw [show decide (f ≥ u) = false from decide_eq_false (by omega), cond_false, letJ_eq, w64 (x := u - 1) (by omega) (by omega), w64 (x := u - 1 - f) (by omega) (by omega)]
 refine loop2_T (fun (o : Option T_parade_opening) => ∃ r, o = some ⟨wing, r, G r⟩ ∧ f ≤ r ∧ r < u ∧ ∀ s, f ≤ s → s < u → G s ≤ G r)
  (fun i j => 0 ≤ i ∧ i ≤ j ∧ j ≤ u - 1 - f ∧ (∀ k : Nat, (k : Int) < i → G (f + k) < G (f + k + 1)) ∧ ∀ k : Nat, j ≤ (k : Int) → (k : Int) < u - 1 - f → G (f + k + 1) ≤ G (f + k)) (fun i j => (j - i).toNat) ?_ N 0 (u - 1 - f) ⟨Int.le_refl _, by omega, Int.le_refl _, fun k a => by omega, fun k a b => by omega⟩ (by omega)
 rintro rec i j ⟨i0, ij, jn, h1, h2⟩ ih
 by_cases hlt : i < j
 ·have e2 : (2 : Int) ^ (min (Int.toNat 1) (IntKind.bits .u64)) = 2 := rfl
  rw [show decide (i < j) = true from decide_eq_true hlt, cond_true, letJ_eq, Option.bind_some, w64 (x := i + j) (by omega) (by omega), wu64_id (x := i + j) (by omega) (by omega), e2, Int.fdiv_eq_ediv_of_nonneg _ (by omega), w64 (x := (i + j) / 2) (by omega) (by omega), w64 (x := (i + j) / 2 + 1) (by omega) (by omega)]
  obtain ⟨c, hc⟩ : ∃ c : Nat, (i + j) / 2 = (c : Int) := ⟨((i + j) / 2).toNat, by omega⟩
  rw [hc]
  have hc1 : i ≤ (c : Int) ∧ (c : Int) < j := by omega
  rw [w64 (x := f + (c : Int)) (by omega) (by omega), w64 (x := f + (c : Int) + 1) (by omega) (by omega), hG _ (by omega) (by omega), Option.bind_some, hG _ (by omega) (by omega), Option.bind_some]
  by_cases hb : G (f + c + 1) ≤ G (f + c)
  ·rw [decide_eq_true hb, Bool.not_true, cond_false]
   refine ih _ _ ⟨i0, hc1.1, by omega, h1, fun k k0 k1 => ?_⟩ (by omega)
   exact hU (f + c) (f + k) (by omega) (by omega) (by omega) hb
  ·rw [decide_eq_false hb, Bool.not_false, cond_true]
   refine ih _ _ ⟨by omega, by omega, jn, fun k k1 => ?_, h2⟩ (by omega)
   by_cases hk : G (f + k + 1) ≤ G (f + k)
   ·exact absurd (hU (f + k) (f + c) (by omega) (by omega) (by omega) hk) hb
   ·omega
 ·have he : j = i := by omega
  subst he
  rw [show decide (j < j) = false from decide_eq_false (by omega), cond_false]
  obtain ⟨r, rfl⟩ : ∃ r : Nat, j = (r : Int) := ⟨j.toNat, by omega⟩
  dsimp only
  rw [w64 (x := f + (r : Int)) (by omega) (by omega), hG _ (by omega) (by omega), Option.bind_some]
  refine ⟨f + r, rfl, by omega, by omega, fun s s0 s1 => ?_⟩
  by_cases hs : s ≤ f + r
  ·have := grow_le (G := G) f r (fun k hk => h1 k (by omega)) (r - (s - f).toNat) (by omega)
   rw [show f + ((r - (r - (s - f).toNat) : Nat) : Int) = s by omega] at this
   exact this
  ·have := fall_le (G := G) f r (u - 1 - f).toNat (fun k k0 k1 => h2 k (by omega) (by omega)) ((s - f).toNat - r) (by omega)
   rw [show f + ((r + ((s - f).toNat - r) : Nat) : Int) = s by omega] at this
   exact this
end Go.Proofs.Ytloklokkognalaa
end
section
namespace Go.Proofs.Ytloklokkognalaa
open Go.RowKit

theorem setP {t : T_parade_truth} {ws : List T_Wing} {st : List Int} {pc : Nat → Int} (h8 : ws.length ≤ 8) (h : TrP ws st pc t) (i : Nat) (hi : i < ws.length) (v : Int) : TrP ws st (fun k => if k = i then v else pc k) ⟨t.wings_, t.starts_, T_V8_i64.ofl (t.paces_.l.set i v)⟩ :=
 ⟨h.w, h.s, fun k hk => by
  dsimp only
  rw [T_V8_i64.l_ofl _ (by rw [List.length_set]; rfl), List.getElem?_set]
  by_cases hki : i = k
  ·subst hki
   rw [if_pos rfl, if_pos rfl, if_pos (by show i < 8; omega)]
  ·rw [if_neg hki, if_neg (Ne.symm hki)]
   exact h.p k hk⟩
theorem apart_p (N : Nat) (hN : 1000 < N) (s : T_School) (h8 : s.Wings.length ≤ 8) (st : List Int) (i : Nat) (hi : i < s.Wings.length) :
  (∃ t, p_parade_apart N s st (i : Int) 0 = some t ∧ TrP s.Wings st (fun k => if k = i then loW s.Wings i else hiW s.Wings k) t) ∧ ∃ t, p_parade_apart N s st (i : Int) 1 = some t ∧ TrP s.Wings st (fun k => if k = i then hiW s.Wings i else loW s.Wings k) t := by
 have hW : s.Wings[i]? = some s.Wings[i] := List.getElem?_eq_getElem hi
 have e1 : ∀ x : T_Span, p_parade_endsOf N x = some (⟨x.Lo, x.Hi⟩ : T_V2_i64) := fun _ => rfl
 have e2 : ∀ a b : Int, (⟨a, b⟩ : T_V2_i64).l = [a, b] := fun _ _ => rfl
 have hx : idxI (i : Int) 8 = some () := by unfold idxI; rw [if_pos (by omega)]
 obtain ⟨t0, f0, g0⟩ := allAt_p N hN s h8 st 0 (loW s.Wings) lo_ok
 obtain ⟨t1, f1, g1⟩ := allAt_p N hN s h8 st 1 (hiW s.Wings) hi_ok
 constructor
 ·refine ⟨_, ?_, setP h8 g1 i hi (loW s.Wings i)⟩
  unfold p_parade_apart
  rw [show IntKind.i64.wrap (1 - 0) = 1 from rfl, f1, Option.bind_some, getD_at hW, Option.bind_some, e1, Option.bind_some, e2, lo_ok i _ hW, Option.bind_some, hx, Option.bind_some, Option.bind_some, Int.toNat_natCast]
 ·refine ⟨_, ?_, setP h8 g0 i hi (hiW s.Wings i)⟩
  unfold p_parade_apart
  rw [show IntKind.i64.wrap (1 - 1) = 0 from rfl, f0, Option.bind_some, getD_at hW, Option.bind_some, e1, Option.bind_some, e2, hi_ok i _ hW, Option.bind_some, hx, Option.bind_some, Option.bind_some, Int.toNat_natCast]
def till (ws : List T_Wing) (st : List Int) (route : Int) (i : Nat) : Int := up ws (atI st) (hiW ws) (i + 1) (route + lenW ws i) (atI st i)
theorem gp_pos (ws : List T_Wing) (st pc : Nat → Int) (i : Nat) (t : Int) : gp ws st pc i t = pos (fr ws st pc i t - lenW ws i - ln st pc (i + 1) t) := gp_eq ws st pc i t
theorem gp_conc (ws : List T_Wing) (st pc : Nat → Int) (i : Nat) (t : Int) : (fun t => fr ws st pc i t - lenW ws i - ln st pc (i + 1) t) (t + 2) + (fun t => fr ws st pc i t - lenW ws i - ln st pc (i + 1) t) t ≤ 2 * (fun t => fr ws st pc i t - lenW ws i - ln st pc (i + 1) t) (t + 1) := by
 have := fr_conc ws st pc i t
 have := ln_mid st pc (i + 1) t
 dsimp only
 omega
theorem gp_mono (ws : List T_Wing) (st pc pc' : Nat → Int) (i : Nat) (t : Int) (h : ∀ k, k ≤ i → pc k ≤ pc' k ∧ st k ≤ t) (h1 : pc' (i + 1) ≤ pc (i + 1)) (h2 : st (i + 1) ≤ t) : gp ws st pc i t ≤ gp ws st pc' i t := by
 have a := fr_mono ws st pc pc' t i h
 have b := Int.mul_le_mul_of_nonneg_right h1 (show 0 ≤ t - st (i + 1) by omega)
 rw [gp_pos, gp_pos]
 unfold pos ln
 split <;> split <;> omega
theorem peakT_p (N : Nat) (hN : 200000 < N) (ws : List T_Wing) (h : GoodWs ws) (h8 : ws.length ≤ 8) (st : List Int) (pc : Nat → Int) (t : T_parade_truth) (ht : TrP ws st pc t) (i : Nat) (hi : i + 1 < ws.length) (hst : i + 1 < st.length) (hs : ∀ k, k ≤ i + 1 → (0 ≤ atI st k ∧ atI st k ≤ 20000) ∧ 1 ≤ pc k ∧ pc k ≤ 200) (u : Int) (u1 : u ≤ 100000) (hfu : atI st (i + 1) < u) (h0 : 0 ≤ fr ws (atI st) pc i (atI st (i + 1)) - lenW ws i) : ∃ r, p_parade_peak_parade_truth_gap N t ((i + 1 : Nat) : Int) (atI st (i + 1)) u = some ⟨((i + 1 : Nat) : Int), r, gp ws (atI st) pc i r⟩ ∧ atI st (i + 1) ≤ r ∧ r < u ∧ ∀ s, atI st (i + 1) ≤ s → s < u → gp ws (atI st) pc i s ≤ gp ws (atI st) pc i r := by
 have hf := (hs (i + 1) (Nat.le_refl _)).1
 refine peak_p N t _ (atI st (i + 1)) u (gp ws (atI st) pc i) hf.1 u1 hfu (by omega) (fun s s0 s1 => gap_p N (by omega) ws h h8 st pc t ht i hi hst hs s ⟨by omega, by omega⟩) fun x y x0 xy yu hh => ?_
 have := conc_down (c := fun t => fr ws (atI st) pc i t - lenW ws i - ln (atI st) pc (i + 1) t) (gp_conc ws (atI st) pc i) (atI st (i + 1)) (by
  show 0 ≤ fr ws (atI st) pc i (atI st (i + 1)) - lenW ws i - ln (atI st) pc (i + 1) (atI st (i + 1))
  rw [show ln (atI st) pc (i + 1) (atI st (i + 1)) = 0 by unfold ln; rw [Int.sub_self, Int.mul_zero]]
  omega) x x0 (by rw [gp_pos, gp_pos] at hh; exact hh) (y - x).toNat
 rw [show x + (((y - x).toNat : Nat) : Int) = y by omega] at this
 rw [gp_pos, gp_pos]
 exact this
end Go.Proofs.Ytloklokkognalaa
end
section
namespace Go.Proofs.Ytloklokkognalaa
open Go.RowKit
attribute [local simp] ren ren1 AV.plain AV.plain1 AV.clean cleanL cleanI cleanBo cleanSt cleanII KL_bk_Drum KL_Span KL_Wing KL_School KL_Rules KL_V2_i64 KL_V8_i64 KL_parade_truth KL_parade_opening A_bk_Drum C_bk_Drum A_Span C_Span A_Wing C_Wing A_School C_School A_Rules C_Rules A_V2_i64 C_V2_i64 A_V8_i64 C_V8_i64 A_parade_truth C_parade_truth A_parade_opening C_parade_opening back back1 re re1 List.idxOf? List.findIdx? List.findIdx?.go KB_bk_Drum KB_Span KB_Wing KB_School KB_Rules KB_V2_i64 KB_V8_i64 KB_parade_truth KB_parade_opening fadeS fadeV scal
def p_br1_Front (N : Nat) (s_1 : T_School) (starts_2 : (List Int)) (paces_3 : (List Int)) (wing_4 : Int) (second_5 : Int) : Option (Int) := ((getI paces_3 0).bind fun x_6 => ((getI starts_2 0).bind fun x_7 => (letJ (fun (x_8 : Int) => some x_8) (fun k_9 => (loop2 (fun rec_14 (x_12 : Int) (i_13 : Int) => (bif (decide (i_13 ≤ wing_4)) then ((getI paces_3 i_13).bind fun x_18 => ((getI starts_2 i_13).bind fun x_19 => ((getI s_1.Wings (IntKind.i64.wrap (i_13 - 1))).bind fun x_20 => (rec_14 (if (IntKind.i64.wrap (x_12 - x_20.Length)) < (IntKind.i64.wrap (x_18 * (IntKind.i64.wrap (second_5 - x_19)))) then (IntKind.i64.wrap (x_12 - x_20.Length)) else (IntKind.i64.wrap (x_18 * (IntKind.i64.wrap (second_5 - x_19))))) (IntKind.i64.wrap (i_13 + 1)))))) else (k_9 x_12))) N (IntKind.i64.wrap (x_6 * (IntKind.i64.wrap (second_5 - x_7)))) 1)))))
def v_br1_Front (r : Int) : AV := i6 r
attribute [local simp] v_br1_Front
theorem b_br1_Front (r : Int) (n n2 m : Nat) : back n n2 m (v_br1_Front r) = some (v_br1_Front r) := by simp
theorem d_br1_Front (N : Nat) (s_1 : T_School) (starts_2 : (List Int)) (paces_3 : (List Int)) (wing_4 : Int) (second_5 : Int) (r : Int) (h : p_br1_Front N s_1 starts_2 paces_3 wing_4 second_5 = some r) : Does Try.prog 25 [(A_School s_1), .sl (starts_2.map (AV.int .i64)) none, .sl (paces_3.map (AV.int .i64)) none, i6 wing_4, i6 second_5] [] fun v c => v = v_br1_Front r ∧ c = [] := by
 unfold p_br1_Front at h
 refine Does.ofL comp25 _ _ rfl rfl ?_
 refine Ex.seq (rg 2 [1, 2, 3, 4, 5] (mkS 49 [(1, .sl (starts_2.map (AV.int .i64)) none), (2, .sl (paces_3.map (AV.int .i64)) none), (3, i6 wing_4), (4, i6 second_5), (5, .ptr 0 0)]) ⟨[(C_School s_1)], []⟩ ?_)
 refine Ex.seq ?_
 obtain ⟨x_6, hx_6, h⟩ := bE h
 obtain ⟨x_7, hx_7, h⟩ := bE h
 refine Ex.drawE (a1 := mkS 49 [(1, .sl (starts_2.map (AV.int .i64)) none), (2, .sl (paces_3.map (AV.int .i64)) none), (3, i6 wing_4), (4, i6 second_5), (5, .ptr 0 0), (13, .sl (paces_3.map (AV.int .i64)) none), (14, .rop [i6 x_6]), (15, i6 x_6), (16, i6 second_5), (17, .sl (starts_2.map (AV.int .i64)) none), (18, .rop [i6 x_7]), (19, i6 x_7), (20, i6 (IntKind.i64.wrap (second_5 - x_7)))]) (noClr_ok _) [] [] [] ?_ ?_
 ·refine drS [0] 8 [(1, .rop [i6 x_6]), (5, .rop [i6 x_7])] [LGet (paces_3.map (AV.int .i64)) 0 1 [i6 x_6], LGet (starts_2.map (AV.int .i64)) 0 1 [i6 x_7]] (mkS 49 [(1, .sl (starts_2.map (AV.int .i64)) none), (2, .sl (paces_3.map (AV.int .i64)) none), (3, i6 wing_4), (4, i6 second_5), (5, .ptr 0 0), (13, .sl (paces_3.map (AV.int .i64)) none), (14, .rop [i6 x_6]), (15, i6 x_6), (16, i6 second_5), (17, .sl (starts_2.map (AV.int .i64)) none), (18, .rop [i6 x_7]), (19, i6 x_7), (20, i6 (IntKind.i64.wrap (second_5 - x_7)))]) (by simp) (by kernel_rfl) ⟨LGet.of hx_6 rfl, LGet.of hx_7 rfl, trivial⟩ (by kernel_rfl) ?_
  exact DrO.nil rfl
 ·dsimp only [List.getLastD_cons, List.getLastD_nil]
  refine rn 2 [1, 2, 3, 4, 5, 11] (mkS 49 [(1, .sl (starts_2.map (AV.int .i64)) none), (2, .sl (paces_3.map (AV.int .i64)) none), (3, i6 wing_4), (4, i6 second_5), (5, .ptr 0 0), (11, i6 (IntKind.i64.wrap (x_6 * (IntKind.i64.wrap (second_5 - x_7)))))]) ⟨[(C_School s_1)], []⟩ ?_
  refine ExO.nil ?_
  refine Ex.seq (Ex.seq ?_)
  refine rg 1 [1, 2, 3, 4, 5, 11, 12] (mkS 49 [(1, .sl (starts_2.map (AV.int .i64)) none), (2, .sl (paces_3.map (AV.int .i64)) none), (3, i6 wing_4), (4, i6 second_5), (5, .ptr 0 0), (11, i6 (IntKind.i64.wrap (x_6 * (IntKind.i64.wrap (second_5 - x_7))))), (12, i6 1)]) ⟨[(C_School s_1)], []⟩ ?_
  obtain ⟨K_10, hK_11, h⟩ := letE h
  refine Ex.blockJ (fun a S => ∃ (x_8 : Int), K_10 x_8 = some r ∧ a = mkS 49 [(11, i6 x_8)] ∧ S = ⟨[], []⟩) ?_ ?_
  ·obtain ⟨B_15, hB_16, h⟩ := loop2I h
   refine Ex.loopF (fun k a S => ∃ (x_12 : Int), ∃ (i_13 : Int), loop2 B_15 k x_12 i_13 = some r ∧ a = mkS 49 [(1, .sl (starts_2.map (AV.int .i64)) none), (2, .sl (paces_3.map (AV.int .i64)) none), (3, i6 wing_4), (4, i6 second_5), (5, .ptr 0 0), (11, i6 x_12), (12, i6 i_13)] ∧ S = ⟨[(C_School s_1)], []⟩) N ⟨_, _, Forgets.refl _ _ _, (IntKind.i64.wrap (x_6 * (IntKind.i64.wrap (second_5 - x_7)))), 1, h, rfl, rfl⟩ ?_
   rintro k a S ⟨x_12, i_13, h, rfl, rfl⟩
   cases k with
   | zero => exact (loop2Z h).elim
   | succ k =>
    replace h := loop2S h hB_16
    refine Ex.seq (Ex.seq ?_)
    refine rg 3 [1, 2, 3, 4, 5, 11, 12, 24] (mkS 49 [(1, .sl (starts_2.map (AV.int .i64)) none), (2, .sl (paces_3.map (AV.int .i64)) none), (3, i6 wing_4), (4, i6 second_5), (5, .ptr 0 0), (11, i6 x_12), (12, i6 i_13), (24, .bool (decide (i_13 ≤ wing_4)))]) ⟨[(C_School s_1)], []⟩ ?_
    rcases condI h with ⟨hc_17, h⟩ | ⟨hc_17, h⟩
    ·refine Ex.condT _ rfl hc_17 ?_
     refine Ex.skip ?_
     refine Ex.seq ?_
     refine Ex.blockK ?_
     obtain ⟨x_18, hx_18, h⟩ := bE h
     obtain ⟨x_19, hx_19, h⟩ := bE h
     obtain ⟨x_20, hx_20, h⟩ := bE h
     refine Ex.drawE (a1 := mkS 49 [(1, .sl (starts_2.map (AV.int .i64)) none), (2, .sl (paces_3.map (AV.int .i64)) none), (3, i6 wing_4), (4, i6 second_5), (5, .ptr 0 0), (11, i6 x_12), (12, i6 i_13), (24, .bool (decide (i_13 ≤ wing_4))), (27, .sl (paces_3.map (AV.int .i64)) none), (28, i6 i_13), (29, .rop [i6 x_18]), (30, i6 x_18), (31, i6 second_5), (32, .sl (starts_2.map (AV.int .i64)) none), (33, i6 i_13), (34, .rop [i6 x_19]), (35, i6 x_19), (36, i6 (IntKind.i64.wrap (second_5 - x_19))), (37, i6 (IntKind.i64.wrap (x_18 * (IntKind.i64.wrap (second_5 - x_19))))), (38, i6 x_12), (39, .ptr 0 1), (40, .sl (s_1.Wings.map A_Wing) none), (41, i6 i_13), (42, i6 (IntKind.i64.wrap (i_13 - 1))), (43, .rop (C_Wing x_20)), (44, .rop [i6 x_20.Length, i6 x_20.Pace.Lo, i6 x_20.Pace.Hi]), (45, i6 x_20.Length), (46, i6 (IntKind.i64.wrap (x_12 - x_20.Length)))]) (noClr_ok _) [] [] [] ?_ ?_
     ·refine drS [0] 20 [(2, .rop [i6 x_18]), (7, .rop [i6 x_19]), (16, .rop (C_Wing x_20))] [LGet (paces_3.map (AV.int .i64)) i_13 1 [i6 x_18], LGet (starts_2.map (AV.int .i64)) i_13 1 [i6 x_19], LGet (s_1.Wings.map A_Wing) (IntKind.i64.wrap (i_13 - 1)) 4 (C_Wing x_20)] (mkS 49 [(1, .sl (starts_2.map (AV.int .i64)) none), (2, .sl (paces_3.map (AV.int .i64)) none), (3, i6 wing_4), (4, i6 second_5), (5, .ptr 0 0), (11, i6 x_12), (12, i6 i_13), (24, .bool (decide (i_13 ≤ wing_4))), (27, .sl (paces_3.map (AV.int .i64)) none), (28, i6 i_13), (29, .rop [i6 x_18]), (30, i6 x_18), (31, i6 second_5), (32, .sl (starts_2.map (AV.int .i64)) none), (33, i6 i_13), (34, .rop [i6 x_19]), (35, i6 x_19), (36, i6 (IntKind.i64.wrap (second_5 - x_19))), (37, i6 (IntKind.i64.wrap (x_18 * (IntKind.i64.wrap (second_5 - x_19))))), (38, i6 x_12), (39, .ptr 0 1), (40, .sl (s_1.Wings.map A_Wing) none), (41, i6 i_13), (42, i6 (IntKind.i64.wrap (i_13 - 1))), (43, .rop (C_Wing x_20)), (44, .rop [i6 x_20.Length, i6 x_20.Pace.Lo, i6 x_20.Pace.Hi]), (45, i6 x_20.Length), (46, i6 (IntKind.i64.wrap (x_12 - x_20.Length)))]) (by simp) (by kernel_rfl) ⟨LGet.of hx_18 rfl, LGet.of hx_19 rfl, LGet.of hx_20 rfl, trivial⟩ (by kernel_rfl) ?_
      exact DrO.nil rfl
     ·dsimp only [List.getLastD_cons, List.getLastD_nil]
      refine rn 2 [1, 2, 3, 4, 5, 11, 12] (mkS 49 [(1, .sl (starts_2.map (AV.int .i64)) none), (2, .sl (paces_3.map (AV.int .i64)) none), (3, i6 wing_4), (4, i6 second_5), (5, .ptr 0 0), (11, i6 (if (IntKind.i64.wrap (x_12 - x_20.Length)) < (IntKind.i64.wrap (x_18 * (IntKind.i64.wrap (second_5 - x_19)))) then (IntKind.i64.wrap (x_12 - x_20.Length)) else (IntKind.i64.wrap (x_18 * (IntKind.i64.wrap (second_5 - x_19)))))), (12, i6 i_13)]) ⟨[(C_School s_1)], []⟩ ?_
      refine ExO.nil ?_
      refine rg 3 [1, 2, 3, 4, 5, 11, 12] (mkS 49 [(1, .sl (starts_2.map (AV.int .i64)) none), (2, .sl (paces_3.map (AV.int .i64)) none), (3, i6 wing_4), (4, i6 second_5), (5, .ptr 0 0), (11, i6 (if (IntKind.i64.wrap (x_12 - x_20.Length)) < (IntKind.i64.wrap (x_18 * (IntKind.i64.wrap (second_5 - x_19)))) then (IntKind.i64.wrap (x_12 - x_20.Length)) else (IntKind.i64.wrap (x_18 * (IntKind.i64.wrap (second_5 - x_19)))))), (12, i6 (IntKind.i64.wrap (i_13 + 1)))]) ⟨[(C_School s_1)], []⟩ ?_
      dsimp only
      exact ⟨_, _, Forgets.refl _ _ _, k, Nat.lt_succ_self k, (if (IntKind.i64.wrap (x_12 - x_20.Length)) < (IntKind.i64.wrap (x_18 * (IntKind.i64.wrap (second_5 - x_19)))) then (IntKind.i64.wrap (x_12 - x_20.Length)) else (IntKind.i64.wrap (x_18 * (IntKind.i64.wrap (second_5 - x_19))))), (IntKind.i64.wrap (i_13 + 1)), h, rfl, rfl⟩
    ·refine Ex.condF _ rfl hc_17 ?_
     refine Ex.exit ?_
     (try simp only [reduceCtorEq, AEx.ex.injEq, Nat.reduceEqDiff, if_true, if_false])
     exact ⟨_, _, forgetA (m := 49) 0 [] [(11, i6 x_12)] [] [] (by simp [setAll]) (by simp) ⟨rfl, trivial⟩ (by simp) rfl (by decide), x_12, h, rfl, rfl⟩
  ·rintro a S ⟨x_8, h, rfl, rfl⟩
   subst hK_11
   refine Ex.seq (rg 2 [10] (mkS 49 [(10, i6 x_8)]) ⟨[], []⟩ ?_)
   refine Ex.ret ?_
   obtain rfl := sJ h
   exact rt (i6 x_8)
def p_bl1_span (N : Nat) (low_1 : Int) (high_2 : Int) : Option (T_Span) := some (⟨low_1, high_2⟩ : T_Span)
def v_bl1_span (r : T_Span) : AV := (A_Span r)
attribute [local simp] v_bl1_span
theorem a_bl1_span (low_1 : Int) (high_2 : Int) : [i6 low_1, i6 high_2].mapM (ren []) = some [i6 low_1, i6 high_2] := by simp
theorem b_bl1_span (r : T_Span) (n n2 m : Nat) : back n n2 m (v_bl1_span r) = some (v_bl1_span r) := by simp
theorem d_bl1_span (N : Nat) (low_1 : Int) (high_2 : Int) (r : T_Span) (h : p_bl1_span N low_1 high_2 = some r) : Does Try.prog 34 [i6 low_1, i6 high_2] [] fun v c => v = v_bl1_span r ∧ c = [] := by
 unfold p_bl1_span at h
 refine Does.ofL comp34 _ _ rfl rfl ?_
 refine Ex.seq (rg 1 [0, 1, 4] (mkS 8 [(0, i6 low_1), (1, i6 high_2), (4, .ptr 0 0)]) ⟨[[i6 0, i6 0]], []⟩ ?_)
 refine Ex.seq (rg 4 [4] (mkS 8 [(4, .ptr 0 0)]) ⟨[[i6 low_1, i6 high_2]], []⟩ ?_)
 refine Ex.ret ?_
 obtain rfl := sJ h
 exact rt (.agg [i6 low_1, i6 high_2])
def p_bl1_samba (N : Nat)  : Option (T_School) := ((p_bl1_span N 40 50).bind fun r_1 => ((p_bl1_span N 50 60).bind fun r_2 => ((p_bl1_span N 30 50).bind fun r_3 => some (⟨1000, [(⟨(ByteArray.mk #[102, 114, 111, 110, 116]), 100, r_1⟩ : T_Wing), (⟨(ByteArray.mk #[100, 114, 117, 109, 115]), 200, r_2⟩ : T_Wing), (⟨(ByteArray.mk #[98, 97, 99, 107]), 100, r_3⟩ : T_Wing)]⟩ : T_School))))
def v_bl1_samba (r : T_School) : AV := (A_School r)
attribute [local simp] v_bl1_samba
theorem a_bl1_samba  : [].mapM (ren []) = some [] := by simp
theorem b_bl1_samba (r : T_School) (n n2 m : Nat) : back n n2 m (v_bl1_samba r) = some (v_bl1_samba r) := by simp
theorem d_bl1_samba (N : Nat)  (r : T_School) (h : p_bl1_samba N  = some r) : Does Try.prog 31 [] [] fun v c => v = v_bl1_samba r ∧ c = [] := by
 unfold p_bl1_samba at h
 refine Does.ofL comp31 _ _ rfl rfl ?_
 refine Ex.seq (rg 1 [0] (mkS 9 [(0, .ptr 0 0)]) ⟨[[i6 0, .nils]], []⟩ ?_)
 refine Ex.seq ?_
 obtain ⟨r_1, hr_1, h⟩ := bE h
 refine Ex.reg ?_
 refine ExO.callL [] [i6 40, i6 50] rfl rfl (a_bl1_span 40 50) rfl rfl (d_bl1_span N 40 50 r_1 hr_1) (b_bl1_span _ _ _ _) rfl ?_
 obtain ⟨r_2, hr_2, h⟩ := bE h
 refine rn 1 [0, 2] (mkS 9 [(0, .ptr 0 0), (2, .agg [.str (ByteArray.mk #[102, 114, 111, 110, 116]), i6 100, i6 r_1.Lo, i6 r_1.Hi])]) ⟨[[i6 0, .nils]], []⟩ ?_
 refine ExO.callL [] [i6 50, i6 60] rfl rfl (a_bl1_span 50 60) rfl rfl (d_bl1_span N 50 60 r_2 hr_2) (b_bl1_span _ _ _ _) rfl ?_
 obtain ⟨r_3, hr_3, h⟩ := bE h
 refine rn 1 [0, 2, 4] (mkS 9 [(0, .ptr 0 0), (2, .agg [.str (ByteArray.mk #[102, 114, 111, 110, 116]), i6 100, i6 r_1.Lo, i6 r_1.Hi]), (4, .agg [.str (ByteArray.mk #[100, 114, 117, 109, 115]), i6 200, i6 r_2.Lo, i6 r_2.Hi])]) ⟨[[i6 0, .nils]], []⟩ ?_
 refine ExO.callL [] [i6 30, i6 50] rfl rfl (a_bl1_span 30 50) rfl rfl (d_bl1_span N 30 50 r_3 hr_3) (b_bl1_span _ _ _ _) rfl ?_
 refine rn 4 [0] (mkS 9 [(0, .ptr 0 0)]) ⟨[[i6 1000, .sl (([(⟨(ByteArray.mk #[102, 114, 111, 110, 116]), 100, r_1⟩ : T_Wing), (⟨(ByteArray.mk #[100, 114, 117, 109, 115]), 200, r_2⟩ : T_Wing), (⟨(ByteArray.mk #[98, 97, 99, 107]), 100, r_3⟩ : T_Wing)] : List T_Wing).map A_Wing) (some 0)]], [(3, 4)]⟩ ?_
 refine ExO.nil ?_
 refine Ex.ret ?_
 obtain rfl := sJ h
 exact rt (.agg [i6 1000, .sl (([(⟨(ByteArray.mk #[102, 114, 111, 110, 116]), 100, r_1⟩ : T_Wing), (⟨(ByteArray.mk #[100, 114, 117, 109, 115]), 200, r_2⟩ : T_Wing), (⟨(ByteArray.mk #[98, 97, 99, 107]), 100, r_3⟩ : T_Wing)] : List T_Wing).map A_Wing) (some 0)])
def p_parade_isWing (N : Nat) (s_1 : T_School) (wing_2 : Int) : Option (Bool) := (bif (decide (wing_2 ≥ 0)) then some (decide (wing_2 < ((s_1.Wings.length : Nat) : Int))) else some false)
def v_parade_isWing (r : Bool) : AV := .bool r
attribute [local simp] v_parade_isWing
theorem a_parade_isWing (s_1 : T_School) (wing_2 : Int) : [(A_School s_1), i6 wing_2].mapM (ren []) = some [(A_School s_1), i6 wing_2] := by simp
theorem b_parade_isWing (r : Bool) (n n2 m : Nat) : back n n2 m (v_parade_isWing r) = some (v_parade_isWing r) := by simp
theorem d_parade_isWing (N : Nat) (s_1 : T_School) (wing_2 : Int) (r : Bool) (h : p_parade_isWing N s_1 wing_2 = some r) : Does Try.prog 75 [(A_School s_1), i6 wing_2] [] fun v c => v = v_parade_isWing r ∧ c = [] := by
 unfold p_parade_isWing at h
 refine Does.ofL comp75 _ _ rfl rfl ?_
 refine Ex.seq (rg 2 [1, 2] (mkS 14 [(1, i6 wing_2), (2, .ptr 0 0)]) ⟨[(C_School s_1)], []⟩ ?_)
 refine Ex.seq ?_
 rcases condI h with ⟨hc_3, h⟩ | ⟨hc_3, h⟩
 ·refine regH 10 [(2, .eq (.bool true)), (6, .eq (i6 ((s_1.Wings.length : Nat) : Int)))] [4] [AV.bool (decide (wing_2 ≥ 0)) = AV.bool true, AV.int .i64 (((s_1.Wings.map A_Wing).length : Nat) : Int) = AV.int .i64 ((s_1.Wings.length : Nat) : Int)] (mkS 14 [(4, .bool (decide (wing_2 < ((s_1.Wings.length : Nat) : Int))))]) (⟨[(C_School s_1)], []⟩) (by kernel_rfl) ⟨congrArg AV.bool hc_3, lenM _ _, trivial⟩ rfl ?_
  refine Ex.ret ?_
  obtain rfl := sJ h
  exact rt (.bool (decide (wing_2 < ((s_1.Wings.length : Nat) : Int))))
 ·refine regH 10 [(2, .eq (.bool false))] [4] [AV.bool (decide (wing_2 ≥ 0)) = AV.bool false] (mkS 14 [(4, .bool false)]) (⟨[(C_School s_1)], []⟩) (by kernel_rfl) ⟨congrArg AV.bool hc_3, trivial⟩ rfl ?_
  refine Ex.ret ?_
  obtain rfl := sJ h
  exact rt (.bool false)
def p_parade_checkMoment (N : Nat) (s_1 : T_School) (starts_2 : (List Int)) (wing_3 : Int) (second_4 : Int) : Option (Int) := ((p_parade_CheckStarts N s_1 starts_2).bind fun r_5 => (bif (r_5 != 0) then some r_5 else ((p_parade_isWing N s_1 wing_3).bind fun r_7 => (bif (!r_7) then some 7 else ((getI starts_2 wing_3).bind fun x_9 => (bif (decide (second_4 < x_9)) then some 12 else (bif (decide (second_4 > 100000)) then some 2 else some 0)))))))
def v_parade_checkMoment (r : Int) : AV := i6 r
attribute [local simp] v_parade_checkMoment
theorem a_parade_checkMoment (s_1 : T_School) (starts_2 : (List Int)) (wing_3 : Int) (second_4 : Int) : [(A_School s_1), .sl (starts_2.map (AV.int .i64)) none, i6 wing_3, i6 second_4].mapM (ren []) = some [(A_School s_1), .sl (starts_2.map (AV.int .i64)) none, i6 wing_3, i6 second_4] := by simp
theorem b_parade_checkMoment (r : Int) (n n2 m : Nat) : back n n2 m (v_parade_checkMoment r) = some (v_parade_checkMoment r) := by simp
theorem d_parade_checkMoment (N : Nat) (s_1 : T_School) (starts_2 : (List Int)) (wing_3 : Int) (second_4 : Int) (r : Int) (h : p_parade_checkMoment N s_1 starts_2 wing_3 second_4 = some r) : Does Try.prog 57 [(A_School s_1), .sl (starts_2.map (AV.int .i64)) none, i6 wing_3, i6 second_4] [] fun v c => v = v_parade_checkMoment r ∧ c = [] := by
 unfold p_parade_checkMoment at h
 refine Does.ofL comp57 _ _ rfl rfl ?_
 refine Ex.seq (rg 2 [1, 2, 3, 4] (mkS 31 [(1, .sl (starts_2.map (AV.int .i64)) none), (2, i6 wing_3), (3, i6 second_4), (4, .ptr 0 0)]) ⟨[(C_School s_1)], []⟩ ?_)
 refine Ex.seq (Ex.seq ?_)
 obtain ⟨r_5, hr_5, h⟩ := bE h
 refine Ex.reg (rn 2 [1, 2, 3, 4, 10, 11] (mkS 31 [(1, .sl (starts_2.map (AV.int .i64)) none), (2, i6 wing_3), (3, i6 second_4), (4, .ptr 0 0), (10, (A_School s_1)), (11, .sl (starts_2.map (AV.int .i64)) none)]) ⟨[(C_School s_1)], []⟩ ?_)
 refine ExO.callL [] [(A_School s_1), .sl (starts_2.map (AV.int .i64)) none] rfl rfl (a_parade_CheckStarts s_1 starts_2) rfl rfl (d_parade_CheckStarts N s_1 starts_2 r_5 hr_5) (b_parade_CheckStarts _ _ _ _) rfl ?_
 refine rn 1 [1, 2, 3, 4, 9] (mkS 31 [(1, .sl (starts_2.map (AV.int .i64)) none), (2, i6 wing_3), (3, i6 second_4), (4, .ptr 0 0), (9, i6 r_5)]) ⟨[(C_School s_1)], []⟩ ?_
 refine ExO.nil ?_
 refine Ex.seq (rg 2 [1, 2, 3, 4, 9, 14] (mkS 31 [(1, .sl (starts_2.map (AV.int .i64)) none), (2, i6 wing_3), (3, i6 second_4), (4, .ptr 0 0), (9, i6 r_5), (14, .bool (r_5 != 0))]) ⟨[(C_School s_1)], []⟩ ?_)
 rcases condI h with ⟨hc_6, h⟩ | ⟨hc_6, h⟩
 ·refine Ex.condT _ rfl hc_6 ?_
  refine Ex.seq (rg 2 [8] (mkS 31 [(8, i6 r_5)]) ⟨[(C_School s_1)], []⟩ ?_)
  refine Ex.ret ?_
  obtain rfl := sJ h
  exact rt (i6 r_5)
 ·refine Ex.condF _ rfl hc_6 ?_
  refine Ex.skip ?_
  refine Ex.seq ?_
  refine Ex.blockK ?_
  refine Ex.seq ?_
  obtain ⟨r_7, hr_7, h⟩ := bE h
  refine Ex.reg (rn 2 [1, 2, 3, 17, 18] (mkS 31 [(1, .sl (starts_2.map (AV.int .i64)) none), (2, i6 wing_3), (3, i6 second_4), (17, (A_School s_1)), (18, i6 wing_3)]) ⟨[(C_School s_1)], []⟩ ?_)
  refine ExO.callL [] [(A_School s_1), i6 wing_3] rfl rfl (a_parade_isWing s_1 wing_3) rfl rfl (d_parade_isWing N s_1 wing_3 r_7 hr_7) (b_parade_isWing _ _ _ _) rfl ?_
  refine rn 2 [1, 2, 3, 16] (mkS 31 [(1, .sl (starts_2.map (AV.int .i64)) none), (2, i6 wing_3), (3, i6 second_4), (16, .bool (!r_7))]) ⟨[(C_School s_1)], []⟩ ?_
  refine ExO.nil ?_
  rcases condI h with ⟨hc_8, h⟩ | ⟨hc_8, h⟩
  ·refine Ex.condT _ rfl hc_8 ?_
   refine Ex.seq (rg 1 [8] (mkS 31 [(8, i6 7)]) ⟨[(C_School s_1)], []⟩ ?_)
   refine Ex.ret ?_
   obtain rfl := sJ h
   exact rt (i6 7)
  ·refine Ex.condF _ rfl hc_8 ?_
   refine Ex.seq ?_
   obtain ⟨x_9, hx_9, h⟩ := bE h
   refine regH 7 [(3, .rop [i6 x_9])] [3, 21] [LGet (starts_2.map (AV.int .i64)) wing_3 1 [i6 x_9]] (mkS 31 [(3, i6 second_4), (21, .bool (decide (second_4 < x_9)))]) (⟨[(C_School s_1)], []⟩) (by kernel_rfl) ⟨LGet.of hx_9 rfl, trivial⟩ rfl ?_
   rcases condI h with ⟨hc_10, h⟩ | ⟨hc_10, h⟩
   ·refine Ex.condT _ rfl hc_10 ?_
    refine Ex.seq (rg 1 [8] (mkS 31 [(8, i6 12)]) ⟨[(C_School s_1)], []⟩ ?_)
    refine Ex.ret ?_
    obtain rfl := sJ h
    exact rt (i6 12)
   ·refine Ex.condF _ rfl hc_10 ?_
    refine Ex.seq (rg 3 [28] (mkS 31 [(28, .bool (decide (second_4 > 100000)))]) ⟨[(C_School s_1)], []⟩ ?_)
    rcases condI h with ⟨hc_11, h⟩ | ⟨hc_11, h⟩
    ·refine Ex.condT _ rfl hc_11 ?_
     refine Ex.seq (rg 1 [8] (mkS 31 [(8, i6 2)]) ⟨[(C_School s_1)], []⟩ ?_)
     refine Ex.ret ?_
     obtain rfl := sJ h
     exact rt (i6 2)
    ·refine Ex.condF _ rfl hc_11 ?_
     refine Ex.skip ?_
     refine Ex.seq (rg 1 [8] (mkS 31 [(8, i6 0)]) ⟨[(C_School s_1)], []⟩ ?_)
     refine Ex.ret ?_
     obtain rfl := sJ h
     exact rt (i6 0)
def p_parade_between_parade_truth_front_parade_truth_front (N : Nat) (a_1 : T_parade_truth) (a_2 : T_parade_truth) (wing_3 : Int) (at_4 : Int) : Option (T_Span) := ((p_parade_truth_front N a_1 wing_3 at_4).bind fun r_5 => ((p_parade_truth_front N a_2 wing_3 at_4).bind fun r_6 => some (⟨r_5, r_6⟩ : T_Span)))
def v_parade_between_parade_truth_front_parade_truth_front (r : T_Span) : AV := (A_Span r)
attribute [local simp] v_parade_between_parade_truth_front_parade_truth_front
theorem b_parade_between_parade_truth_front_parade_truth_front (r : T_Span) (n n2 m : Nat) : back n n2 m (v_parade_between_parade_truth_front_parade_truth_front r) = some (v_parade_between_parade_truth_front_parade_truth_front r) := by simp
theorem d_parade_between_parade_truth_front_parade_truth_front (N : Nat) (a_1 : T_parade_truth) (a_2 : T_parade_truth) (wing_3 : Int) (at_4 : Int) (r : T_Span) (h : p_parade_between_parade_truth_front_parade_truth_front N a_1 a_2 wing_3 at_4 = some r) : Does Try.prog 59 [.fn 60 [(A_parade_truth a_1)] [], .fn 60 [(A_parade_truth a_2)] [], i6 wing_3, i6 at_4] [] fun v c => v = v_parade_between_parade_truth_front_parade_truth_front r ∧ c = [] := by
 unfold p_parade_between_parade_truth_front_parade_truth_front at h
 refine Does.ofL comp59 _ _ rfl rfl ?_
 refine Ex.seq (rg 1 [0, 1, 2, 3, 8] (mkS 18 [(0, .fn 60 [(A_parade_truth a_1)] []), (1, .fn 60 [(A_parade_truth a_2)] []), (2, i6 wing_3), (3, i6 at_4), (8, .ptr 0 0)]) ⟨[[i6 0, i6 0]], []⟩ ?_)
 refine Ex.seq ?_
 obtain ⟨r_5, hr_5, h⟩ := bE h
 refine Ex.reg (rn 3 [1, 2, 3, 8, 9, 10, 11] (mkS 18 [(1, .fn 60 [(A_parade_truth a_2)] []), (2, i6 wing_3), (3, i6 at_4), (8, .ptr 0 0), (9, .fn 60 [(A_parade_truth a_1)] []), (10, i6 wing_3), (11, i6 at_4)]) ⟨[[i6 0, i6 0]], []⟩ ?_)
 refine ExO.callL [] [(A_parade_truth a_1), i6 wing_3, i6 at_4] rfl rfl (a_parade_truth_front a_1 wing_3 at_4) rfl rfl (d_parade_truth_front N a_1 wing_3 at_4 r_5 hr_5) (b_parade_truth_front _ _ _ _) rfl ?_
 obtain ⟨r_6, hr_6, h⟩ := bE h
 refine rn 3 [8, 12, 13, 14, 15] (mkS 18 [(8, .ptr 0 0), (12, i6 r_5), (13, .fn 60 [(A_parade_truth a_2)] []), (14, i6 wing_3), (15, i6 at_4)]) ⟨[[i6 0, i6 0]], []⟩ ?_
 refine ExO.callL [] [(A_parade_truth a_2), i6 wing_3, i6 at_4] rfl rfl (a_parade_truth_front a_2 wing_3 at_4) rfl rfl (d_parade_truth_front N a_2 wing_3 at_4 r_6 hr_6) (b_parade_truth_front _ _ _ _) rfl ?_
 refine rn 2 [8] (mkS 18 [(8, .ptr 0 0)]) ⟨[[i6 r_5, i6 r_6]], []⟩ ?_
 refine ExO.nil ?_
 refine Ex.ret ?_
 obtain rfl := sJ h
 exact rt (.agg [i6 r_5, i6 r_6])
theorem IJ_Wing (x y : T_Wing) (h : A_Wing x = A_Wing y) : x = y := by
 have h := AV.agg.inj h
 simp only [C_Wing, List.cons.injEq, AV.int.injEq, AV.bool.injEq, AV.str.injEq, AV.sl.injEq, true_and, and_true] at h
 obtain ⟨h0, h1, h2, h3⟩ := h
 obtain ⟨x0, x1, ⟨x2, x3⟩⟩ := x; obtain ⟨y0, y1, ⟨y2, y3⟩⟩ := y; simp_all
theorem IJ_School (x y : T_School) (h : A_School x = A_School y) : x = y := by
 have h := AV.agg.inj h
 simp only [C_School, List.cons.injEq, AV.int.injEq, AV.bool.injEq, AV.str.injEq, AV.sl.injEq, true_and, and_true] at h
 obtain ⟨h0, h1⟩ := h
 have h1 := mapInj IJ_Wing h1
 obtain ⟨x0, x1⟩ := x; obtain ⟨y0, y1⟩ := y; simp_all
theorem k_parade_allAt (N : Nat) (s_1 : T_School) (starts_2 : (List Int)) (end_3 : Int) (s_1z : T_School) (starts_2z : (List Int)) (end_3z : Int) (r s : T_parade_truth) (hr : p_parade_allAt N s_1 starts_2 end_3 = some r) (hs : p_parade_allAt N s_1z starts_2z end_3z = some s) : ConsR ⟨58, [(A_School s_1), .sl (starts_2.map (AV.int .i64)) none, i6 end_3], [], v_parade_allAt r, []⟩ ⟨58, [(A_School s_1z), .sl (starts_2z.map (AV.int .i64)) none, i6 end_3z], [], v_parade_allAt s, []⟩ := by
 intro _ h1 h2
 have h1 : ([(A_School s_1), .sl (starts_2.map (AV.int .i64)) none, i6 end_3] : List AV) = [(A_School s_1z), .sl (starts_2z.map (AV.int .i64)) none, i6 end_3z] := h1
 have h2 : ([] : List (List AV)) = [] := h2
 obtain rfl : s_1 = s_1z := IJ_School _ _ (List.cons.inj h1).1
 obtain rfl : starts_2 = starts_2z := (slInj (intInj _)) _ _ (List.cons.inj (List.cons.inj h1).2).1
 obtain rfl : end_3 = end_3z := (intInj _) _ _ (List.cons.inj (List.cons.inj (List.cons.inj h1).2).2).1
 rw [hr] at hs; cases hs; exact ⟨rfl, rfl⟩
def p_parade_Where (N : Nat) (s_1 : T_School) (starts_2 : (List Int)) (wing_3 : Int) (second_4 : Int) : Option (T_Span × Int) := ((p_parade_checkMoment N s_1 starts_2 wing_3 second_4).bind fun r_5 => (bif (r_5 != 0) then some ((⟨0, 0⟩ : T_Span), r_5) else ((p_parade_allAt N s_1 starts_2 0).bind fun r_7 => ((p_parade_allAt N s_1 starts_2 1).bind fun r_8 => ((p_parade_between_parade_truth_front_parade_truth_front N r_7 r_8 wing_3 second_4).bind fun r_10 => some (r_10, 0))))))
def v_parade_Where (r : T_Span × Int) : AV := .tup [(A_Span r.1), i6 r.2]
attribute [local simp] v_parade_Where
theorem a_parade_Where (s_1 : T_School) (starts_2 : (List Int)) (wing_3 : Int) (second_4 : Int) : [(A_School s_1), .sl (starts_2.map (AV.int .i64)) none, i6 wing_3, i6 second_4].mapM (ren []) = some [(A_School s_1), .sl (starts_2.map (AV.int .i64)) none, i6 wing_3, i6 second_4] := by simp
theorem b_parade_Where (r : T_Span × Int) (n n2 m : Nat) : back n n2 m (v_parade_Where r) = some (v_parade_Where r) := by simp
theorem d_parade_Where (N : Nat) (s_1 : T_School) (starts_2 : (List Int)) (wing_3 : Int) (second_4 : Int) (r : T_Span × Int) (h : p_parade_Where N s_1 starts_2 wing_3 second_4 = some r) : Does Try.prog 32 [(A_School s_1), .sl (starts_2.map (AV.int .i64)) none, i6 wing_3, i6 second_4] [] fun v c => v = v_parade_Where r ∧ c = [] := by
 unfold p_parade_Where at h
 refine Does.ofL comp32 _ _ rfl rfl ?_
 refine Ex.seq (rg 3 [1, 2, 3, 4, 8] (mkS 35 [(1, .sl (starts_2.map (AV.int .i64)) none), (2, i6 wing_3), (3, i6 second_4), (4, .ptr 0 0), (8, .ptr 1 0)]) ⟨[(C_School s_1), [i6 0, i6 0]], []⟩ ?_)
 refine Ex.seq (Ex.seq ?_)
 obtain ⟨r_5, hr_5, h⟩ := bE h
 refine Ex.reg (rn 4 [1, 2, 3, 4, 8, 13, 14, 15, 16] (mkS 35 [(1, .sl (starts_2.map (AV.int .i64)) none), (2, i6 wing_3), (3, i6 second_4), (4, .ptr 0 0), (8, .ptr 1 0), (13, (A_School s_1)), (14, .sl (starts_2.map (AV.int .i64)) none), (15, i6 wing_3), (16, i6 second_4)]) ⟨[(C_School s_1), [i6 0, i6 0]], []⟩ ?_)
 refine ExO.callL [] [(A_School s_1), .sl (starts_2.map (AV.int .i64)) none, i6 wing_3, i6 second_4] rfl rfl (a_parade_checkMoment s_1 starts_2 wing_3 second_4) rfl rfl (d_parade_checkMoment N s_1 starts_2 wing_3 second_4 r_5 hr_5) (b_parade_checkMoment _ _ _ _) rfl ?_
 refine rn 1 [1, 2, 3, 4, 8, 10] (mkS 35 [(1, .sl (starts_2.map (AV.int .i64)) none), (2, i6 wing_3), (3, i6 second_4), (4, .ptr 0 0), (8, .ptr 1 0), (10, i6 r_5)]) ⟨[(C_School s_1), [i6 0, i6 0]], []⟩ ?_
 refine ExO.nil ?_
 refine Ex.seq (rg 2 [1, 2, 3, 4, 8, 10, 19] (mkS 35 [(1, .sl (starts_2.map (AV.int .i64)) none), (2, i6 wing_3), (3, i6 second_4), (4, .ptr 0 0), (8, .ptr 1 0), (10, i6 r_5), (19, .bool (r_5 != 0))]) ⟨[(C_School s_1), [i6 0, i6 0]], []⟩ ?_)
 rcases condI h with ⟨hc_6, h⟩ | ⟨hc_6, h⟩
 ·refine Ex.condT _ rfl hc_6 ?_
  refine Ex.seq (rg 4 [8, 9] (mkS 35 [(8, .ptr 1 0), (9, i6 r_5)]) ⟨[(C_School s_1), [i6 0, i6 0]], []⟩ ?_)
  refine Ex.ret ?_
  obtain rfl := sJ h
  exact rt (.tup [.agg [i6 0, i6 0], i6 r_5])
 ·refine Ex.condF _ rfl hc_6 ?_
  refine Ex.skip ?_
  refine Ex.seq ?_
  obtain ⟨r_7, hr_7, h⟩ := bE h
  obtain ⟨r_8, hr_8, h⟩ := bE h
  have hT_9 : DoesA Try.prog [⟨58, [(A_School s_1), .sl (starts_2.map (AV.int .i64)) none, i6 0], [], (v_parade_allAt r_7), []⟩, ⟨58, [(A_School s_1), .sl (starts_2.map (AV.int .i64)) none, i6 1], [], (v_parade_allAt r_8), []⟩] ∧ ConsA [⟨58, [(A_School s_1), .sl (starts_2.map (AV.int .i64)) none, i6 0], [], (v_parade_allAt r_7), []⟩, ⟨58, [(A_School s_1), .sl (starts_2.map (AV.int .i64)) none, i6 1], [], (v_parade_allAt r_8), []⟩] := ⟨⟨(d_parade_allAt N s_1 starts_2 0 r_7 hr_7), rfl, (d_parade_allAt N s_1 starts_2 1 r_8 hr_8), rfl, trivial⟩, ⟨⟨k_parade_allAt N s_1 starts_2 0 s_1 starts_2 1 r_7 r_8 hr_7 hr_8, trivial⟩, trivial, trivial⟩⟩
  refine Ex.drawE (a1 := mkS 35 [(1, .sl (starts_2.map (AV.int .i64)) none), (2, i6 wing_3), (3, i6 second_4), (4, .ptr 0 0), (8, .ptr 1 0), (10, i6 r_5), (11, .ptr 2 0), (12, .ptr 3 0), (19, .bool (r_5 != 0)), (22, (A_School s_1)), (23, .sl (starts_2.map (AV.int .i64)) none), (24, (A_parade_truth r_7)), (25, (A_School s_1)), (26, .sl (starts_2.map (AV.int .i64)) none), (27, (A_parade_truth r_8))]) (tabO_ok hT_9.1) [[.nils, .nils, i6 0, i6 0, i6 0, i6 0, i6 0, i6 0, i6 0, i6 0], [.nils, .nils, i6 0, i6 0, i6 0, i6 0, i6 0, i6 0, i6 0, i6 0]] [] [] ?_ ?_
  ·refine drS [0, 1, 2, 3] 2 [] [] (mkS 35 [(1, .sl (starts_2.map (AV.int .i64)) none), (2, i6 wing_3), (3, i6 second_4), (4, .ptr 0 0), (8, .ptr 1 0), (10, i6 r_5), (19, .bool (r_5 != 0)), (22, (A_School s_1)), (23, .sl (starts_2.map (AV.int .i64)) none)]) (by simp) (by kernel_rfl) trivial (by kernel_rfl) ?_
   refine drC hT_9.2 0 _ [(A_School s_1), .sl (starts_2.map (AV.int .i64)) none, i6 0] (v_parade_allAt r_7) rfl rfl rfl rfl rfl (fun _ => rfl) rfl (by simp; try rfl) (fun _ => b_parade_allAt _ _ _ _) ?_
   refine drS [0, 1, 2, 3] 2 [] [] (mkS 35 [(1, .sl (starts_2.map (AV.int .i64)) none), (2, i6 wing_3), (3, i6 second_4), (4, .ptr 0 0), (8, .ptr 1 0), (10, i6 r_5), (19, .bool (r_5 != 0)), (22, (A_School s_1)), (23, .sl (starts_2.map (AV.int .i64)) none), (24, (A_parade_truth r_7)), (25, (A_School s_1)), (26, .sl (starts_2.map (AV.int .i64)) none)]) (by simp) (by kernel_rfl) trivial (by kernel_rfl) ?_
   refine drC hT_9.2 1 _ [(A_School s_1), .sl (starts_2.map (AV.int .i64)) none, i6 1] (v_parade_allAt r_8) rfl rfl rfl rfl rfl (fun _ => rfl) rfl (by simp; try rfl) (fun _ => b_parade_allAt _ _ _ _) ?_
   refine drX 2 [.nils, .nils, i6 0, i6 0, i6 0, i6 0, i6 0, i6 0, i6 0, i6 0] rfl rfl (fun _ => by kernel_rfl) (by simp) rfl rfl ?_
   refine drX 3 [.nils, .nils, i6 0, i6 0, i6 0, i6 0, i6 0, i6 0, i6 0, i6 0] rfl rfl (fun _ => by kernel_rfl) (by simp) rfl rfl ?_
   exact DrO.nil rfl
  ·dsimp only [List.getLastD_cons, List.getLastD_nil]
   refine rn 2 [2, 3, 8, 11, 12] (mkS 35 [(2, i6 wing_3), (3, i6 second_4), (8, .ptr 1 0), (11, .ptr 2 0), (12, .ptr 3 0)]) ⟨[(C_School s_1), [i6 0, i6 0], (C_parade_truth r_7), (C_parade_truth r_8)], []⟩ ?_
   refine ExO.nil ?_
   refine Ex.seq ?_
   obtain ⟨r_10, hr_10, h⟩ := bE h
   refine Ex.reg (rn 6 [8, 29, 31, 32, 33] (mkS 35 [(8, .ptr 1 0), (29, .fn 60 [(A_parade_truth r_7)] []), (31, .fn 60 [(A_parade_truth r_8)] []), (32, i6 wing_3), (33, i6 second_4)]) ⟨[(C_School s_1), [i6 0, i6 0], (C_parade_truth r_7), (C_parade_truth r_8)], []⟩ ?_)
   refine ExO.callL [] [.fn 60 [(A_parade_truth r_7)] [], .fn 60 [(A_parade_truth r_8)] [], i6 wing_3, i6 second_4] rfl rfl (by simp; try rfl) rfl rfl (d_parade_between_parade_truth_front_parade_truth_front N r_7 r_8 wing_3 second_4 r_10 hr_10) (b_parade_between_parade_truth_front_parade_truth_front _ _ _ _) rfl ?_
   refine rn 2 [8, 9] (mkS 35 [(8, .ptr 1 0), (9, i6 0)]) ⟨[(C_School s_1), (C_Span r_10), (C_parade_truth r_7), (C_parade_truth r_8)], []⟩ ?_
   refine ExO.nil ?_
   refine Ex.ret ?_
   obtain rfl := sJ h
   exact rt (.tup [(A_Span r_10), i6 0])
def p_bl1_rules (N : Nat)  : Option (T_Rules) := some (⟨30, 60, 150⟩ : T_Rules)
def v_bl1_rules (r : T_Rules) : AV := (A_Rules r)
attribute [local simp] v_bl1_rules
theorem a_bl1_rules  : [].mapM (ren []) = some [] := by simp
theorem b_bl1_rules (r : T_Rules) (n n2 m : Nat) : back n n2 m (v_bl1_rules r) = some (v_bl1_rules r) := by simp
theorem d_bl1_rules (N : Nat)  (r : T_Rules) (h : p_bl1_rules N  = some r) : Does Try.prog 33 [] [] fun v c => v = v_bl1_rules r ∧ c = [] := by
 unfold p_bl1_rules at h
 refine Does.ofL comp33 _ _ rfl rfl ?_
 refine Ex.seq (rg 1 [0] (mkS 2 [(0, .ptr 0 0)]) ⟨[[i6 0, i6 0, i6 0]], []⟩ ?_)
 refine Ex.seq (rg 2 [0] (mkS 2 [(0, .ptr 0 0)]) ⟨[[i6 30, i6 60, i6 150]], []⟩ ?_)
 refine Ex.ret ?_
 obtain rfl := sJ h
 exact rt (.agg [i6 30, i6 60, i6 150])
def p_parade_between_parade_truth_leaves_parade_truth_leaves (N : Nat) (a_1 : T_parade_truth) (a_2 : T_parade_truth) (wing_3 : Int) (at_4 : Int) : Option (T_Span) := ((p_parade_truth_leaves N a_1 wing_3 at_4).bind fun r_5 => ((p_parade_truth_leaves N a_2 wing_3 at_4).bind fun r_6 => some (⟨r_5, r_6⟩ : T_Span)))
def v_parade_between_parade_truth_leaves_parade_truth_leaves (r : T_Span) : AV := (A_Span r)
attribute [local simp] v_parade_between_parade_truth_leaves_parade_truth_leaves
theorem b_parade_between_parade_truth_leaves_parade_truth_leaves (r : T_Span) (n n2 m : Nat) : back n n2 m (v_parade_between_parade_truth_leaves_parade_truth_leaves r) = some (v_parade_between_parade_truth_leaves_parade_truth_leaves r) := by simp
theorem d_parade_between_parade_truth_leaves_parade_truth_leaves (N : Nat) (a_1 : T_parade_truth) (a_2 : T_parade_truth) (wing_3 : Int) (at_4 : Int) (r : T_Span) (h : p_parade_between_parade_truth_leaves_parade_truth_leaves N a_1 a_2 wing_3 at_4 = some r) : Does Try.prog 59 [.fn 74 [(A_parade_truth a_1)] [], .fn 74 [(A_parade_truth a_2)] [], i6 wing_3, i6 at_4] [] fun v c => v = v_parade_between_parade_truth_leaves_parade_truth_leaves r ∧ c = [] := by
 unfold p_parade_between_parade_truth_leaves_parade_truth_leaves at h
 refine Does.ofL comp59 _ _ rfl rfl ?_
 refine Ex.seq (rg 1 [0, 1, 2, 3, 8] (mkS 18 [(0, .fn 74 [(A_parade_truth a_1)] []), (1, .fn 74 [(A_parade_truth a_2)] []), (2, i6 wing_3), (3, i6 at_4), (8, .ptr 0 0)]) ⟨[[i6 0, i6 0]], []⟩ ?_)
 refine Ex.seq ?_
 obtain ⟨r_5, hr_5, h⟩ := bE h
 refine Ex.reg (rn 3 [1, 2, 3, 8, 9, 10, 11] (mkS 18 [(1, .fn 74 [(A_parade_truth a_2)] []), (2, i6 wing_3), (3, i6 at_4), (8, .ptr 0 0), (9, .fn 74 [(A_parade_truth a_1)] []), (10, i6 wing_3), (11, i6 at_4)]) ⟨[[i6 0, i6 0]], []⟩ ?_)
 refine ExO.callL [] [(A_parade_truth a_1), i6 wing_3, i6 at_4] rfl rfl (a_parade_truth_leaves a_1 wing_3 at_4) rfl rfl (d_parade_truth_leaves N a_1 wing_3 at_4 r_5 hr_5) (b_parade_truth_leaves _ _ _ _) rfl ?_
 obtain ⟨r_6, hr_6, h⟩ := bE h
 refine rn 3 [8, 12, 13, 14, 15] (mkS 18 [(8, .ptr 0 0), (12, i6 r_5), (13, .fn 74 [(A_parade_truth a_2)] []), (14, i6 wing_3), (15, i6 at_4)]) ⟨[[i6 0, i6 0]], []⟩ ?_
 refine ExO.callL [] [(A_parade_truth a_2), i6 wing_3, i6 at_4] rfl rfl (a_parade_truth_leaves a_2 wing_3 at_4) rfl rfl (d_parade_truth_leaves N a_2 wing_3 at_4 r_6 hr_6) (b_parade_truth_leaves _ _ _ _) rfl ?_
 refine rn 2 [8] (mkS 18 [(8, .ptr 0 0)]) ⟨[[i6 r_5, i6 r_6]], []⟩ ?_
 refine ExO.nil ?_
 refine Ex.ret ?_
 obtain rfl := sJ h
 exact rt (.agg [i6 r_5, i6 r_6])
def p_parade_lasting (N : Nat) (s_1 : T_School) (starts_2 : (List Int)) : Option (T_Span) := ((p_parade_allAt N s_1 starts_2 0).bind fun r_3 => ((p_parade_allAt N s_1 starts_2 1).bind fun r_4 => ((p_parade_between_parade_truth_leaves_parade_truth_leaves N r_4 r_3 (IntKind.i64.wrap (((s_1.Wings.length : Nat) : Int) - 1)) s_1.Route).bind fun r_6 => ((getI starts_2 0).bind fun x_7 => ((getI starts_2 0).bind fun x_8 => some (⟨(IntKind.i64.wrap (r_6.Lo - x_7)), (IntKind.i64.wrap (r_6.Hi - x_8))⟩ : T_Span))))))
def v_parade_lasting (r : T_Span) : AV := (A_Span r)
attribute [local simp] v_parade_lasting
theorem a_parade_lasting (s_1 : T_School) (starts_2 : (List Int)) : [(A_School s_1), .sl (starts_2.map (AV.int .i64)) none].mapM (ren []) = some [(A_School s_1), .sl (starts_2.map (AV.int .i64)) none] := by simp
theorem b_parade_lasting (r : T_Span) (n n2 m : Nat) : back n n2 m (v_parade_lasting r) = some (v_parade_lasting r) := by simp
theorem d_parade_lasting (N : Nat) (s_1 : T_School) (starts_2 : (List Int)) (r : T_Span) (h : p_parade_lasting N s_1 starts_2 = some r) : Does Try.prog 54 [(A_School s_1), .sl (starts_2.map (AV.int .i64)) none] [] fun v c => v = v_parade_lasting r ∧ c = [] := by
 unfold p_parade_lasting at h
 refine Does.ofL comp54 _ _ rfl rfl ?_
 refine Ex.seq (rg 2 [1, 2, 4] (mkS 38 [(1, .sl (starts_2.map (AV.int .i64)) none), (2, .ptr 0 0), (4, .ptr 1 0)]) ⟨[(C_School s_1), [i6 0, i6 0]], []⟩ ?_)
 refine Ex.seq ?_
 obtain ⟨r_3, hr_3, h⟩ := bE h
 obtain ⟨r_4, hr_4, h⟩ := bE h
 have hT_5 : DoesA Try.prog [⟨58, [(A_School s_1), .sl (starts_2.map (AV.int .i64)) none, i6 0], [], (v_parade_allAt r_3), []⟩, ⟨58, [(A_School s_1), .sl (starts_2.map (AV.int .i64)) none, i6 1], [], (v_parade_allAt r_4), []⟩] ∧ ConsA [⟨58, [(A_School s_1), .sl (starts_2.map (AV.int .i64)) none, i6 0], [], (v_parade_allAt r_3), []⟩, ⟨58, [(A_School s_1), .sl (starts_2.map (AV.int .i64)) none, i6 1], [], (v_parade_allAt r_4), []⟩] := ⟨⟨(d_parade_allAt N s_1 starts_2 0 r_3 hr_3), rfl, (d_parade_allAt N s_1 starts_2 1 r_4 hr_4), rfl, trivial⟩, ⟨⟨k_parade_allAt N s_1 starts_2 0 s_1 starts_2 1 r_3 r_4 hr_3 hr_4, trivial⟩, trivial, trivial⟩⟩
 refine Ex.drawE (a1 := mkS 38 [(1, .sl (starts_2.map (AV.int .i64)) none), (2, .ptr 0 0), (4, .ptr 1 0), (5, .ptr 2 0), (6, .ptr 3 0), (8, (A_School s_1)), (9, .sl (starts_2.map (AV.int .i64)) none), (10, (A_parade_truth r_3)), (11, (A_School s_1)), (12, .sl (starts_2.map (AV.int .i64)) none), (13, (A_parade_truth r_4))]) (tabO_ok hT_5.1) [[.nils, .nils, i6 0, i6 0, i6 0, i6 0, i6 0, i6 0, i6 0, i6 0], [.nils, .nils, i6 0, i6 0, i6 0, i6 0, i6 0, i6 0, i6 0, i6 0]] [] [] ?_ ?_
 ·refine drS [0, 1, 2, 3] 2 [] [] (mkS 38 [(1, .sl (starts_2.map (AV.int .i64)) none), (2, .ptr 0 0), (4, .ptr 1 0), (8, (A_School s_1)), (9, .sl (starts_2.map (AV.int .i64)) none)]) (by simp) (by kernel_rfl) trivial (by kernel_rfl) ?_
  refine drC hT_5.2 0 _ [(A_School s_1), .sl (starts_2.map (AV.int .i64)) none, i6 0] (v_parade_allAt r_3) rfl rfl rfl rfl rfl (fun _ => rfl) rfl (by simp; try rfl) (fun _ => b_parade_allAt _ _ _ _) ?_
  refine drS [0, 1, 2, 3] 2 [] [] (mkS 38 [(1, .sl (starts_2.map (AV.int .i64)) none), (2, .ptr 0 0), (4, .ptr 1 0), (8, (A_School s_1)), (9, .sl (starts_2.map (AV.int .i64)) none), (10, (A_parade_truth r_3)), (11, (A_School s_1)), (12, .sl (starts_2.map (AV.int .i64)) none)]) (by simp) (by kernel_rfl) trivial (by kernel_rfl) ?_
  refine drC hT_5.2 1 _ [(A_School s_1), .sl (starts_2.map (AV.int .i64)) none, i6 1] (v_parade_allAt r_4) rfl rfl rfl rfl rfl (fun _ => rfl) rfl (by simp; try rfl) (fun _ => b_parade_allAt _ _ _ _) ?_
  refine drX 2 [.nils, .nils, i6 0, i6 0, i6 0, i6 0, i6 0, i6 0, i6 0, i6 0] rfl rfl (fun _ => by kernel_rfl) (by simp) rfl rfl ?_
  refine drX 3 [.nils, .nils, i6 0, i6 0, i6 0, i6 0, i6 0, i6 0, i6 0, i6 0] rfl rfl (fun _ => by kernel_rfl) (by simp) rfl rfl ?_
  exact DrO.nil rfl
 ·dsimp only [List.getLastD_cons, List.getLastD_nil]
  refine rn 2 [1, 2, 4, 5, 6] (mkS 38 [(1, .sl (starts_2.map (AV.int .i64)) none), (2, .ptr 0 0), (4, .ptr 1 0), (5, .ptr 2 0), (6, .ptr 3 0)]) ⟨[(C_School s_1), [i6 0, i6 0], (C_parade_truth r_3), (C_parade_truth r_4)], []⟩ ?_
  refine ExO.nil ?_
  refine Ex.seq ?_
  obtain ⟨r_6, hr_6, h⟩ := bE h
  refine Ex.reg ?_
  refine runH 10 [(6, .eq (i6 ((s_1.Wings.length : Nat) : Int)))] [1, 4, 15, 17, 21, 23] [AV.int .i64 (((s_1.Wings.map A_Wing).length : Nat) : Int) = AV.int .i64 ((s_1.Wings.length : Nat) : Int)] (mkS 38 [(1, .sl (starts_2.map (AV.int .i64)) none), (4, .ptr 1 0), (15, .fn 74 [(A_parade_truth r_4)] []), (17, .fn 74 [(A_parade_truth r_3)] []), (21, i6 (IntKind.i64.wrap (((s_1.Wings.length : Nat) : Int) - 1))), (23, i6 s_1.Route)]) (⟨[(C_School s_1), [i6 0, i6 0], (C_parade_truth r_3), (C_parade_truth r_4)], []⟩) (by kernel_rfl) ⟨lenM _ _, trivial⟩ ?_
  refine ExO.callL [] [.fn 74 [(A_parade_truth r_4)] [], .fn 74 [(A_parade_truth r_3)] [], i6 (IntKind.i64.wrap (((s_1.Wings.length : Nat) : Int) - 1)), i6 s_1.Route] rfl rfl (by simp; try rfl) rfl rfl (d_parade_between_parade_truth_leaves_parade_truth_leaves N r_4 r_3 (IntKind.i64.wrap (((s_1.Wings.length : Nat) : Int) - 1)) s_1.Route r_6 hr_6) (b_parade_between_parade_truth_leaves_parade_truth_leaves _ _ _ _) rfl ?_
  refine rn 2 [1, 4, 7] (mkS 38 [(1, .sl (starts_2.map (AV.int .i64)) none), (4, .ptr 1 0), (7, .ptr 4 0)]) ⟨[(C_School s_1), [i6 0, i6 0], (C_parade_truth r_3), (C_parade_truth r_4), (C_Span r_6)], []⟩ ?_
  refine ExO.nil ?_
  refine Ex.seq ?_
  obtain ⟨x_7, hx_7, h⟩ := bE h
  obtain ⟨x_8, hx_8, h⟩ := bE h
  refine Ex.drawE (a1 := mkS 38 [(1, .sl (starts_2.map (AV.int .i64)) none), (4, .ptr 1 0), (7, .ptr 4 0), (25, .ptr 4 0), (26, i6 r_6.Lo), (27, .sl (starts_2.map (AV.int .i64)) none), (28, .rop [i6 x_7]), (29, i6 x_7), (30, i6 (IntKind.i64.wrap (r_6.Lo - x_7))), (31, .ptr 4 1), (32, i6 r_6.Hi), (33, .sl (starts_2.map (AV.int .i64)) none), (34, .rop [i6 x_8]), (35, i6 x_8), (36, i6 (IntKind.i64.wrap (r_6.Hi - x_8)))]) (noClr_ok _) [] [] [] ?_ ?_
  ·refine drS [0, 1, 2, 3, 4] 12 [(3, .rop [i6 x_7]), (9, .rop [i6 x_8])] [LGet (starts_2.map (AV.int .i64)) 0 1 [i6 x_7], LGet (starts_2.map (AV.int .i64)) 0 1 [i6 x_8]] (mkS 38 [(1, .sl (starts_2.map (AV.int .i64)) none), (4, .ptr 1 0), (7, .ptr 4 0), (25, .ptr 4 0), (26, i6 r_6.Lo), (27, .sl (starts_2.map (AV.int .i64)) none), (28, .rop [i6 x_7]), (29, i6 x_7), (30, i6 (IntKind.i64.wrap (r_6.Lo - x_7))), (31, .ptr 4 1), (32, i6 r_6.Hi), (33, .sl (starts_2.map (AV.int .i64)) none), (34, .rop [i6 x_8]), (35, i6 x_8), (36, i6 (IntKind.i64.wrap (r_6.Hi - x_8)))]) (by simp) (by kernel_rfl) ⟨LGet.of hx_7 rfl, LGet.of hx_8 rfl, trivial⟩ (by kernel_rfl) ?_
   exact DrO.nil rfl
  ·dsimp only [List.getLastD_cons, List.getLastD_nil]
   refine rn 2 [4] (mkS 38 [(4, .ptr 1 0)]) ⟨[(C_School s_1), [i6 (IntKind.i64.wrap (r_6.Lo - x_7)), i6 (IntKind.i64.wrap (r_6.Hi - x_8))], (C_parade_truth r_3), (C_parade_truth r_4), (C_Span r_6)], []⟩ ?_
   refine ExO.nil ?_
   refine Ex.ret ?_
   obtain rfl := sJ h
   exact rt (.agg [i6 (IntKind.i64.wrap (r_6.Lo - x_7)), i6 (IntKind.i64.wrap (r_6.Hi - x_8))])
def p_parade_keepsTime (N : Nat) (seconds_1 : T_Span) (r_2 : T_Rules) : Option (Int) := (letJ (fun (y_3 : Bool) => (bif y_3 then some 1 else (letJ (fun (y_9 : Bool) => (bif y_9 then some 2 else some 3)) (fun k_10 => (bif (decide (seconds_1.Lo > r_2.Most)) then (k_10 true) else (k_10 (decide (seconds_1.Hi < r_2.Least)))))))) (fun k_4 => (bif (decide (seconds_1.Lo ≥ r_2.Least)) then (k_4 (decide (seconds_1.Hi ≤ r_2.Most))) else (k_4 false))))
def v_parade_keepsTime (r : Int) : AV := i6 r
attribute [local simp] v_parade_keepsTime
theorem b_parade_keepsTime (r : Int) (n n2 m : Nat) : back n n2 m (v_parade_keepsTime r) = some (v_parade_keepsTime r) := by simp
theorem d_parade_keepsTime (N : Nat) (seconds_1 : T_Span) (r_2 : T_Rules) (r : Int) (h : p_parade_keepsTime N seconds_1 r_2 = some r) : Does Try.prog 55 [(A_Span seconds_1), (A_Rules r_2)] [] fun v c => v = v_parade_keepsTime r ∧ c = [] := by
 unfold p_parade_keepsTime at h
 refine Does.ofL comp55 _ _ rfl rfl ?_
 refine Ex.seq (rg 3 [2, 3] (mkS 31 [(2, .ptr 0 0), (3, .ptr 1 0)]) ⟨[(C_Span seconds_1), (C_Rules r_2)], []⟩ ?_)
 refine Ex.seq ?_
 refine Ex.blockK ?_
 obtain ⟨K_5, hK_6, h⟩ := letE h
 refine Ex.seqJ (fun a S => ∃ (y_3 : Bool), K_5 y_3 = some r ∧ a = mkS 31 [(2, .ptr 0 0), (3, .ptr 1 0), (5, .bool y_3)] ∧ S = ⟨[(C_Span seconds_1), (C_Rules r_2)], []⟩) ?_ ?_
 ·rcases condI h with ⟨hc_7, h⟩ | ⟨hc_7, h⟩
  ·refine regH 13 [(5, .eq (.bool true))] [2, 3, 5] [AV.bool (decide (seconds_1.Lo ≥ r_2.Least)) = AV.bool true] (mkS 31 [(2, .ptr 0 0), (3, .ptr 1 0), (5, .bool (decide (seconds_1.Hi ≤ r_2.Most)))]) (⟨[(C_Span seconds_1), (C_Rules r_2)], []⟩) (by kernel_rfl) ⟨congrArg AV.bool hc_7, trivial⟩ rfl ?_
   (try simp only [reduceCtorEq, AEx.ex.injEq, Nat.reduceEqDiff, if_true, if_false])
   exact ⟨_, _, Forgets.refl _ _ _, (decide (seconds_1.Hi ≤ r_2.Most)), h, rfl, rfl⟩
  ·refine regH 13 [(5, .eq (.bool false))] [2, 3, 5] [AV.bool (decide (seconds_1.Lo ≥ r_2.Least)) = AV.bool false] (mkS 31 [(2, .ptr 0 0), (3, .ptr 1 0), (5, .bool false)]) (⟨[(C_Span seconds_1), (C_Rules r_2)], []⟩) (by kernel_rfl) ⟨congrArg AV.bool hc_7, trivial⟩ rfl ?_
   (try simp only [reduceCtorEq, AEx.ex.injEq, Nat.reduceEqDiff, if_true, if_false])
   exact ⟨_, _, Forgets.refl _ _ _, false, h, rfl, rfl⟩
 ·rintro a S ⟨y_3, h, rfl, rfl⟩
  subst hK_6
  rcases condI h with ⟨hc_8, h⟩ | ⟨hc_8, h⟩
  ·refine Ex.condT _ rfl hc_8 ?_
   refine Ex.seq (rg 1 [4] (mkS 31 [(4, i6 1)]) ⟨[(C_Span seconds_1), (C_Rules r_2)], []⟩ ?_)
   refine Ex.ret ?_
   obtain rfl := sJ h
   exact rt (i6 1)
  ·refine Ex.condF _ rfl hc_8 ?_
   obtain ⟨K_11, hK_12, h⟩ := letE h
   refine Ex.seqJ (fun a S => ∃ (y_9 : Bool), K_11 y_9 = some r ∧ a = mkS 31 [(18, .bool y_9)] ∧ S = ⟨[], []⟩) ?_ ?_
   ·rcases condI h with ⟨hc_13, h⟩ | ⟨hc_13, h⟩
    ·refine regH 13 [(5, .eq (.bool true))] [18] [AV.bool (decide (seconds_1.Lo > r_2.Most)) = AV.bool true] (mkS 31 [(18, .bool true)]) (⟨[(C_Span seconds_1), (C_Rules r_2)], []⟩) (by kernel_rfl) ⟨congrArg AV.bool hc_13, trivial⟩ rfl ?_
     (try simp only [reduceCtorEq, AEx.ex.injEq, Nat.reduceEqDiff, if_true, if_false])
     exact ⟨_, _, forgetA (m := 31) 0 [] [(18, .bool true)] [] [] (by simp [setAll]) (by simp) ⟨rfl, trivial⟩ (by simp) rfl (by decide), true, h, rfl, rfl⟩
    ·refine regH 13 [(5, .eq (.bool false))] [18] [AV.bool (decide (seconds_1.Lo > r_2.Most)) = AV.bool false] (mkS 31 [(18, .bool (decide (seconds_1.Hi < r_2.Least)))]) (⟨[(C_Span seconds_1), (C_Rules r_2)], []⟩) (by kernel_rfl) ⟨congrArg AV.bool hc_13, trivial⟩ rfl ?_
     (try simp only [reduceCtorEq, AEx.ex.injEq, Nat.reduceEqDiff, if_true, if_false])
     exact ⟨_, _, forgetA (m := 31) 0 [] [(18, .bool (decide (seconds_1.Hi < r_2.Least)))] [] [] (by simp [setAll]) (by simp) ⟨rfl, trivial⟩ (by simp) rfl (by decide), (decide (seconds_1.Hi < r_2.Least)), h, rfl, rfl⟩
   ·rintro a S ⟨y_9, h, rfl, rfl⟩
    subst hK_12
    rcases condI h with ⟨hc_14, h⟩ | ⟨hc_14, h⟩
    ·refine Ex.condT _ rfl hc_14 ?_
     refine Ex.seq (rg 1 [4] (mkS 31 [(4, i6 2)]) ⟨[], []⟩ ?_)
     refine Ex.ret ?_
     obtain rfl := sJ h
     exact rt (i6 2)
    ·refine Ex.condF _ rfl hc_14 ?_
     refine Ex.skip ?_
     refine Ex.seq (rg 1 [4] (mkS 31 [(4, i6 3)]) ⟨[], []⟩ ?_)
     refine Ex.ret ?_
     obtain rfl := sJ h
     exact rt (i6 3)
def p_parade_Lasts (N : Nat) (s_1 : T_School) (starts_2 : (List Int)) (r_3 : T_Rules) : Option (Int × T_Span × Int) := ((p_parade_CheckStarts N s_1 starts_2).bind fun r_4 => (bif (r_4 != 0) then some (0, (⟨0, 0⟩ : T_Span), r_4) else ((p_parade_checkRules N r_3).bind fun r_6 => (bif (r_6 != 0) then some (0, (⟨0, 0⟩ : T_Span), r_6) else ((p_parade_lasting N s_1 starts_2).bind fun r_8 => ((p_parade_keepsTime N r_8 r_3).bind fun r_9 => some (r_9, r_8, 0)))))))
def v_parade_Lasts (r : Int × T_Span × Int) : AV := .tup [i6 r.1, (A_Span r.2.1), i6 r.2.2]
attribute [local simp] v_parade_Lasts
theorem a_parade_Lasts (s_1 : T_School) (starts_2 : (List Int)) (r_3 : T_Rules) : [(A_School s_1), .sl (starts_2.map (AV.int .i64)) none, (A_Rules r_3)].mapM (ren []) = some [(A_School s_1), .sl (starts_2.map (AV.int .i64)) none, (A_Rules r_3)] := by simp
theorem b_parade_Lasts (r : Int × T_Span × Int) (n n2 m : Nat) : back n n2 m (v_parade_Lasts r) = some (v_parade_Lasts r) := by simp
theorem d_parade_Lasts (N : Nat) (s_1 : T_School) (starts_2 : (List Int)) (r_3 : T_Rules) (r : Int × T_Span × Int) (h : p_parade_Lasts N s_1 starts_2 r_3 = some r) : Does Try.prog 29 [(A_School s_1), .sl (starts_2.map (AV.int .i64)) none, (A_Rules r_3)] [] fun v c => v = v_parade_Lasts r ∧ c = [] := by
 unfold p_parade_Lasts at h
 refine Does.ofL comp29 _ _ rfl rfl ?_
 refine Ex.seq (rg 5 [1, 3, 5, 7] (mkS 31 [(1, .sl (starts_2.map (AV.int .i64)) none), (3, .ptr 0 0), (5, .ptr 1 0), (7, .ptr 2 0)]) ⟨[(C_School s_1), (C_Rules r_3), [i6 0, i6 0]], []⟩ ?_)
 refine Ex.seq (Ex.seq ?_)
 obtain ⟨r_4, hr_4, h⟩ := bE h
 refine Ex.reg (rn 2 [1, 3, 5, 7, 11, 12] (mkS 31 [(1, .sl (starts_2.map (AV.int .i64)) none), (3, .ptr 0 0), (5, .ptr 1 0), (7, .ptr 2 0), (11, (A_School s_1)), (12, .sl (starts_2.map (AV.int .i64)) none)]) ⟨[(C_School s_1), (C_Rules r_3), [i6 0, i6 0]], []⟩ ?_)
 refine ExO.callL [] [(A_School s_1), .sl (starts_2.map (AV.int .i64)) none] rfl rfl (a_parade_CheckStarts s_1 starts_2) rfl rfl (d_parade_CheckStarts N s_1 starts_2 r_4 hr_4) (b_parade_CheckStarts _ _ _ _) rfl ?_
 refine rn 1 [1, 3, 5, 7, 9] (mkS 31 [(1, .sl (starts_2.map (AV.int .i64)) none), (3, .ptr 0 0), (5, .ptr 1 0), (7, .ptr 2 0), (9, i6 r_4)]) ⟨[(C_School s_1), (C_Rules r_3), [i6 0, i6 0]], []⟩ ?_
 refine ExO.nil ?_
 refine Ex.seq (rg 2 [1, 3, 5, 7, 9, 15] (mkS 31 [(1, .sl (starts_2.map (AV.int .i64)) none), (3, .ptr 0 0), (5, .ptr 1 0), (7, .ptr 2 0), (9, i6 r_4), (15, .bool (r_4 != 0))]) ⟨[(C_School s_1), (C_Rules r_3), [i6 0, i6 0]], []⟩ ?_)
 rcases condI h with ⟨hc_5, h⟩ | ⟨hc_5, h⟩
 ·refine Ex.condT _ rfl hc_5 ?_
  refine Ex.seq (rg 5 [6, 7, 8] (mkS 31 [(6, i6 0), (7, .ptr 2 0), (8, i6 r_4)]) ⟨[(C_School s_1), (C_Rules r_3), [i6 0, i6 0]], []⟩ ?_)
  refine Ex.ret ?_
  obtain rfl := sJ h
  exact rt (.tup [i6 0, .agg [i6 0, i6 0], i6 r_4])
 ·refine Ex.condF _ rfl hc_5 ?_
  refine Ex.skip ?_
  refine Ex.seq (Ex.seq ?_)
  obtain ⟨r_6, hr_6, h⟩ := bE h
  refine Ex.reg (rn 1 [1, 3, 5, 7, 18] (mkS 31 [(1, .sl (starts_2.map (AV.int .i64)) none), (3, .ptr 0 0), (5, .ptr 1 0), (7, .ptr 2 0), (18, (A_Rules r_3))]) ⟨[(C_School s_1), (C_Rules r_3), [i6 0, i6 0]], []⟩ ?_)
  refine ExO.callL [] [(A_Rules r_3)] rfl rfl (a_parade_checkRules r_3) rfl rfl (d_parade_checkRules N r_3 r_6 hr_6) (b_parade_checkRules _ _ _ _) rfl ?_
  refine rn 1 [1, 3, 5, 7, 10] (mkS 31 [(1, .sl (starts_2.map (AV.int .i64)) none), (3, .ptr 0 0), (5, .ptr 1 0), (7, .ptr 2 0), (10, i6 r_6)]) ⟨[(C_School s_1), (C_Rules r_3), [i6 0, i6 0]], []⟩ ?_
  refine ExO.nil ?_
  refine Ex.seq (rg 2 [1, 3, 5, 7, 10, 21] (mkS 31 [(1, .sl (starts_2.map (AV.int .i64)) none), (3, .ptr 0 0), (5, .ptr 1 0), (7, .ptr 2 0), (10, i6 r_6), (21, .bool (r_6 != 0))]) ⟨[(C_School s_1), (C_Rules r_3), [i6 0, i6 0]], []⟩ ?_)
  rcases condI h with ⟨hc_7, h⟩ | ⟨hc_7, h⟩
  ·refine Ex.condT _ rfl hc_7 ?_
   refine Ex.seq (rg 5 [6, 7, 8] (mkS 31 [(6, i6 0), (7, .ptr 2 0), (8, i6 r_6)]) ⟨[(C_School s_1), (C_Rules r_3), [i6 0, i6 0]], []⟩ ?_)
   refine Ex.ret ?_
   obtain rfl := sJ h
   exact rt (.tup [i6 0, .agg [i6 0, i6 0], i6 r_6])
  ·refine Ex.condF _ rfl hc_7 ?_
   refine Ex.skip ?_
   refine Ex.seq ?_
   obtain ⟨r_8, hr_8, h⟩ := bE h
   refine Ex.reg (rn 2 [5, 7, 24, 25] (mkS 31 [(5, .ptr 1 0), (7, .ptr 2 0), (24, (A_School s_1)), (25, .sl (starts_2.map (AV.int .i64)) none)]) ⟨[(C_School s_1), (C_Rules r_3), [i6 0, i6 0]], []⟩ ?_)
   refine ExO.callL [] [(A_School s_1), .sl (starts_2.map (AV.int .i64)) none] rfl rfl (a_parade_lasting s_1 starts_2) rfl rfl (d_parade_lasting N s_1 starts_2 r_8 hr_8) (b_parade_lasting _ _ _ _) rfl ?_
   refine rn 1 [5, 7] (mkS 31 [(5, .ptr 1 0), (7, .ptr 2 0)]) ⟨[(C_School s_1), (C_Rules r_3), (C_Span r_8)], []⟩ ?_
   refine ExO.nil ?_
   refine Ex.seq ?_
   obtain ⟨r_9, hr_9, h⟩ := bE h
   have hT_10 : DoesA Try.prog [⟨55, [(A_Span r_8), (A_Rules r_3)], [], (v_parade_keepsTime r_9), []⟩] ∧ ConsA [⟨55, [(A_Span r_8), (A_Rules r_3)], [], (v_parade_keepsTime r_9), []⟩] := ⟨⟨(d_parade_keepsTime N r_8 r_3 r_9 hr_9), rfl, trivial⟩, ⟨trivial, trivial⟩⟩
   refine Ex.drawE (a1 := mkS 31 [(5, .ptr 1 0), (6, i6 r_9), (7, .ptr 2 0), (27, (A_Span r_8)), (28, (A_Rules r_3)), (29, i6 r_9), (30, (A_Span r_8))]) (tabO_ok hT_10.1) [] [] [] ?_ ?_
   ·refine drS [0, 1, 2] 2 [] [] (mkS 31 [(5, .ptr 1 0), (7, .ptr 2 0), (27, (A_Span r_8)), (28, (A_Rules r_3))]) (by simp) (by kernel_rfl) trivial (by kernel_rfl) ?_
    refine drC hT_10.2 0 _ [(A_Span r_8), (A_Rules r_3)] (v_parade_keepsTime r_9) rfl rfl rfl rfl rfl (fun _ => rfl) rfl (by simp; try rfl) (fun _ => b_parade_keepsTime _ _ _ _) ?_
    refine drS [0, 1, 2] 2 [] [] (mkS 31 [(5, .ptr 1 0), (6, i6 r_9), (7, .ptr 2 0), (27, (A_Span r_8)), (28, (A_Rules r_3)), (29, i6 r_9), (30, (A_Span r_8))]) (by simp) (by kernel_rfl) trivial (by kernel_rfl) ?_
    exact DrO.nil rfl
   ·dsimp only [List.getLastD_cons, List.getLastD_nil]
    refine rn 2 [6, 7, 8] (mkS 31 [(6, i6 r_9), (7, .ptr 2 0), (8, i6 0)]) ⟨[(C_School s_1), (C_Rules r_3), (C_Span r_8)], []⟩ ?_
    refine ExO.nil ?_
    refine Ex.ret ?_
    obtain rfl := sJ h
    exact rt (.tup [i6 r_9, (A_Span r_8), i6 0])
theorem k_bl1_span (N : Nat) (low_1 : Int) (high_2 : Int) (low_1z : Int) (high_2z : Int) (r s : T_Span) (hr : p_bl1_span N low_1 high_2 = some r) (hs : p_bl1_span N low_1z high_2z = some s) : ConsR ⟨34, [i6 low_1, i6 high_2], [], v_bl1_span r, []⟩ ⟨34, [i6 low_1z, i6 high_2z], [], v_bl1_span s, []⟩ := by
 intro _ h1 h2
 have h1 : ([i6 low_1, i6 high_2] : List AV) = [i6 low_1z, i6 high_2z] := h1
 have h2 : ([] : List (List AV)) = [] := h2
 obtain rfl : low_1 = low_1z := (intInj _) _ _ (List.cons.inj h1).1
 obtain rfl : high_2 = high_2z := (intInj _) _ _ (List.cons.inj (List.cons.inj h1).2).1
 rw [hr] at hs; cases hs; exact ⟨rfl, rfl⟩
def p_bl1_awake (N : Nat)  : Option (Bool) := ((p_bl1_samba N).bind fun r_1 => ((p_parade_Least N r_1).bind fun r_2 => ((p_bl1_samba N).bind fun r_3 => ((p_parade_Where N r_3 [0, 3, 8] 1 10).bind fun r_4 => ((p_bl1_samba N).bind fun r_5 => ((p_bl1_rules N).bind fun r_6 => ((p_parade_Lasts N r_5 [0, 3, 8] r_6).bind fun r_7 => (bif (r_2.2 == 0) then (bif (r_4.2 == 0) then (bif (r_7.2.2 == 0) then ((p_bk_EqInts N r_2.1 [0, 3, 8]).bind fun r_11 => (bif r_11 then ((p_bl1_span N 300 400).bind fun r_13 => (bif ((r_4.1.Lo == r_13.Lo) && ((r_4.1.Hi == r_13.Hi) && true)) then (bif (r_7.1 == 1) then ((p_bl1_span N 30 45).bind fun r_16 => some ((r_7.2.1.Lo == r_16.Lo) && ((r_7.2.1.Hi == r_16.Hi) && true))) else some false) else some false)) else some false)) else some false) else some false) else some false))))))))
def v_bl1_awake (r : Bool) : AV := .bool r
attribute [local simp] v_bl1_awake
theorem a_bl1_awake  : [].mapM (ren []) = some [] := by simp
theorem b_bl1_awake (r : Bool) (n n2 m : Nat) : back n n2 m (v_bl1_awake r) = some (v_bl1_awake r) := by simp
theorem d_bl1_awake (N : Nat)  (r : Bool) (h : p_bl1_awake N  = some r) : Does Try.prog 7 [] [] fun v c => v = v_bl1_awake r ∧ c = [] := by
 unfold p_bl1_awake at h
 refine Does.ofL comp7 _ _ rfl rfl ?_
 refine Ex.seq (rg 1 [] (mkS 56 []) ⟨[], []⟩ ?_)
 refine Ex.seq ?_
 obtain ⟨r_1, hr_1, h⟩ := bE h
 refine Ex.reg ?_
 refine ExO.callL [] [] rfl rfl (a_bl1_samba) rfl rfl (d_bl1_samba N r_1 hr_1) (b_bl1_samba _ _ _ _) rfl ?_
 obtain ⟨r_2, hr_2, h⟩ := bE h
 refine ExO.callL [] [(A_School r_1)] rfl rfl (a_parade_Least r_1) rfl rfl (d_parade_Least N r_1 r_2 hr_2) (b_parade_Least _ _ _ _) rfl ?_
 refine rn 5 [1, 2] (mkS 56 [(1, .sl (r_2.1.map (AV.int .i64)) none), (2, i6 r_2.2)]) ⟨[], []⟩ ?_
 refine ExO.nil ?_
 refine Ex.seq ?_
 obtain ⟨r_3, hr_3, h⟩ := bE h
 refine Ex.reg ?_
 refine ExO.callL [] [] rfl rfl (a_bl1_samba) rfl rfl (d_bl1_samba N r_3 hr_3) (b_bl1_samba _ _ _ _) rfl ?_
 obtain ⟨r_4, hr_4, h⟩ := bE h
 refine rn 1 [1, 2, 14, 15] (mkS 56 [(1, .sl (r_2.1.map (AV.int .i64)) none), (2, i6 r_2.2), (14, (A_School r_3)), (15, .sl (([0, 3, 8] : List Int).map (AV.int .i64)) (some 0))]) ⟨[], [(3, 1)]⟩ ?_
 refine ExO.callL [] [(A_School r_3), .sl (([0, 3, 8] : List Int).map (AV.int .i64)) (some 0), i6 1, i6 10] rfl rfl (a_parade_Where r_3 [0, 3, 8] 1 10) rfl rfl (d_parade_Where N r_3 [0, 3, 8] 1 10 r_4 hr_4) (b_parade_Where _ _ _ _) rfl ?_
 refine rn 6 [1, 2, 3, 4] (mkS 56 [(1, .sl (r_2.1.map (AV.int .i64)) none), (2, i6 r_2.2), (3, .ptr 0 0), (4, i6 r_4.2)]) ⟨[(C_Span r_4.1)], [(3, 1)]⟩ ?_
 refine ExO.nil ?_
 refine Ex.seq ?_
 obtain ⟨r_5, hr_5, h⟩ := bE h
 refine Ex.reg ?_
 refine ExO.callL [] [] rfl rfl (a_bl1_samba) rfl rfl (d_bl1_samba N r_5 hr_5) (b_bl1_samba _ _ _ _) rfl ?_
 obtain ⟨r_6, hr_6, h⟩ := bE h
 refine rn 1 [1, 2, 3, 4, 20, 21] (mkS 56 [(1, .sl (r_2.1.map (AV.int .i64)) none), (2, i6 r_2.2), (3, .ptr 0 0), (4, i6 r_4.2), (20, (A_School r_5)), (21, .sl (([0, 3, 8] : List Int).map (AV.int .i64)) (some 1))]) ⟨[(C_Span r_4.1)], [(3, 1), (3, 1)]⟩ ?_
 refine ExO.callL [] [] rfl rfl (a_bl1_rules) rfl rfl (d_bl1_rules N r_6 hr_6) (b_bl1_rules _ _ _ _) rfl ?_
 obtain ⟨r_7, hr_7, h⟩ := bE h
 refine ExO.callL [] [(A_School r_5), .sl (([0, 3, 8] : List Int).map (AV.int .i64)) (some 1), (A_Rules r_6)] rfl rfl (a_parade_Lasts r_5 [0, 3, 8] r_6) rfl rfl (d_parade_Lasts N r_5 [0, 3, 8] r_6 r_7 hr_7) (b_parade_Lasts _ _ _ _) rfl ?_
 refine rn 8 [1, 2, 3, 4, 5, 6, 7] (mkS 56 [(1, .sl (r_2.1.map (AV.int .i64)) none), (2, i6 r_2.2), (3, .ptr 0 0), (4, i6 r_4.2), (5, i6 r_7.1), (6, .ptr 1 0), (7, i6 r_7.2.2)]) ⟨[(C_Span r_4.1), (C_Span r_7.2.1)], [(3, 1), (3, 1)]⟩ ?_
 refine ExO.nil ?_
 refine Ex.seq ?_
 rcases condI h with ⟨hc_8, h⟩ | ⟨hc_8, h⟩
 ·rcases condI h with ⟨hc_9, h⟩ | ⟨hc_9, h⟩
  ·rcases condI h with ⟨hc_10, h⟩ | ⟨hc_10, h⟩
   ·obtain ⟨r_11, hr_11, h⟩ := bE h
    rcases condI h with ⟨hc_12, h⟩ | ⟨hc_12, h⟩
    ·obtain ⟨r_13, hr_13, h⟩ := bE h
     rcases condI h with ⟨hc_14, h⟩ | ⟨hc_14, h⟩
     ·rcases condI h with ⟨hc_15, h⟩ | ⟨hc_15, h⟩
      ·obtain ⟨r_16, hr_16, h⟩ := bE h
       have hT_17 : DoesA Try.prog [⟨18, [.sl (r_2.1.map (AV.int .i64)) none, .sl (([0, 3, 8] : List Int).map (AV.int .i64)) none], [], (v_bk_EqInts r_11), []⟩, ⟨34, [i6 300, i6 400], [], (v_bl1_span r_13), []⟩, ⟨34, [i6 30, i6 45], [], (v_bl1_span r_16), []⟩] ∧ ConsA [⟨18, [.sl (r_2.1.map (AV.int .i64)) none, .sl (([0, 3, 8] : List Int).map (AV.int .i64)) none], [], (v_bk_EqInts r_11), []⟩, ⟨34, [i6 300, i6 400], [], (v_bl1_span r_13), []⟩, ⟨34, [i6 30, i6 45], [], (v_bl1_span r_16), []⟩] := ⟨⟨(d_bk_EqInts N r_2.1 [0, 3, 8] r_11 hr_11), rfl, (d_bl1_span N 300 400 r_13 hr_13), rfl, (d_bl1_span N 30 45 r_16 hr_16), rfl, trivial⟩, ⟨⟨ConsR.ne rfl, ConsR.ne rfl, trivial⟩, ⟨k_bl1_span N 300 400 30 45 r_13 r_16 hr_13 hr_16, trivial⟩, trivial, trivial⟩⟩
       refine Ex.drawE (a1 := mkS 56 [(1, .sl (r_2.1.map (AV.int .i64)) none), (2, i6 r_2.2), (3, .ptr 0 0), (4, i6 r_4.2), (5, i6 r_7.1), (6, .ptr 1 0), (7, i6 r_7.2.2), (27, i6 r_2.2), (28, .bool (r_2.2 == 0)), (29, .bool true), (30, i6 r_4.2), (31, .bool (r_4.2 == 0)), (32, .bool (r_4.2 == 0)), (33, .bool true), (34, i6 r_7.2.2), (35, .bool (r_7.2.2 == 0)), (36, .bool (r_7.2.2 == 0)), (37, .bool true), (38, .sl (r_2.1.map (AV.int .i64)) none), (39, .sl (([0, 3, 8] : List Int).map (AV.int .i64)) (some 2)), (40, .bool r_11), (41, .bool r_11), (42, .bool true), (43, (A_Span r_4.1)), (44, (A_Span r_13)), (45, .bool ((r_4.1.Lo == r_13.Lo) && ((r_4.1.Hi == r_13.Hi) && true))), (46, .bool ((r_4.1.Lo == r_13.Lo) && ((r_4.1.Hi == r_13.Hi) && true))), (47, .bool true), (48, i6 r_7.1), (49, .bool (r_7.1 == 1)), (50, .bool (r_7.1 == 1)), (51, .bool true), (52, (A_Span r_7.2.1)), (53, (A_Span r_16))]) (tabO_ok hT_17.1) [] [(3, 1)] [] ?_ ?_
       ·refine drS [0, 1] 12 [(2, .eq (.bool true)), (6, .eq (.bool true)), (10, .eq (.bool true))] [AV.bool (r_2.2 == 0) = AV.bool true, AV.bool (r_4.2 == 0) = AV.bool true, AV.bool (r_7.2.2 == 0) = AV.bool true] (mkS 56 [(1, .sl (r_2.1.map (AV.int .i64)) none), (2, i6 r_2.2), (3, .ptr 0 0), (4, i6 r_4.2), (5, i6 r_7.1), (6, .ptr 1 0), (7, i6 r_7.2.2), (27, i6 r_2.2), (28, .bool (r_2.2 == 0)), (29, .bool true), (30, i6 r_4.2), (31, .bool (r_4.2 == 0)), (32, .bool (r_4.2 == 0)), (33, .bool true), (34, i6 r_7.2.2), (35, .bool (r_7.2.2 == 0)), (36, .bool (r_7.2.2 == 0)), (37, .bool true), (38, .sl (r_2.1.map (AV.int .i64)) none)]) (by simp) (by kernel_rfl) ⟨congrArg AV.bool hc_8, congrArg AV.bool hc_9, congrArg AV.bool hc_10, trivial⟩ (by kernel_rfl) ?_
        refine drR 2 1 (([0, 3, 8] : List Int).map (AV.int .i64)) rfl rfl (fun _ => by kernel_rfl) (by simp) rfl rfl ?_
        refine drC hT_17.2 0 _ [.sl (r_2.1.map (AV.int .i64)) none, .sl (([0, 3, 8] : List Int).map (AV.int .i64)) (some 2)] (v_bk_EqInts r_11) rfl rfl rfl rfl rfl (fun _ => rfl) rfl (by simp; try rfl) (fun _ => b_bk_EqInts _ _ _ _) ?_
        refine drS [0, 1] 3 [(1, .eq (.bool true))] [AV.bool r_11 = AV.bool true] (mkS 56 [(1, .sl (r_2.1.map (AV.int .i64)) none), (2, i6 r_2.2), (3, .ptr 0 0), (4, i6 r_4.2), (5, i6 r_7.1), (6, .ptr 1 0), (7, i6 r_7.2.2), (27, i6 r_2.2), (28, .bool (r_2.2 == 0)), (29, .bool true), (30, i6 r_4.2), (31, .bool (r_4.2 == 0)), (32, .bool (r_4.2 == 0)), (33, .bool true), (34, i6 r_7.2.2), (35, .bool (r_7.2.2 == 0)), (36, .bool (r_7.2.2 == 0)), (37, .bool true), (38, .sl (r_2.1.map (AV.int .i64)) none), (39, .sl (([0, 3, 8] : List Int).map (AV.int .i64)) (some 2)), (40, .bool r_11), (41, .bool r_11), (42, .bool true), (43, (A_Span r_4.1))]) (by simp) (by kernel_rfl) ⟨congrArg AV.bool hc_12, trivial⟩ (by kernel_rfl) ?_
        refine drC hT_17.2 1 _ [i6 300, i6 400] (v_bl1_span r_13) rfl rfl rfl rfl rfl (fun _ => rfl) rfl (by simp; try rfl) (fun _ => b_bl1_span _ _ _ _) ?_
        refine drS [0, 1] 8 [(2, .eq (.bool true)), (6, .eq (.bool true))] [AV.bool ((r_4.1.Lo == r_13.Lo) && ((r_4.1.Hi == r_13.Hi) && true)) = AV.bool true, AV.bool (r_7.1 == 1) = AV.bool true] (mkS 56 [(1, .sl (r_2.1.map (AV.int .i64)) none), (2, i6 r_2.2), (3, .ptr 0 0), (4, i6 r_4.2), (5, i6 r_7.1), (6, .ptr 1 0), (7, i6 r_7.2.2), (27, i6 r_2.2), (28, .bool (r_2.2 == 0)), (29, .bool true), (30, i6 r_4.2), (31, .bool (r_4.2 == 0)), (32, .bool (r_4.2 == 0)), (33, .bool true), (34, i6 r_7.2.2), (35, .bool (r_7.2.2 == 0)), (36, .bool (r_7.2.2 == 0)), (37, .bool true), (38, .sl (r_2.1.map (AV.int .i64)) none), (39, .sl (([0, 3, 8] : List Int).map (AV.int .i64)) (some 2)), (40, .bool r_11), (41, .bool r_11), (42, .bool true), (43, (A_Span r_4.1)), (44, (A_Span r_13)), (45, .bool ((r_4.1.Lo == r_13.Lo) && ((r_4.1.Hi == r_13.Hi) && true))), (46, .bool ((r_4.1.Lo == r_13.Lo) && ((r_4.1.Hi == r_13.Hi) && true))), (47, .bool true), (48, i6 r_7.1), (49, .bool (r_7.1 == 1)), (50, .bool (r_7.1 == 1)), (51, .bool true), (52, (A_Span r_7.2.1))]) (by simp) (by kernel_rfl) ⟨congrArg AV.bool hc_14, congrArg AV.bool hc_15, trivial⟩ (by kernel_rfl) ?_
        refine drC hT_17.2 2 _ [i6 30, i6 45] (v_bl1_span r_16) rfl rfl rfl rfl rfl (fun _ => rfl) rfl (by simp; try rfl) (fun _ => b_bl1_span _ _ _ _) ?_
        exact DrO.nil rfl
       ·dsimp only [List.getLastD_cons, List.getLastD_nil]
        refine rn 3 [0] (mkS 56 [(0, .bool ((r_7.2.1.Lo == r_16.Lo) && ((r_7.2.1.Hi == r_16.Hi) && true)))]) ⟨[(C_Span r_4.1), (C_Span r_7.2.1)], [(3, 1), (3, 1), (3, 1)]⟩ ?_
        refine ExO.nil ?_
        refine Ex.ret ?_
        obtain rfl := sJ h
        exact rt (.bool ((r_7.2.1.Lo == r_16.Lo) && ((r_7.2.1.Hi == r_16.Hi) && true)))
      ·have hT_18 : DoesA Try.prog [⟨18, [.sl (r_2.1.map (AV.int .i64)) none, .sl (([0, 3, 8] : List Int).map (AV.int .i64)) none], [], (v_bk_EqInts r_11), []⟩, ⟨34, [i6 300, i6 400], [], (v_bl1_span r_13), []⟩] ∧ ConsA [⟨18, [.sl (r_2.1.map (AV.int .i64)) none, .sl (([0, 3, 8] : List Int).map (AV.int .i64)) none], [], (v_bk_EqInts r_11), []⟩, ⟨34, [i6 300, i6 400], [], (v_bl1_span r_13), []⟩] := ⟨⟨(d_bk_EqInts N r_2.1 [0, 3, 8] r_11 hr_11), rfl, (d_bl1_span N 300 400 r_13 hr_13), rfl, trivial⟩, ⟨⟨ConsR.ne rfl, trivial⟩, trivial, trivial⟩⟩
       refine Ex.drawE (a1 := mkS 56 [(1, .sl (r_2.1.map (AV.int .i64)) none), (2, i6 r_2.2), (3, .ptr 0 0), (4, i6 r_4.2), (5, i6 r_7.1), (6, .ptr 1 0), (7, i6 r_7.2.2), (27, i6 r_2.2), (28, .bool (r_2.2 == 0)), (29, .bool true), (30, i6 r_4.2), (31, .bool (r_4.2 == 0)), (32, .bool (r_4.2 == 0)), (33, .bool true), (34, i6 r_7.2.2), (35, .bool (r_7.2.2 == 0)), (36, .bool (r_7.2.2 == 0)), (37, .bool true), (38, .sl (r_2.1.map (AV.int .i64)) none), (39, .sl (([0, 3, 8] : List Int).map (AV.int .i64)) (some 2)), (40, .bool r_11), (41, .bool r_11), (42, .bool true), (43, (A_Span r_4.1)), (44, (A_Span r_13)), (45, .bool ((r_4.1.Lo == r_13.Lo) && ((r_4.1.Hi == r_13.Hi) && true))), (46, .bool ((r_4.1.Lo == r_13.Lo) && ((r_4.1.Hi == r_13.Hi) && true))), (47, .bool true), (48, i6 r_7.1), (49, .bool (r_7.1 == 1)), (50, .bool (r_7.1 == 1)), (51, .bool false), (52, .tup []), (53, .tup [])]) (tabO_ok hT_18.1) [] [(3, 1)] [] ?_ ?_
       ·refine drS [0, 1] 12 [(2, .eq (.bool true)), (6, .eq (.bool true)), (10, .eq (.bool true))] [AV.bool (r_2.2 == 0) = AV.bool true, AV.bool (r_4.2 == 0) = AV.bool true, AV.bool (r_7.2.2 == 0) = AV.bool true] (mkS 56 [(1, .sl (r_2.1.map (AV.int .i64)) none), (2, i6 r_2.2), (3, .ptr 0 0), (4, i6 r_4.2), (5, i6 r_7.1), (6, .ptr 1 0), (7, i6 r_7.2.2), (27, i6 r_2.2), (28, .bool (r_2.2 == 0)), (29, .bool true), (30, i6 r_4.2), (31, .bool (r_4.2 == 0)), (32, .bool (r_4.2 == 0)), (33, .bool true), (34, i6 r_7.2.2), (35, .bool (r_7.2.2 == 0)), (36, .bool (r_7.2.2 == 0)), (37, .bool true), (38, .sl (r_2.1.map (AV.int .i64)) none)]) (by simp) (by kernel_rfl) ⟨congrArg AV.bool hc_8, congrArg AV.bool hc_9, congrArg AV.bool hc_10, trivial⟩ (by kernel_rfl) ?_
        refine drR 2 1 (([0, 3, 8] : List Int).map (AV.int .i64)) rfl rfl (fun _ => by kernel_rfl) (by simp) rfl rfl ?_
        refine drC hT_18.2 0 _ [.sl (r_2.1.map (AV.int .i64)) none, .sl (([0, 3, 8] : List Int).map (AV.int .i64)) (some 2)] (v_bk_EqInts r_11) rfl rfl rfl rfl rfl (fun _ => rfl) rfl (by simp; try rfl) (fun _ => b_bk_EqInts _ _ _ _) ?_
        refine drS [0, 1] 3 [(1, .eq (.bool true))] [AV.bool r_11 = AV.bool true] (mkS 56 [(1, .sl (r_2.1.map (AV.int .i64)) none), (2, i6 r_2.2), (3, .ptr 0 0), (4, i6 r_4.2), (5, i6 r_7.1), (6, .ptr 1 0), (7, i6 r_7.2.2), (27, i6 r_2.2), (28, .bool (r_2.2 == 0)), (29, .bool true), (30, i6 r_4.2), (31, .bool (r_4.2 == 0)), (32, .bool (r_4.2 == 0)), (33, .bool true), (34, i6 r_7.2.2), (35, .bool (r_7.2.2 == 0)), (36, .bool (r_7.2.2 == 0)), (37, .bool true), (38, .sl (r_2.1.map (AV.int .i64)) none), (39, .sl (([0, 3, 8] : List Int).map (AV.int .i64)) (some 2)), (40, .bool r_11), (41, .bool r_11), (42, .bool true), (43, (A_Span r_4.1))]) (by simp) (by kernel_rfl) ⟨congrArg AV.bool hc_12, trivial⟩ (by kernel_rfl) ?_
        refine drC hT_18.2 1 _ [i6 300, i6 400] (v_bl1_span r_13) rfl rfl rfl rfl rfl (fun _ => rfl) rfl (by simp; try rfl) (fun _ => b_bl1_span _ _ _ _) ?_
        refine drS [0, 1] 7 [(2, .eq (.bool true)), (6, .eq (.bool false))] [AV.bool ((r_4.1.Lo == r_13.Lo) && ((r_4.1.Hi == r_13.Hi) && true)) = AV.bool true, AV.bool (r_7.1 == 1) = AV.bool false] (mkS 56 [(1, .sl (r_2.1.map (AV.int .i64)) none), (2, i6 r_2.2), (3, .ptr 0 0), (4, i6 r_4.2), (5, i6 r_7.1), (6, .ptr 1 0), (7, i6 r_7.2.2), (27, i6 r_2.2), (28, .bool (r_2.2 == 0)), (29, .bool true), (30, i6 r_4.2), (31, .bool (r_4.2 == 0)), (32, .bool (r_4.2 == 0)), (33, .bool true), (34, i6 r_7.2.2), (35, .bool (r_7.2.2 == 0)), (36, .bool (r_7.2.2 == 0)), (37, .bool true), (38, .sl (r_2.1.map (AV.int .i64)) none), (39, .sl (([0, 3, 8] : List Int).map (AV.int .i64)) (some 2)), (40, .bool r_11), (41, .bool r_11), (42, .bool true), (43, (A_Span r_4.1)), (44, (A_Span r_13)), (45, .bool ((r_4.1.Lo == r_13.Lo) && ((r_4.1.Hi == r_13.Hi) && true))), (46, .bool ((r_4.1.Lo == r_13.Lo) && ((r_4.1.Hi == r_13.Hi) && true))), (47, .bool true), (48, i6 r_7.1), (49, .bool (r_7.1 == 1)), (50, .bool (r_7.1 == 1)), (51, .bool false)]) (by simp) (by kernel_rfl) ⟨congrArg AV.bool hc_14, congrArg AV.bool hc_15, trivial⟩ (by kernel_rfl) ?_
        refine drK (by kernel_rfl) (by kernel_rfl) ?_
        refine drK (by kernel_rfl) (by kernel_rfl) ?_
        exact DrO.nil rfl
       ·dsimp only [List.getLastD_cons, List.getLastD_nil]
        refine rn 3 [0] (mkS 56 [(0, .bool false)]) ⟨[(C_Span r_4.1), (C_Span r_7.2.1)], [(3, 1), (3, 1), (3, 1)]⟩ ?_
        refine ExO.nil ?_
        refine Ex.ret ?_
        obtain rfl := sJ h
        exact rt (.bool false)
     ·have hT_19 : DoesA Try.prog [⟨18, [.sl (r_2.1.map (AV.int .i64)) none, .sl (([0, 3, 8] : List Int).map (AV.int .i64)) none], [], (v_bk_EqInts r_11), []⟩, ⟨34, [i6 300, i6 400], [], (v_bl1_span r_13), []⟩] ∧ ConsA [⟨18, [.sl (r_2.1.map (AV.int .i64)) none, .sl (([0, 3, 8] : List Int).map (AV.int .i64)) none], [], (v_bk_EqInts r_11), []⟩, ⟨34, [i6 300, i6 400], [], (v_bl1_span r_13), []⟩] := ⟨⟨(d_bk_EqInts N r_2.1 [0, 3, 8] r_11 hr_11), rfl, (d_bl1_span N 300 400 r_13 hr_13), rfl, trivial⟩, ⟨⟨ConsR.ne rfl, trivial⟩, trivial, trivial⟩⟩
      refine Ex.drawE (a1 := mkS 56 [(1, .sl (r_2.1.map (AV.int .i64)) none), (2, i6 r_2.2), (3, .ptr 0 0), (4, i6 r_4.2), (5, i6 r_7.1), (6, .ptr 1 0), (7, i6 r_7.2.2), (27, i6 r_2.2), (28, .bool (r_2.2 == 0)), (29, .bool true), (30, i6 r_4.2), (31, .bool (r_4.2 == 0)), (32, .bool (r_4.2 == 0)), (33, .bool true), (34, i6 r_7.2.2), (35, .bool (r_7.2.2 == 0)), (36, .bool (r_7.2.2 == 0)), (37, .bool true), (38, .sl (r_2.1.map (AV.int .i64)) none), (39, .sl (([0, 3, 8] : List Int).map (AV.int .i64)) (some 2)), (40, .bool r_11), (41, .bool r_11), (42, .bool true), (43, (A_Span r_4.1)), (44, (A_Span r_13)), (45, .bool ((r_4.1.Lo == r_13.Lo) && ((r_4.1.Hi == r_13.Hi) && true))), (46, .bool ((r_4.1.Lo == r_13.Lo) && ((r_4.1.Hi == r_13.Hi) && true))), (47, .bool false), (48, .tup []), (49, .tup []), (50, .bool false), (51, .bool false), (52, .tup []), (53, .tup [])]) (tabO_ok hT_19.1) [] [(3, 1)] [] ?_ ?_
      ·refine drS [0, 1] 12 [(2, .eq (.bool true)), (6, .eq (.bool true)), (10, .eq (.bool true))] [AV.bool (r_2.2 == 0) = AV.bool true, AV.bool (r_4.2 == 0) = AV.bool true, AV.bool (r_7.2.2 == 0) = AV.bool true] (mkS 56 [(1, .sl (r_2.1.map (AV.int .i64)) none), (2, i6 r_2.2), (3, .ptr 0 0), (4, i6 r_4.2), (5, i6 r_7.1), (6, .ptr 1 0), (7, i6 r_7.2.2), (27, i6 r_2.2), (28, .bool (r_2.2 == 0)), (29, .bool true), (30, i6 r_4.2), (31, .bool (r_4.2 == 0)), (32, .bool (r_4.2 == 0)), (33, .bool true), (34, i6 r_7.2.2), (35, .bool (r_7.2.2 == 0)), (36, .bool (r_7.2.2 == 0)), (37, .bool true), (38, .sl (r_2.1.map (AV.int .i64)) none)]) (by simp) (by kernel_rfl) ⟨congrArg AV.bool hc_8, congrArg AV.bool hc_9, congrArg AV.bool hc_10, trivial⟩ (by kernel_rfl) ?_
       refine drR 2 1 (([0, 3, 8] : List Int).map (AV.int .i64)) rfl rfl (fun _ => by kernel_rfl) (by simp) rfl rfl ?_
       refine drC hT_19.2 0 _ [.sl (r_2.1.map (AV.int .i64)) none, .sl (([0, 3, 8] : List Int).map (AV.int .i64)) (some 2)] (v_bk_EqInts r_11) rfl rfl rfl rfl rfl (fun _ => rfl) rfl (by simp; try rfl) (fun _ => b_bk_EqInts _ _ _ _) ?_
       refine drS [0, 1] 3 [(1, .eq (.bool true))] [AV.bool r_11 = AV.bool true] (mkS 56 [(1, .sl (r_2.1.map (AV.int .i64)) none), (2, i6 r_2.2), (3, .ptr 0 0), (4, i6 r_4.2), (5, i6 r_7.1), (6, .ptr 1 0), (7, i6 r_7.2.2), (27, i6 r_2.2), (28, .bool (r_2.2 == 0)), (29, .bool true), (30, i6 r_4.2), (31, .bool (r_4.2 == 0)), (32, .bool (r_4.2 == 0)), (33, .bool true), (34, i6 r_7.2.2), (35, .bool (r_7.2.2 == 0)), (36, .bool (r_7.2.2 == 0)), (37, .bool true), (38, .sl (r_2.1.map (AV.int .i64)) none), (39, .sl (([0, 3, 8] : List Int).map (AV.int .i64)) (some 2)), (40, .bool r_11), (41, .bool r_11), (42, .bool true), (43, (A_Span r_4.1))]) (by simp) (by kernel_rfl) ⟨congrArg AV.bool hc_12, trivial⟩ (by kernel_rfl) ?_
       refine drC hT_19.2 1 _ [i6 300, i6 400] (v_bl1_span r_13) rfl rfl rfl rfl rfl (fun _ => rfl) rfl (by simp; try rfl) (fun _ => b_bl1_span _ _ _ _) ?_
       refine drS [0, 1] 3 [(2, .eq (.bool false))] [AV.bool ((r_4.1.Lo == r_13.Lo) && ((r_4.1.Hi == r_13.Hi) && true)) = AV.bool false] (mkS 56 [(1, .sl (r_2.1.map (AV.int .i64)) none), (2, i6 r_2.2), (3, .ptr 0 0), (4, i6 r_4.2), (5, i6 r_7.1), (6, .ptr 1 0), (7, i6 r_7.2.2), (27, i6 r_2.2), (28, .bool (r_2.2 == 0)), (29, .bool true), (30, i6 r_4.2), (31, .bool (r_4.2 == 0)), (32, .bool (r_4.2 == 0)), (33, .bool true), (34, i6 r_7.2.2), (35, .bool (r_7.2.2 == 0)), (36, .bool (r_7.2.2 == 0)), (37, .bool true), (38, .sl (r_2.1.map (AV.int .i64)) none), (39, .sl (([0, 3, 8] : List Int).map (AV.int .i64)) (some 2)), (40, .bool r_11), (41, .bool r_11), (42, .bool true), (43, (A_Span r_4.1)), (44, (A_Span r_13)), (45, .bool ((r_4.1.Lo == r_13.Lo) && ((r_4.1.Hi == r_13.Hi) && true))), (46, .bool ((r_4.1.Lo == r_13.Lo) && ((r_4.1.Hi == r_13.Hi) && true))), (47, .bool false)]) (by simp) (by kernel_rfl) ⟨congrArg AV.bool hc_14, trivial⟩ (by kernel_rfl) ?_
       refine drK (by kernel_rfl) (by kernel_rfl) ?_
       refine drK (by kernel_rfl) (by kernel_rfl) ?_
       refine drS [0, 1] 2 [] [] (mkS 56 [(1, .sl (r_2.1.map (AV.int .i64)) none), (2, i6 r_2.2), (3, .ptr 0 0), (4, i6 r_4.2), (5, i6 r_7.1), (6, .ptr 1 0), (7, i6 r_7.2.2), (27, i6 r_2.2), (28, .bool (r_2.2 == 0)), (29, .bool true), (30, i6 r_4.2), (31, .bool (r_4.2 == 0)), (32, .bool (r_4.2 == 0)), (33, .bool true), (34, i6 r_7.2.2), (35, .bool (r_7.2.2 == 0)), (36, .bool (r_7.2.2 == 0)), (37, .bool true), (38, .sl (r_2.1.map (AV.int .i64)) none), (39, .sl (([0, 3, 8] : List Int).map (AV.int .i64)) (some 2)), (40, .bool r_11), (41, .bool r_11), (42, .bool true), (43, (A_Span r_4.1)), (44, (A_Span r_13)), (45, .bool ((r_4.1.Lo == r_13.Lo) && ((r_4.1.Hi == r_13.Hi) && true))), (46, .bool ((r_4.1.Lo == r_13.Lo) && ((r_4.1.Hi == r_13.Hi) && true))), (47, .bool false), (48, .tup []), (49, .tup []), (50, .bool false), (51, .bool false)]) (by simp) (by kernel_rfl) trivial (by kernel_rfl) ?_
       refine drK (by kernel_rfl) (by kernel_rfl) ?_
       refine drK (by kernel_rfl) (by kernel_rfl) ?_
       exact DrO.nil rfl
      ·dsimp only [List.getLastD_cons, List.getLastD_nil]
       refine rn 3 [0] (mkS 56 [(0, .bool false)]) ⟨[(C_Span r_4.1), (C_Span r_7.2.1)], [(3, 1), (3, 1), (3, 1)]⟩ ?_
       refine ExO.nil ?_
       refine Ex.ret ?_
       obtain rfl := sJ h
       exact rt (.bool false)
    ·have hT_20 : DoesA Try.prog [⟨18, [.sl (r_2.1.map (AV.int .i64)) none, .sl (([0, 3, 8] : List Int).map (AV.int .i64)) none], [], (v_bk_EqInts r_11), []⟩] ∧ ConsA [⟨18, [.sl (r_2.1.map (AV.int .i64)) none, .sl (([0, 3, 8] : List Int).map (AV.int .i64)) none], [], (v_bk_EqInts r_11), []⟩] := ⟨⟨(d_bk_EqInts N r_2.1 [0, 3, 8] r_11 hr_11), rfl, trivial⟩, ⟨trivial, trivial⟩⟩
     refine Ex.drawE (a1 := mkS 56 [(1, .sl (r_2.1.map (AV.int .i64)) none), (2, i6 r_2.2), (3, .ptr 0 0), (4, i6 r_4.2), (5, i6 r_7.1), (6, .ptr 1 0), (7, i6 r_7.2.2), (27, i6 r_2.2), (28, .bool (r_2.2 == 0)), (29, .bool true), (30, i6 r_4.2), (31, .bool (r_4.2 == 0)), (32, .bool (r_4.2 == 0)), (33, .bool true), (34, i6 r_7.2.2), (35, .bool (r_7.2.2 == 0)), (36, .bool (r_7.2.2 == 0)), (37, .bool true), (38, .sl (r_2.1.map (AV.int .i64)) none), (39, .sl (([0, 3, 8] : List Int).map (AV.int .i64)) (some 2)), (40, .bool r_11), (41, .bool r_11), (42, .bool false), (43, .tup []), (44, .tup []), (45, .tup []), (46, .bool false), (47, .bool false), (48, .tup []), (49, .tup []), (50, .bool false), (51, .bool false), (52, .tup []), (53, .tup [])]) (tabO_ok hT_20.1) [] [(3, 1)] [] ?_ ?_
     ·refine drS [0, 1] 12 [(2, .eq (.bool true)), (6, .eq (.bool true)), (10, .eq (.bool true))] [AV.bool (r_2.2 == 0) = AV.bool true, AV.bool (r_4.2 == 0) = AV.bool true, AV.bool (r_7.2.2 == 0) = AV.bool true] (mkS 56 [(1, .sl (r_2.1.map (AV.int .i64)) none), (2, i6 r_2.2), (3, .ptr 0 0), (4, i6 r_4.2), (5, i6 r_7.1), (6, .ptr 1 0), (7, i6 r_7.2.2), (27, i6 r_2.2), (28, .bool (r_2.2 == 0)), (29, .bool true), (30, i6 r_4.2), (31, .bool (r_4.2 == 0)), (32, .bool (r_4.2 == 0)), (33, .bool true), (34, i6 r_7.2.2), (35, .bool (r_7.2.2 == 0)), (36, .bool (r_7.2.2 == 0)), (37, .bool true), (38, .sl (r_2.1.map (AV.int .i64)) none)]) (by simp) (by kernel_rfl) ⟨congrArg AV.bool hc_8, congrArg AV.bool hc_9, congrArg AV.bool hc_10, trivial⟩ (by kernel_rfl) ?_
      refine drR 2 1 (([0, 3, 8] : List Int).map (AV.int .i64)) rfl rfl (fun _ => by kernel_rfl) (by simp) rfl rfl ?_
      refine drC hT_20.2 0 _ [.sl (r_2.1.map (AV.int .i64)) none, .sl (([0, 3, 8] : List Int).map (AV.int .i64)) (some 2)] (v_bk_EqInts r_11) rfl rfl rfl rfl rfl (fun _ => rfl) rfl (by simp; try rfl) (fun _ => b_bk_EqInts _ _ _ _) ?_
      refine drS [0, 1] 2 [(1, .eq (.bool false))] [AV.bool r_11 = AV.bool false] (mkS 56 [(1, .sl (r_2.1.map (AV.int .i64)) none), (2, i6 r_2.2), (3, .ptr 0 0), (4, i6 r_4.2), (5, i6 r_7.1), (6, .ptr 1 0), (7, i6 r_7.2.2), (27, i6 r_2.2), (28, .bool (r_2.2 == 0)), (29, .bool true), (30, i6 r_4.2), (31, .bool (r_4.2 == 0)), (32, .bool (r_4.2 == 0)), (33, .bool true), (34, i6 r_7.2.2), (35, .bool (r_7.2.2 == 0)), (36, .bool (r_7.2.2 == 0)), (37, .bool true), (38, .sl (r_2.1.map (AV.int .i64)) none), (39, .sl (([0, 3, 8] : List Int).map (AV.int .i64)) (some 2)), (40, .bool r_11), (41, .bool r_11), (42, .bool false)]) (by simp) (by kernel_rfl) ⟨congrArg AV.bool hc_12, trivial⟩ (by kernel_rfl) ?_
      refine drK (by kernel_rfl) (by kernel_rfl) ?_
      refine drK (by kernel_rfl) (by kernel_rfl) ?_
      refine drK (by kernel_rfl) (by kernel_rfl) ?_
      refine drS [0, 1] 2 [] [] (mkS 56 [(1, .sl (r_2.1.map (AV.int .i64)) none), (2, i6 r_2.2), (3, .ptr 0 0), (4, i6 r_4.2), (5, i6 r_7.1), (6, .ptr 1 0), (7, i6 r_7.2.2), (27, i6 r_2.2), (28, .bool (r_2.2 == 0)), (29, .bool true), (30, i6 r_4.2), (31, .bool (r_4.2 == 0)), (32, .bool (r_4.2 == 0)), (33, .bool true), (34, i6 r_7.2.2), (35, .bool (r_7.2.2 == 0)), (36, .bool (r_7.2.2 == 0)), (37, .bool true), (38, .sl (r_2.1.map (AV.int .i64)) none), (39, .sl (([0, 3, 8] : List Int).map (AV.int .i64)) (some 2)), (40, .bool r_11), (41, .bool r_11), (42, .bool false), (43, .tup []), (44, .tup []), (45, .tup []), (46, .bool false), (47, .bool false)]) (by simp) (by kernel_rfl) trivial (by kernel_rfl) ?_
      refine drK (by kernel_rfl) (by kernel_rfl) ?_
      refine drK (by kernel_rfl) (by kernel_rfl) ?_
      refine drS [0, 1] 2 [] [] (mkS 56 [(1, .sl (r_2.1.map (AV.int .i64)) none), (2, i6 r_2.2), (3, .ptr 0 0), (4, i6 r_4.2), (5, i6 r_7.1), (6, .ptr 1 0), (7, i6 r_7.2.2), (27, i6 r_2.2), (28, .bool (r_2.2 == 0)), (29, .bool true), (30, i6 r_4.2), (31, .bool (r_4.2 == 0)), (32, .bool (r_4.2 == 0)), (33, .bool true), (34, i6 r_7.2.2), (35, .bool (r_7.2.2 == 0)), (36, .bool (r_7.2.2 == 0)), (37, .bool true), (38, .sl (r_2.1.map (AV.int .i64)) none), (39, .sl (([0, 3, 8] : List Int).map (AV.int .i64)) (some 2)), (40, .bool r_11), (41, .bool r_11), (42, .bool false), (43, .tup []), (44, .tup []), (45, .tup []), (46, .bool false), (47, .bool false), (48, .tup []), (49, .tup []), (50, .bool false), (51, .bool false)]) (by simp) (by kernel_rfl) trivial (by kernel_rfl) ?_
      refine drK (by kernel_rfl) (by kernel_rfl) ?_
      refine drK (by kernel_rfl) (by kernel_rfl) ?_
      exact DrO.nil rfl
     ·dsimp only [List.getLastD_cons, List.getLastD_nil]
      refine rn 3 [0] (mkS 56 [(0, .bool false)]) ⟨[(C_Span r_4.1), (C_Span r_7.2.1)], [(3, 1), (3, 1), (3, 1)]⟩ ?_
      refine ExO.nil ?_
      refine Ex.ret ?_
      obtain rfl := sJ h
      exact rt (.bool false)
   ·refine Ex.drawE (a1 := mkS 56 [(1, .sl (r_2.1.map (AV.int .i64)) none), (2, i6 r_2.2), (3, .ptr 0 0), (4, i6 r_4.2), (5, i6 r_7.1), (6, .ptr 1 0), (7, i6 r_7.2.2), (27, i6 r_2.2), (28, .bool (r_2.2 == 0)), (29, .bool true), (30, i6 r_4.2), (31, .bool (r_4.2 == 0)), (32, .bool (r_4.2 == 0)), (33, .bool true), (34, i6 r_7.2.2), (35, .bool (r_7.2.2 == 0)), (36, .bool (r_7.2.2 == 0)), (37, .bool false), (38, .tup []), (39, .tup []), (40, .tup []), (41, .bool false), (42, .bool false), (43, .tup []), (44, .tup []), (45, .tup []), (46, .bool false), (47, .bool false), (48, .tup []), (49, .tup []), (50, .bool false), (51, .bool false), (52, .tup []), (53, .tup [])]) (noClr_ok _) [] [(3, 1)] [] ?_ ?_
    ·refine drS [0, 1] 11 [(2, .eq (.bool true)), (6, .eq (.bool true)), (10, .eq (.bool false))] [AV.bool (r_2.2 == 0) = AV.bool true, AV.bool (r_4.2 == 0) = AV.bool true, AV.bool (r_7.2.2 == 0) = AV.bool false] (mkS 56 [(1, .sl (r_2.1.map (AV.int .i64)) none), (2, i6 r_2.2), (3, .ptr 0 0), (4, i6 r_4.2), (5, i6 r_7.1), (6, .ptr 1 0), (7, i6 r_7.2.2), (27, i6 r_2.2), (28, .bool (r_2.2 == 0)), (29, .bool true), (30, i6 r_4.2), (31, .bool (r_4.2 == 0)), (32, .bool (r_4.2 == 0)), (33, .bool true), (34, i6 r_7.2.2), (35, .bool (r_7.2.2 == 0)), (36, .bool (r_7.2.2 == 0)), (37, .bool false)]) (by simp) (by kernel_rfl) ⟨congrArg AV.bool hc_8, congrArg AV.bool hc_9, congrArg AV.bool hc_10, trivial⟩ (by kernel_rfl) ?_
     refine drK (by kernel_rfl) (by kernel_rfl) ?_
     refine drK (by kernel_rfl) (by kernel_rfl) ?_
     refine drK (by kernel_rfl) (by kernel_rfl) ?_
     refine drS [0, 1] 2 [] [] (mkS 56 [(1, .sl (r_2.1.map (AV.int .i64)) none), (2, i6 r_2.2), (3, .ptr 0 0), (4, i6 r_4.2), (5, i6 r_7.1), (6, .ptr 1 0), (7, i6 r_7.2.2), (27, i6 r_2.2), (28, .bool (r_2.2 == 0)), (29, .bool true), (30, i6 r_4.2), (31, .bool (r_4.2 == 0)), (32, .bool (r_4.2 == 0)), (33, .bool true), (34, i6 r_7.2.2), (35, .bool (r_7.2.2 == 0)), (36, .bool (r_7.2.2 == 0)), (37, .bool false), (38, .tup []), (39, .tup []), (40, .tup []), (41, .bool false), (42, .bool false)]) (by simp) (by kernel_rfl) trivial (by kernel_rfl) ?_
     refine drK (by kernel_rfl) (by kernel_rfl) ?_
     refine drK (by kernel_rfl) (by kernel_rfl) ?_
     refine drK (by kernel_rfl) (by kernel_rfl) ?_
     refine drS [0, 1] 2 [] [] (mkS 56 [(1, .sl (r_2.1.map (AV.int .i64)) none), (2, i6 r_2.2), (3, .ptr 0 0), (4, i6 r_4.2), (5, i6 r_7.1), (6, .ptr 1 0), (7, i6 r_7.2.2), (27, i6 r_2.2), (28, .bool (r_2.2 == 0)), (29, .bool true), (30, i6 r_4.2), (31, .bool (r_4.2 == 0)), (32, .bool (r_4.2 == 0)), (33, .bool true), (34, i6 r_7.2.2), (35, .bool (r_7.2.2 == 0)), (36, .bool (r_7.2.2 == 0)), (37, .bool false), (38, .tup []), (39, .tup []), (40, .tup []), (41, .bool false), (42, .bool false), (43, .tup []), (44, .tup []), (45, .tup []), (46, .bool false), (47, .bool false)]) (by simp) (by kernel_rfl) trivial (by kernel_rfl) ?_
     refine drK (by kernel_rfl) (by kernel_rfl) ?_
     refine drK (by kernel_rfl) (by kernel_rfl) ?_
     refine drS [0, 1] 2 [] [] (mkS 56 [(1, .sl (r_2.1.map (AV.int .i64)) none), (2, i6 r_2.2), (3, .ptr 0 0), (4, i6 r_4.2), (5, i6 r_7.1), (6, .ptr 1 0), (7, i6 r_7.2.2), (27, i6 r_2.2), (28, .bool (r_2.2 == 0)), (29, .bool true), (30, i6 r_4.2), (31, .bool (r_4.2 == 0)), (32, .bool (r_4.2 == 0)), (33, .bool true), (34, i6 r_7.2.2), (35, .bool (r_7.2.2 == 0)), (36, .bool (r_7.2.2 == 0)), (37, .bool false), (38, .tup []), (39, .tup []), (40, .tup []), (41, .bool false), (42, .bool false), (43, .tup []), (44, .tup []), (45, .tup []), (46, .bool false), (47, .bool false), (48, .tup []), (49, .tup []), (50, .bool false), (51, .bool false)]) (by simp) (by kernel_rfl) trivial (by kernel_rfl) ?_
     refine drK (by kernel_rfl) (by kernel_rfl) ?_
     refine drK (by kernel_rfl) (by kernel_rfl) ?_
     exact DrO.nil rfl
    ·dsimp only [List.getLastD_cons, List.getLastD_nil]
     refine rn 3 [0] (mkS 56 [(0, .bool false)]) ⟨[(C_Span r_4.1), (C_Span r_7.2.1)], [(3, 1), (3, 1), (3, 1)]⟩ ?_
     refine ExO.nil ?_
     refine Ex.ret ?_
     obtain rfl := sJ h
     exact rt (.bool false)
  ·refine Ex.drawE (a1 := mkS 56 [(1, .sl (r_2.1.map (AV.int .i64)) none), (2, i6 r_2.2), (3, .ptr 0 0), (4, i6 r_4.2), (5, i6 r_7.1), (6, .ptr 1 0), (7, i6 r_7.2.2), (27, i6 r_2.2), (28, .bool (r_2.2 == 0)), (29, .bool true), (30, i6 r_4.2), (31, .bool (r_4.2 == 0)), (32, .bool (r_4.2 == 0)), (33, .bool false), (34, .tup []), (35, .tup []), (36, .bool false), (37, .bool false), (38, .tup []), (39, .tup []), (40, .tup []), (41, .bool false), (42, .bool false), (43, .tup []), (44, .tup []), (45, .tup []), (46, .bool false), (47, .bool false), (48, .tup []), (49, .tup []), (50, .bool false), (51, .bool false), (52, .tup []), (53, .tup [])]) (noClr_ok _) [] [(3, 1)] [] ?_ ?_
   ·refine drS [0, 1] 7 [(2, .eq (.bool true)), (6, .eq (.bool false))] [AV.bool (r_2.2 == 0) = AV.bool true, AV.bool (r_4.2 == 0) = AV.bool false] (mkS 56 [(1, .sl (r_2.1.map (AV.int .i64)) none), (2, i6 r_2.2), (3, .ptr 0 0), (4, i6 r_4.2), (5, i6 r_7.1), (6, .ptr 1 0), (7, i6 r_7.2.2), (27, i6 r_2.2), (28, .bool (r_2.2 == 0)), (29, .bool true), (30, i6 r_4.2), (31, .bool (r_4.2 == 0)), (32, .bool (r_4.2 == 0)), (33, .bool false)]) (by simp) (by kernel_rfl) ⟨congrArg AV.bool hc_8, congrArg AV.bool hc_9, trivial⟩ (by kernel_rfl) ?_
    refine drK (by kernel_rfl) (by kernel_rfl) ?_
    refine drK (by kernel_rfl) (by kernel_rfl) ?_
    refine drS [0, 1] 2 [] [] (mkS 56 [(1, .sl (r_2.1.map (AV.int .i64)) none), (2, i6 r_2.2), (3, .ptr 0 0), (4, i6 r_4.2), (5, i6 r_7.1), (6, .ptr 1 0), (7, i6 r_7.2.2), (27, i6 r_2.2), (28, .bool (r_2.2 == 0)), (29, .bool true), (30, i6 r_4.2), (31, .bool (r_4.2 == 0)), (32, .bool (r_4.2 == 0)), (33, .bool false), (34, .tup []), (35, .tup []), (36, .bool false), (37, .bool false)]) (by simp) (by kernel_rfl) trivial (by kernel_rfl) ?_
    refine drK (by kernel_rfl) (by kernel_rfl) ?_
    refine drK (by kernel_rfl) (by kernel_rfl) ?_
    refine drK (by kernel_rfl) (by kernel_rfl) ?_
    refine drS [0, 1] 2 [] [] (mkS 56 [(1, .sl (r_2.1.map (AV.int .i64)) none), (2, i6 r_2.2), (3, .ptr 0 0), (4, i6 r_4.2), (5, i6 r_7.1), (6, .ptr 1 0), (7, i6 r_7.2.2), (27, i6 r_2.2), (28, .bool (r_2.2 == 0)), (29, .bool true), (30, i6 r_4.2), (31, .bool (r_4.2 == 0)), (32, .bool (r_4.2 == 0)), (33, .bool false), (34, .tup []), (35, .tup []), (36, .bool false), (37, .bool false), (38, .tup []), (39, .tup []), (40, .tup []), (41, .bool false), (42, .bool false)]) (by simp) (by kernel_rfl) trivial (by kernel_rfl) ?_
    refine drK (by kernel_rfl) (by kernel_rfl) ?_
    refine drK (by kernel_rfl) (by kernel_rfl) ?_
    refine drK (by kernel_rfl) (by kernel_rfl) ?_
    refine drS [0, 1] 2 [] [] (mkS 56 [(1, .sl (r_2.1.map (AV.int .i64)) none), (2, i6 r_2.2), (3, .ptr 0 0), (4, i6 r_4.2), (5, i6 r_7.1), (6, .ptr 1 0), (7, i6 r_7.2.2), (27, i6 r_2.2), (28, .bool (r_2.2 == 0)), (29, .bool true), (30, i6 r_4.2), (31, .bool (r_4.2 == 0)), (32, .bool (r_4.2 == 0)), (33, .bool false), (34, .tup []), (35, .tup []), (36, .bool false), (37, .bool false), (38, .tup []), (39, .tup []), (40, .tup []), (41, .bool false), (42, .bool false), (43, .tup []), (44, .tup []), (45, .tup []), (46, .bool false), (47, .bool false)]) (by simp) (by kernel_rfl) trivial (by kernel_rfl) ?_
    refine drK (by kernel_rfl) (by kernel_rfl) ?_
    refine drK (by kernel_rfl) (by kernel_rfl) ?_
    refine drS [0, 1] 2 [] [] (mkS 56 [(1, .sl (r_2.1.map (AV.int .i64)) none), (2, i6 r_2.2), (3, .ptr 0 0), (4, i6 r_4.2), (5, i6 r_7.1), (6, .ptr 1 0), (7, i6 r_7.2.2), (27, i6 r_2.2), (28, .bool (r_2.2 == 0)), (29, .bool true), (30, i6 r_4.2), (31, .bool (r_4.2 == 0)), (32, .bool (r_4.2 == 0)), (33, .bool false), (34, .tup []), (35, .tup []), (36, .bool false), (37, .bool false), (38, .tup []), (39, .tup []), (40, .tup []), (41, .bool false), (42, .bool false), (43, .tup []), (44, .tup []), (45, .tup []), (46, .bool false), (47, .bool false), (48, .tup []), (49, .tup []), (50, .bool false), (51, .bool false)]) (by simp) (by kernel_rfl) trivial (by kernel_rfl) ?_
    refine drK (by kernel_rfl) (by kernel_rfl) ?_
    refine drK (by kernel_rfl) (by kernel_rfl) ?_
    exact DrO.nil rfl
   ·dsimp only [List.getLastD_cons, List.getLastD_nil]
    refine rn 3 [0] (mkS 56 [(0, .bool false)]) ⟨[(C_Span r_4.1), (C_Span r_7.2.1)], [(3, 1), (3, 1), (3, 1)]⟩ ?_
    refine ExO.nil ?_
    refine Ex.ret ?_
    obtain rfl := sJ h
    exact rt (.bool false)
 ·refine Ex.drawE (a1 := mkS 56 [(1, .sl (r_2.1.map (AV.int .i64)) none), (2, i6 r_2.2), (3, .ptr 0 0), (4, i6 r_4.2), (5, i6 r_7.1), (6, .ptr 1 0), (7, i6 r_7.2.2), (27, i6 r_2.2), (28, .bool (r_2.2 == 0)), (29, .bool false), (30, .tup []), (31, .tup []), (32, .bool false), (33, .bool false), (34, .tup []), (35, .tup []), (36, .bool false), (37, .bool false), (38, .tup []), (39, .tup []), (40, .tup []), (41, .bool false), (42, .bool false), (43, .tup []), (44, .tup []), (45, .tup []), (46, .bool false), (47, .bool false), (48, .tup []), (49, .tup []), (50, .bool false), (51, .bool false), (52, .tup []), (53, .tup [])]) (noClr_ok _) [] [(3, 1)] [] ?_ ?_
  ·refine drS [0, 1] 3 [(2, .eq (.bool false))] [AV.bool (r_2.2 == 0) = AV.bool false] (mkS 56 [(1, .sl (r_2.1.map (AV.int .i64)) none), (2, i6 r_2.2), (3, .ptr 0 0), (4, i6 r_4.2), (5, i6 r_7.1), (6, .ptr 1 0), (7, i6 r_7.2.2), (27, i6 r_2.2), (28, .bool (r_2.2 == 0)), (29, .bool false)]) (by simp) (by kernel_rfl) ⟨congrArg AV.bool hc_8, trivial⟩ (by kernel_rfl) ?_
   refine drK (by kernel_rfl) (by kernel_rfl) ?_
   refine drK (by kernel_rfl) (by kernel_rfl) ?_
   refine drS [0, 1] 2 [] [] (mkS 56 [(1, .sl (r_2.1.map (AV.int .i64)) none), (2, i6 r_2.2), (3, .ptr 0 0), (4, i6 r_4.2), (5, i6 r_7.1), (6, .ptr 1 0), (7, i6 r_7.2.2), (27, i6 r_2.2), (28, .bool (r_2.2 == 0)), (29, .bool false), (30, .tup []), (31, .tup []), (32, .bool false), (33, .bool false)]) (by simp) (by kernel_rfl) trivial (by kernel_rfl) ?_
   refine drK (by kernel_rfl) (by kernel_rfl) ?_
   refine drK (by kernel_rfl) (by kernel_rfl) ?_
   refine drS [0, 1] 2 [] [] (mkS 56 [(1, .sl (r_2.1.map (AV.int .i64)) none), (2, i6 r_2.2), (3, .ptr 0 0), (4, i6 r_4.2), (5, i6 r_7.1), (6, .ptr 1 0), (7, i6 r_7.2.2), (27, i6 r_2.2), (28, .bool (r_2.2 == 0)), (29, .bool false), (30, .tup []), (31, .tup []), (32, .bool false), (33, .bool false), (34, .tup []), (35, .tup []), (36, .bool false), (37, .bool false)]) (by simp) (by kernel_rfl) trivial (by kernel_rfl) ?_
   refine drK (by kernel_rfl) (by kernel_rfl) ?_
   refine drK (by kernel_rfl) (by kernel_rfl) ?_
   refine drK (by kernel_rfl) (by kernel_rfl) ?_
   refine drS [0, 1] 2 [] [] (mkS 56 [(1, .sl (r_2.1.map (AV.int .i64)) none), (2, i6 r_2.2), (3, .ptr 0 0), (4, i6 r_4.2), (5, i6 r_7.1), (6, .ptr 1 0), (7, i6 r_7.2.2), (27, i6 r_2.2), (28, .bool (r_2.2 == 0)), (29, .bool false), (30, .tup []), (31, .tup []), (32, .bool false), (33, .bool false), (34, .tup []), (35, .tup []), (36, .bool false), (37, .bool false), (38, .tup []), (39, .tup []), (40, .tup []), (41, .bool false), (42, .bool false)]) (by simp) (by kernel_rfl) trivial (by kernel_rfl) ?_
   refine drK (by kernel_rfl) (by kernel_rfl) ?_
   refine drK (by kernel_rfl) (by kernel_rfl) ?_
   refine drK (by kernel_rfl) (by kernel_rfl) ?_
   refine drS [0, 1] 2 [] [] (mkS 56 [(1, .sl (r_2.1.map (AV.int .i64)) none), (2, i6 r_2.2), (3, .ptr 0 0), (4, i6 r_4.2), (5, i6 r_7.1), (6, .ptr 1 0), (7, i6 r_7.2.2), (27, i6 r_2.2), (28, .bool (r_2.2 == 0)), (29, .bool false), (30, .tup []), (31, .tup []), (32, .bool false), (33, .bool false), (34, .tup []), (35, .tup []), (36, .bool false), (37, .bool false), (38, .tup []), (39, .tup []), (40, .tup []), (41, .bool false), (42, .bool false), (43, .tup []), (44, .tup []), (45, .tup []), (46, .bool false), (47, .bool false)]) (by simp) (by kernel_rfl) trivial (by kernel_rfl) ?_
   refine drK (by kernel_rfl) (by kernel_rfl) ?_
   refine drK (by kernel_rfl) (by kernel_rfl) ?_
   refine drS [0, 1] 2 [] [] (mkS 56 [(1, .sl (r_2.1.map (AV.int .i64)) none), (2, i6 r_2.2), (3, .ptr 0 0), (4, i6 r_4.2), (5, i6 r_7.1), (6, .ptr 1 0), (7, i6 r_7.2.2), (27, i6 r_2.2), (28, .bool (r_2.2 == 0)), (29, .bool false), (30, .tup []), (31, .tup []), (32, .bool false), (33, .bool false), (34, .tup []), (35, .tup []), (36, .bool false), (37, .bool false), (38, .tup []), (39, .tup []), (40, .tup []), (41, .bool false), (42, .bool false), (43, .tup []), (44, .tup []), (45, .tup []), (46, .bool false), (47, .bool false), (48, .tup []), (49, .tup []), (50, .bool false), (51, .bool false)]) (by simp) (by kernel_rfl) trivial (by kernel_rfl) ?_
   refine drK (by kernel_rfl) (by kernel_rfl) ?_
   refine drK (by kernel_rfl) (by kernel_rfl) ?_
   exact DrO.nil rfl
  ·dsimp only [List.getLastD_cons, List.getLastD_nil]
   refine rn 3 [0] (mkS 56 [(0, .bool false)]) ⟨[(C_Span r_4.1), (C_Span r_7.2.1)], [(3, 1), (3, 1), (3, 1)]⟩ ?_
   refine ExO.nil ?_
   refine Ex.ret ?_
   obtain rfl := sJ h
   exact rt (.bool false)
theorem tb_bk_SchoolOf (N : Nat) (d_1 : T_bk_Drum) (most_2 : Int) (r : T_School × T_bk_Drum) (h : p_bk_SchoolOf N d_1 most_2 = some r) : TokBOk Try.prog ⟨9, [.ptr 0 0, i6 most_2], [(C_bk_Drum d_1)], [(C_bk_Drum r.2)], [i6 r.1.Route], r.1.Wings.map A_Wing, [], r.1.Wings.length, 4⟩ := by
 refine ⟨?_, by simp, by simp [scal], by simp [scal]⟩
 unfold p_bk_SchoolOf at h
 refine DoesTB.of comp9 ?_
 refine Ex.seq (rg 1 [0, 1, 4] (mkS 55 [(0, .ptr 0 0), (1, i6 most_2), (4, .ptr 1 0)]) ⟨[(C_bk_Drum d_1), [i6 0, .nils]], []⟩ ?_)
 refine Ex.seq ?_
 obtain ⟨r_3, hr_3, h⟩ := bE h
 refine Ex.reg (rn 3 [0, 1, 4, 8, 9, 10] (mkS 55 [(0, .ptr 0 0), (1, i6 most_2), (4, .ptr 1 0), (8, .ptr 0 0), (9, .ptr 0 0), (10, .sl (([60, 400, 2000] : List Int).map (AV.int .i64)) (some 0))]) ⟨[(C_bk_Drum d_1), [i6 0, .nils]], [(3, 1)]⟩ ?_)
 refine ExO.callL [0] [.ptr 0 0, .sl (([60, 400, 2000] : List Int).map (AV.int .i64)) (some 0)] rfl rfl (by simp; try rfl) rfl (by simp) (d_bk_Drum_Any N d_1 [60, 400, 2000] r_3 hr_3) (b_bk_Drum_Any _ _ _ _) (by simp) ?_
 obtain ⟨r_4, hr_4, h⟩ := bE h
 refine ExO.callL [0] [.ptr 0 0, i6 1, i6 r_3.1] rfl rfl (by simp; try rfl) rfl (by simp) (d_bk_Drum_Mid N r_3.2 1 r_3.1 r_4 hr_4) (b_bk_Drum_Mid _ _ _ _) (by simp) ?_
 refine rn 3 [0, 1, 4, 5] (mkS 55 [(0, .ptr 0 0), (1, i6 most_2), (4, .ptr 1 0), (5, .ptr 2 0)]) ⟨[(C_bk_Drum r_4.2), [i6 0, .nils], [i6 r_4.1, .nils]], [(3, 1)]⟩ ?_
 refine ExO.nil ?_
 refine Ex.seq (Ex.seq ?_)
 obtain ⟨r_5, hr_5, h⟩ := bE h
 refine Ex.reg (rn 2 [0, 4, 5, 14, 15] (mkS 55 [(0, .ptr 0 0), (4, .ptr 1 0), (5, .ptr 2 0), (14, .ptr 0 0), (15, i6 most_2)]) ⟨[(C_bk_Drum r_4.2), [i6 0, .nils], [i6 r_4.1, .nils]], [(3, 1)]⟩ ?_)
 refine ExO.callL [0] [.ptr 0 0, i6 1, i6 most_2] rfl rfl (by simp; try rfl) rfl (by simp) (d_bk_Drum_Mid N r_4.2 1 most_2 r_5 hr_5) (b_bk_Drum_Mid _ _ _ _) (by simp) ?_
 refine rn 1 [0, 4, 5, 6] (mkS 55 [(0, .ptr 0 0), (4, .ptr 1 0), (5, .ptr 2 0), (6, i6 r_5.1)]) ⟨[(C_bk_Drum r_5.2), [i6 0, .nils], [i6 r_4.1, .nils]], [(3, 1)]⟩ ?_
 refine ExO.nil ?_
 obtain ⟨K_9, hK_10, h⟩ := letE h
 refine Ex.blockJ (fun a S => ∃ (b_6 : Int), ∃ (b_7 : List T_Wing), K_9 b_6 b_7 = some r ∧ a = mkS 55 [(4, .ptr 1 0), (5, .ptr 2 0)] ∧ S = ⟨[[.int .u64 b_6], [i6 0, .nils], [i6 r_4.1, .sl (b_7.map A_Wing) (some 0)]], [(b_7.length, 4)]⟩) ?_ ?_
 ·refine Ex.forget (nilB 2 1 4 [i6 r_4.1, .nils] rfl rfl) ?_
  refine Ex.castA (a2 := mkS 55 [(0, .ptr 0 0), (4, .ptr 1 0), (5, .ptr 2 0), (6, i6 r_5.1)]) (S2 := ⟨[(C_bk_Drum r_5.2), [i6 0, .nils], [i6 r_4.1, .sl (([] : List T_Wing).map A_Wing) (some 1)]], [(3, 1), (0, 4)]⟩) (by kernel_rfl) (by kernel_rfl) ?_
  obtain ⟨B_15, hB_16, h⟩ := loop3I h
  refine Ex.loopF (fun k a S => ∃ (i_11 : Int), ∃ (b_12 : Int), ∃ (b_13 : List T_Wing), loop3 B_15 k i_11 b_12 b_13 = some r ∧ a = mkS 55 [(0, .ptr 0 0), (4, .ptr 1 0), (5, .ptr 2 0), (6, i6 i_11)] ∧ S = ⟨[[.int .u64 b_12], [i6 0, .nils], [i6 r_4.1, .sl (b_13.map A_Wing) (some 0)]], [(b_13.length, 4)]⟩) N ⟨_, _, forgetA (m := 55) 3 [1] [(0, .ptr 0 0), (4, .ptr 1 0), (5, .ptr 2 0), (6, i6 r_5.1)] [(C_bk_Drum r_5.2), [i6 0, .nils], [i6 r_4.1, .sl (([] : List T_Wing).map A_Wing) (some 0)]] [(0, 4)] (by simp [setAll]) (by simp) ⟨rfl, rfl, rfl, rfl, trivial⟩ (by simp) rfl (by decide), r_5.1, r_5.2.beat_, [], h, rfl, rfl⟩ ?_
  rintro k a S ⟨i_11, b_12, b_13, h, rfl, rfl⟩
  cases k with
  | zero => exact (loop3Z h).elim
  | succ k =>
   replace h := loop3S h hB_16
   refine Ex.seq (Ex.seq ?_)
   refine rg 2 [0, 4, 5, 6, 18] (mkS 55 [(0, .ptr 0 0), (4, .ptr 1 0), (5, .ptr 2 0), (6, i6 i_11), (18, .bool (decide (i_11 > 0)))]) ⟨[[.int .u64 b_12], [i6 0, .nils], [i6 r_4.1, .sl (b_13.map A_Wing) (some 0)]], [(b_13.length, 4)]⟩ ?_
   rcases condI h with ⟨hc_17, h⟩ | ⟨hc_17, h⟩
   ·refine Ex.condT _ rfl hc_17 ?_
    refine Ex.skip ?_
    refine Ex.seq ?_
    refine Ex.blockK ?_
    refine Ex.seq ?_
    obtain ⟨r_18, hr_18, h⟩ := bE h
    refine Ex.reg (rn 3 [0, 4, 5, 6, 21, 22, 23] (mkS 55 [(0, .ptr 0 0), (4, .ptr 1 0), (5, .ptr 2 0), (6, i6 i_11), (21, .ptr 0 0), (22, .ptr 0 0), (23, .sl (([5, 40] : List Int).map (AV.int .i64)) (some 1))]) ⟨[[.int .u64 b_12], [i6 0, .nils], [i6 r_4.1, .sl (b_13.map A_Wing) (some 0)]], [(b_13.length, 4), (2, 1)]⟩ ?_)
    refine ExO.callL [0] [.ptr 0 0, .sl (([5, 40] : List Int).map (AV.int .i64)) (some 1)] rfl rfl (by simp; try rfl) rfl (by simp) (d_bk_Drum_Any N (⟨b_12⟩ : T_bk_Drum) [5, 40] r_18 hr_18) (b_bk_Drum_Any _ _ _ _) (by simp) ?_
    obtain ⟨r_19, hr_19, h⟩ := bE h
    refine ExO.callL [0] [.ptr 0 0, i6 1, i6 r_18.1] rfl rfl (by simp; try rfl) rfl (by simp) (d_bk_Drum_Mid N r_18.2 1 r_18.1 r_19 hr_19) (b_bk_Drum_Mid _ _ _ _) (by simp) ?_
    refine rn 1 [0, 4, 5, 6, 7] (mkS 55 [(0, .ptr 0 0), (4, .ptr 1 0), (5, .ptr 2 0), (6, i6 i_11), (7, i6 r_19.1)]) ⟨[(C_bk_Drum r_19.2), [i6 0, .nils], [i6 r_4.1, .sl (b_13.map A_Wing) (some 0)]], [(b_13.length, 4), (2, 1)]⟩ ?_
    refine ExO.nil ?_
    obtain ⟨r_20, hr_20, h⟩ := bE h
    obtain ⟨x_21, hx_21, h⟩ := bE h
    obtain ⟨r_22, hr_22, h⟩ := bE h
    obtain ⟨r_23, hr_23, h⟩ := bE h
    obtain ⟨r_24, hr_24, h⟩ := bE h
    obtain ⟨r_25, hr_25, h⟩ := bE h
    obtain ⟨r_26, hr_26, h⟩ := bE h
    have hT_27 : DoesA Try.prog [⟨36, [], [], (v_bk_wingNames r_20), []⟩, ⟨26, [.ptr 0 0, .sl (([10, 80] : List Int).map (AV.int .i64)) none], [(C_bk_Drum r_19.2)], (v_bk_Drum_Any r_22), [(C_bk_Drum r_22.2)]⟩, ⟨14, [.ptr 0 0, i6 1, i6 r_22.1], [(C_bk_Drum r_22.2)], (v_bk_Drum_Mid r_23), [(C_bk_Drum r_23.2)]⟩, ⟨27, [.ptr 0 0, i6 4], [(C_bk_Drum r_23.2)], (v_bk_Drum_Roll r_24), [(C_bk_Drum r_24.2)]⟩, ⟨27, [.ptr 0 0, i6 30], [(C_bk_Drum r_24.2)], (v_bk_Drum_Roll r_25), [(C_bk_Drum r_25.2)]⟩, ⟨26, [.ptr 0 0, .sl (([0, r_24.1, r_25.1] : List Int).map (AV.int .i64)) none], [(C_bk_Drum r_25.2)], (v_bk_Drum_Any r_26), [(C_bk_Drum r_26.2)]⟩] ∧ ConsA [⟨36, [], [], (v_bk_wingNames r_20), []⟩, ⟨26, [.ptr 0 0, .sl (([10, 80] : List Int).map (AV.int .i64)) none], [(C_bk_Drum r_19.2)], (v_bk_Drum_Any r_22), [(C_bk_Drum r_22.2)]⟩, ⟨14, [.ptr 0 0, i6 1, i6 r_22.1], [(C_bk_Drum r_22.2)], (v_bk_Drum_Mid r_23), [(C_bk_Drum r_23.2)]⟩, ⟨27, [.ptr 0 0, i6 4], [(C_bk_Drum r_23.2)], (v_bk_Drum_Roll r_24), [(C_bk_Drum r_24.2)]⟩, ⟨27, [.ptr 0 0, i6 30], [(C_bk_Drum r_24.2)], (v_bk_Drum_Roll r_25), [(C_bk_Drum r_25.2)]⟩, ⟨26, [.ptr 0 0, .sl (([0, r_24.1, r_25.1] : List Int).map (AV.int .i64)) none], [(C_bk_Drum r_25.2)], (v_bk_Drum_Any r_26), [(C_bk_Drum r_26.2)]⟩] := ⟨⟨(d_bk_wingNames N r_20 hr_20), rfl, (d_bk_Drum_Any N r_19.2 [10, 80] r_22 hr_22), rfl, (d_bk_Drum_Mid N r_22.2 1 r_22.1 r_23 hr_23), rfl, (d_bk_Drum_Roll N r_23.2 4 r_24 hr_24), rfl, (d_bk_Drum_Roll N r_24.2 30 r_25 hr_25), rfl, (d_bk_Drum_Any N r_25.2 [0, r_24.1, r_25.1] r_26 hr_26), rfl, trivial⟩, ⟨⟨ConsR.ne rfl, ConsR.ne rfl, ConsR.ne rfl, ConsR.ne rfl, ConsR.ne rfl, trivial⟩, ⟨ConsR.ne rfl, ConsR.ne rfl, ConsR.ne rfl, k_bk_Drum_Any N r_19.2 [10, 80] r_25.2 [0, r_24.1, r_25.1] r_22 r_26 hr_22 hr_26, trivial⟩, ⟨ConsR.ne rfl, ConsR.ne rfl, ConsR.ne rfl, trivial⟩, ⟨k_bk_Drum_Roll N r_23.2 4 r_24.2 30 r_24 r_25 hr_24 hr_25, ConsR.ne rfl, trivial⟩, ⟨ConsR.ne rfl, trivial⟩, trivial, trivial⟩⟩
    refine Ex.drawE (a1 := mkS 55 [(0, .ptr 0 0), (4, .ptr 1 0), (5, .ptr 2 0), (6, i6 i_11), (7, i6 r_19.1), (26, .ptr 2 1), (27, .sl (b_13.map A_Wing) (some 0)), (28, .sl (r_20.map AV.str) none), (29, .ptr 2 1), (30, .sl (b_13.map A_Wing) (some 0)), (31, i6 ((b_13.length : Nat) : Int)), (32, .rop [.str x_21]), (33, .str x_21), (34, .ptr 0 0), (35, .ptr 0 0), (36, .sl (([10, 80] : List Int).map (AV.int .i64)) (some 2)), (37, i6 r_22.1), (38, i6 r_23.1), (39, i6 r_19.1), (40, i6 r_19.1), (41, .ptr 0 0), (42, .ptr 0 0), (43, i6 r_24.1), (44, .ptr 0 0), (45, i6 r_25.1), (46, .sl (([0, r_24.1, r_25.1] : List Int).map (AV.int .i64)) (some 3)), (47, i6 r_26.1), (48, i6 (IntKind.i64.wrap (r_19.1 + r_26.1))), (49, .agg [i6 r_19.1, i6 (IntKind.i64.wrap (r_19.1 + r_26.1))]), (50, .agg [.str x_21, i6 r_23.1, i6 r_19.1, i6 (IntKind.i64.wrap (r_19.1 + r_26.1))]), (51, .sl (([(⟨x_21, r_23.1, (⟨r_19.1, (IntKind.i64.wrap (r_19.1 + r_26.1))⟩ : T_Span)⟩ : T_Wing)] : List T_Wing).map A_Wing) (some 4))]) (tabO_ok hT_27.1) [] [(2, 1), (3, 1), (1, 4)] [⟨[(C_bk_Drum r_22.2), [i6 0, .nils], [i6 r_4.1, .sl (b_13.map A_Wing) (some 0)]], [(b_13.length, 4), (2, 1), (2, 1), (3, 1), (1, 4)]⟩, ⟨[(C_bk_Drum r_23.2), [i6 0, .nils], [i6 r_4.1, .sl (b_13.map A_Wing) (some 0)]], [(b_13.length, 4), (2, 1), (2, 1), (3, 1), (1, 4)]⟩, ⟨[(C_bk_Drum r_24.2), [i6 0, .nils], [i6 r_4.1, .sl (b_13.map A_Wing) (some 0)]], [(b_13.length, 4), (2, 1), (2, 1), (3, 1), (1, 4)]⟩, ⟨[(C_bk_Drum r_25.2), [i6 0, .nils], [i6 r_4.1, .sl (b_13.map A_Wing) (some 0)]], [(b_13.length, 4), (2, 1), (2, 1), (3, 1), (1, 4)]⟩, ⟨[(C_bk_Drum r_26.2), [i6 0, .nils], [i6 r_4.1, .sl (b_13.map A_Wing) (some 0)]], [(b_13.length, 4), (2, 1), (2, 1), (3, 1), (1, 4)]⟩] ?_ ?_
    ·refine drS [1, 2] 2 [] [] (mkS 55 [(0, .ptr 0 0), (4, .ptr 1 0), (5, .ptr 2 0), (6, i6 i_11), (7, i6 r_19.1), (26, .ptr 2 1), (27, .sl (b_13.map A_Wing) (some 0))]) (by simp) (by kernel_rfl) trivial (by kernel_rfl) ?_
     refine drC hT_27.2 0 _ [] (v_bk_wingNames r_20) rfl rfl rfl rfl rfl (fun _ => rfl) rfl (by simp; try rfl) (fun _ => b_bk_wingNames _ _ _ _) ?_
     refine drS [1, 2] 7 [(2, .eq (i6 ((b_13.length : Nat) : Int))), (3, .rop [.str x_21])] [AV.int .i64 (((b_13.map A_Wing).length : Nat) : Int) = AV.int .i64 ((b_13.length : Nat) : Int), LGet (r_20.map AV.str) ((b_13.length : Nat) : Int) 1 [.str x_21]] (mkS 55 [(0, .ptr 0 0), (4, .ptr 1 0), (5, .ptr 2 0), (6, i6 i_11), (7, i6 r_19.1), (26, .ptr 2 1), (27, .sl (b_13.map A_Wing) (some 0)), (28, .sl (r_20.map AV.str) none), (29, .ptr 2 1), (30, .sl (b_13.map A_Wing) (some 0)), (31, i6 ((b_13.length : Nat) : Int)), (32, .rop [.str x_21]), (33, .str x_21), (34, .ptr 0 0), (35, .ptr 0 0)]) (by simp) (by kernel_rfl) ⟨lenM _ _, LGet.of hx_21 rfl, trivial⟩ (by kernel_rfl) ?_
     refine drR 2 1 (([10, 80] : List Int).map (AV.int .i64)) rfl rfl (fun _ => by kernel_rfl) (by simp) rfl rfl ?_
     refine drB hT_27.2 1 _ [0] [.ptr 0 0, .sl (([10, 80] : List Int).map (AV.int .i64)) (some 2)] (v_bk_Drum_Any r_22) _ _ rfl rfl rfl rfl rfl rfl rfl rfl (by simp; try rfl) rfl (by simp) (b_bk_Drum_Any _ _ _ _) (by simp) rfl ?_
     refine drB hT_27.2 2 _ [0] [.ptr 0 0, i6 1, i6 r_22.1] (v_bk_Drum_Mid r_23) _ _ rfl rfl rfl rfl rfl rfl rfl rfl (by simp; try rfl) rfl (by simp) (b_bk_Drum_Mid _ _ _ _) (by simp) rfl ?_
     refine drS [1, 2] 4 [] [] (mkS 55 [(0, .ptr 0 0), (4, .ptr 1 0), (5, .ptr 2 0), (6, i6 i_11), (7, i6 r_19.1), (26, .ptr 2 1), (27, .sl (b_13.map A_Wing) (some 0)), (28, .sl (r_20.map AV.str) none), (29, .ptr 2 1), (30, .sl (b_13.map A_Wing) (some 0)), (31, i6 ((b_13.length : Nat) : Int)), (32, .rop [.str x_21]), (33, .str x_21), (34, .ptr 0 0), (35, .ptr 0 0), (36, .sl (([10, 80] : List Int).map (AV.int .i64)) (some 2)), (37, i6 r_22.1), (38, i6 r_23.1), (39, i6 r_19.1), (40, i6 r_19.1), (41, .ptr 0 0), (42, .ptr 0 0)]) (by simp) (by kernel_rfl) trivial (by kernel_rfl) ?_
     refine drB hT_27.2 3 _ [0] [.ptr 0 0, i6 4] (v_bk_Drum_Roll r_24) _ _ rfl rfl rfl rfl rfl rfl rfl rfl (by simp; try rfl) rfl (by simp) (b_bk_Drum_Roll _ _ _ _) (by simp) rfl ?_
     refine drS [1, 2] 1 [] [] (mkS 55 [(0, .ptr 0 0), (4, .ptr 1 0), (5, .ptr 2 0), (6, i6 i_11), (7, i6 r_19.1), (26, .ptr 2 1), (27, .sl (b_13.map A_Wing) (some 0)), (28, .sl (r_20.map AV.str) none), (29, .ptr 2 1), (30, .sl (b_13.map A_Wing) (some 0)), (31, i6 ((b_13.length : Nat) : Int)), (32, .rop [.str x_21]), (33, .str x_21), (34, .ptr 0 0), (35, .ptr 0 0), (36, .sl (([10, 80] : List Int).map (AV.int .i64)) (some 2)), (37, i6 r_22.1), (38, i6 r_23.1), (39, i6 r_19.1), (40, i6 r_19.1), (41, .ptr 0 0), (42, .ptr 0 0), (43, i6 r_24.1), (44, .ptr 0 0)]) (by simp) (by kernel_rfl) trivial (by kernel_rfl) ?_
     refine drB hT_27.2 4 _ [0] [.ptr 0 0, i6 30] (v_bk_Drum_Roll r_25) _ _ rfl rfl rfl rfl rfl rfl rfl rfl (by simp; try rfl) rfl (by simp) (b_bk_Drum_Roll _ _ _ _) (by simp) rfl ?_
     refine drR 3 1 (([0, r_24.1, r_25.1] : List Int).map (AV.int .i64)) rfl rfl (fun _ => by kernel_rfl) (by simp) rfl rfl ?_
     refine drB hT_27.2 5 _ [0] [.ptr 0 0, .sl (([0, r_24.1, r_25.1] : List Int).map (AV.int .i64)) (some 3)] (v_bk_Drum_Any r_26) _ _ rfl rfl rfl rfl rfl rfl rfl rfl (by simp; try rfl) rfl (by simp) (b_bk_Drum_Any _ _ _ _) (by simp) rfl ?_
     refine drS [1, 2] 3 [] [] (mkS 55 [(0, .ptr 0 0), (4, .ptr 1 0), (5, .ptr 2 0), (6, i6 i_11), (7, i6 r_19.1), (26, .ptr 2 1), (27, .sl (b_13.map A_Wing) (some 0)), (28, .sl (r_20.map AV.str) none), (29, .ptr 2 1), (30, .sl (b_13.map A_Wing) (some 0)), (31, i6 ((b_13.length : Nat) : Int)), (32, .rop [.str x_21]), (33, .str x_21), (34, .ptr 0 0), (35, .ptr 0 0), (36, .sl (([10, 80] : List Int).map (AV.int .i64)) (some 2)), (37, i6 r_22.1), (38, i6 r_23.1), (39, i6 r_19.1), (40, i6 r_19.1), (41, .ptr 0 0), (42, .ptr 0 0), (43, i6 r_24.1), (44, .ptr 0 0), (45, i6 r_25.1), (46, .sl (([0, r_24.1, r_25.1] : List Int).map (AV.int .i64)) (some 3)), (47, i6 r_26.1), (48, i6 (IntKind.i64.wrap (r_19.1 + r_26.1))), (49, .agg [i6 r_19.1, i6 (IntKind.i64.wrap (r_19.1 + r_26.1))]), (50, .agg [.str x_21, i6 r_23.1, i6 r_19.1, i6 (IntKind.i64.wrap (r_19.1 + r_26.1))])]) (by simp) (by kernel_rfl) trivial (by kernel_rfl) ?_
     refine drR 4 4 (([(⟨x_21, r_23.1, (⟨r_19.1, (IntKind.i64.wrap (r_19.1 + r_26.1))⟩ : T_Span)⟩ : T_Wing)] : List T_Wing).map A_Wing) rfl rfl (fun _ => by kernel_rfl) (by simp) rfl rfl ?_
     exact DrO.nil rfl
    ·dsimp only [List.getLastD_cons, List.getLastD_nil]
     obtain ⟨l_28, hl_28, h⟩ := bE h
     refine runH 3 [(0, .app (l_28.map A_Wing) l_28.length)] [0, 4, 5, 6] [LApp b_13.length (b_13.map A_Wing) (([(⟨x_21, r_23.1, (⟨r_19.1, (IntKind.i64.wrap (r_19.1 + r_26.1))⟩ : T_Span)⟩ : T_Wing)] : List T_Wing).map A_Wing) 4 (l_28.map A_Wing) l_28.length] (mkS 55 [(0, .ptr 0 0), (4, .ptr 1 0), (5, .ptr 2 0), (6, i6 i_11)]) (⟨[(C_bk_Drum r_26.2), [i6 0, .nils], [i6 r_4.1, .sl (l_28.map A_Wing) (some 0)]], [(l_28.length, 4), (2, 1), (2, 1), (3, 1), (1, 4)]⟩) (by kernel_rfl) ⟨LApp.of hl_28 (fun _ => rfl), trivial⟩ ?_
     refine ExO.nil ?_
     refine rg 3 [0, 4, 5, 6] (mkS 55 [(0, .ptr 0 0), (4, .ptr 1 0), (5, .ptr 2 0), (6, i6 (IntKind.i64.wrap (i_11 - 1)))]) ⟨[(C_bk_Drum r_26.2), [i6 0, .nils], [i6 r_4.1, .sl (l_28.map A_Wing) (some 0)]], [(l_28.length, 4), (2, 1), (2, 1), (3, 1), (1, 4)]⟩ ?_
     dsimp only
     exact ⟨_, _, forgetA (m := 55) 3 [0] [(0, .ptr 0 0), (4, .ptr 1 0), (5, .ptr 2 0), (6, i6 (IntKind.i64.wrap (i_11 - 1)))] [(C_bk_Drum r_26.2), [i6 0, .nils], [i6 r_4.1, .sl (l_28.map A_Wing) (some 0)]] [(l_28.length, 4)] (by simp [setAll]) (by simp) ⟨rfl, rfl, rfl, rfl, trivial⟩ (by simp) rfl (by decide), k, Nat.lt_succ_self k, (IntKind.i64.wrap (i_11 - 1)), r_26.2.beat_, l_28, h, rfl, rfl⟩
   ·refine Ex.condF _ rfl hc_17 ?_
    refine Ex.exit ?_
    (try simp only [reduceCtorEq, AEx.ex.injEq, Nat.reduceEqDiff, if_true, if_false])
    exact ⟨_, _, forgetK [4, 5], b_12, b_13, h, rfl, rfl⟩
 ·rintro a S ⟨b_6, b_7, h, rfl, rfl⟩
  subst hK_10
  refine Ex.seq (rg 2 [4] (mkS 55 [(4, .ptr 1 0)]) ⟨[[.int .u64 b_6], [i6 r_4.1, .sl (b_7.map A_Wing) (some 0)], [i6 r_4.1, .sl (b_7.map A_Wing) (some 0)]], [(b_7.length, 4)]⟩ ?_)
  refine Ex.ret ?_
  obtain rfl := sJ h
  exact ⟨.inr rfl, .agg [i6 r_4.1, .sl (b_7.map A_Wing) (some 0)], by kernel_rfl, 0, by kernel_rfl, by kernel_rfl, by kernel_rfl⟩
theorem t_bk_Ints (N : Nat) (l_1 : (List Int)) (r : (List Int)) (h : p_bk_Ints N l_1 = some r) : TokOk Try.prog ⟨23, [.sl (l_1.map (AV.int .i64)) none], r.map (AV.int .i64), r.length, 1⟩ := by
 refine ⟨?_, (cleanI _ _), by simp⟩
 unfold p_bk_Ints at h
 refine DoesT.of comp23 ?_
 refine Ex.seq (rg 1 [0] (mkS 6 [(0, .sl (l_1.map (AV.int .i64)) none)]) ⟨[], []⟩ ?_)
 refine Ex.seq ?_
 obtain ⟨l_2, hl_2, h⟩ := bE h
 refine regH 4 [(2, .apps (l_1.map (AV.int .i64)) (l_2.map (AV.int .i64)) l_2.length)] [2] [LApps 0 (([] : List Int).map (AV.int .i64)) (l_1.map (AV.int .i64)) (l_1.map (AV.int .i64)) 1 (l_2.map (AV.int .i64)) l_2.length] (mkS 6 [(2, .sl (l_2.map (AV.int .i64)) (some 0))]) (⟨[], [(l_2.length, 1)]⟩) (by kernel_rfl) ⟨LApps.of hl_2 (fun _ => rfl) (fun _ => rfl) (fun _ => rfl), trivial⟩ rfl ?_
 refine Ex.ret ?_
 obtain rfl := sJ h
 exact ⟨.inr rfl, .sl (l_2.map (AV.int .i64)) (some 0), by kernel_rfl, 0, by kernel_rfl, by kernel_rfl⟩
theorem k_br1_Front (N : Nat) (s_1 : T_School) (starts_2 : (List Int)) (paces_3 : (List Int)) (wing_4 : Int) (second_5 : Int) (s_1z : T_School) (starts_2z : (List Int)) (paces_3z : (List Int)) (wing_4z : Int) (second_5z : Int) (r s : Int) (hr : p_br1_Front N s_1 starts_2 paces_3 wing_4 second_5 = some r) (hs : p_br1_Front N s_1z starts_2z paces_3z wing_4z second_5z = some s) : ConsR ⟨25, [(A_School s_1), .sl (starts_2.map (AV.int .i64)) none, .sl (paces_3.map (AV.int .i64)) none, i6 wing_4, i6 second_5], [], v_br1_Front r, []⟩ ⟨25, [(A_School s_1z), .sl (starts_2z.map (AV.int .i64)) none, .sl (paces_3z.map (AV.int .i64)) none, i6 wing_4z, i6 second_5z], [], v_br1_Front s, []⟩ := by
 intro _ h1 h2
 have h1 : ([(A_School s_1), .sl (starts_2.map (AV.int .i64)) none, .sl (paces_3.map (AV.int .i64)) none, i6 wing_4, i6 second_5] : List AV) = [(A_School s_1z), .sl (starts_2z.map (AV.int .i64)) none, .sl (paces_3z.map (AV.int .i64)) none, i6 wing_4z, i6 second_5z] := h1
 have h2 : ([] : List (List AV)) = [] := h2
 obtain rfl : s_1 = s_1z := IJ_School _ _ (List.cons.inj h1).1
 obtain rfl : starts_2 = starts_2z := (slInj (intInj _)) _ _ (List.cons.inj (List.cons.inj h1).2).1
 obtain rfl : paces_3 = paces_3z := (slInj (intInj _)) _ _ (List.cons.inj (List.cons.inj (List.cons.inj h1).2).2).1
 obtain rfl : wing_4 = wing_4z := (intInj _) _ _ (List.cons.inj (List.cons.inj (List.cons.inj (List.cons.inj h1).2).2).2).1
 obtain rfl : second_5 = second_5z := (intInj _) _ _ (List.cons.inj (List.cons.inj (List.cons.inj (List.cons.inj (List.cons.inj h1).2).2).2).2).1
 rw [hr] at hs; cases hs; exact ⟨rfl, rfl⟩
def p_bl1_ParadeOpen (N : Nat) (nums_1 : (List Int)) : Option (Bool) := ((p_bk_DrumOf N nums_1).bind fun r_2 => ((p_bk_SchoolOf N r_2 3).bind fun r_3 => (letJ (fun (w_4 : List T_Wing) => ((lenI w_4 r_3.1.Wings.length).bind fun u_21 => ((p_bk_StartsOf N r_3.2 (⟨(if 200 < r_3.1.Route then 200 else r_3.1.Route), w_4⟩ : T_School)).bind fun r_22 => ((p_bk_RulesOf N r_22.2).bind fun r_23 => ((p_parade_Opens N (⟨(if 200 < r_3.1.Route then 200 else r_3.1.Route), w_4⟩ : T_School) r_22.1 r_23.1).bind fun r_24 => ((p_parade_Widest N (⟨(if 200 < r_3.1.Route then 200 else r_3.1.Route), w_4⟩ : T_School) r_22.1).bind fun r_25 => (letJ (fun (y_26 : Bool) => (bif y_26 then some false else (letJ (fun (all_35 : List (List Int)) => (letJ (fun (met_71 : Bool) => (bif met_71 then ((p_bl1_awake N).bind fun r_157 => some r_157) else some false)) (fun k_72 => (loop2 (fun rec_77 (met_75 : Bool) (i_76 : Int) => (bif (decide (i_76 < ((r_24.1.length : Nat) : Int))) then (letJ (fun (met_81 : Bool) => (rec_77 met_81 (IntKind.i64.wrap (i_76 + 1)))) (fun k_82 => (bif (i_76 == 0) then ((getI r_24.1 0).bind fun x_86 => (bif (x_86 != 2) then some false else (k_82 met_75))) else ((p_br1_Watched N (⟨(if 200 < r_3.1.Route then 200 else r_3.1.Route), w_4⟩ : T_School) r_22.1 i_76).bind fun r_88 => (letJ (fun (met_89 : Bool) (some_90 : Bool) (every_91 : Bool) => (letJ (fun (y_148 : Bool) => (bif y_148 then some false else (k_82 met_89))) (fun k_149 => ((getI r_24.1 i_76).bind fun x_152 => (bif (!((x_152 == 1) == every_91)) then (k_149 true) else ((getI r_24.1 i_76).bind fun x_154 => (k_149 (!((x_154 == 2) == (!some_90)))))))))) (fun k_92 => (loop4 (fun rec_99 (met_95 : Bool) (some_96 : Bool) (every_97 : Bool) (k_98 : Int) => (bif (decide (k_98 < ((all_35.length : Nat) : Int))) then (letJ (fun (met_103 : Bool) (some_104 : Bool) (every_105 : Bool) => (rec_99 met_103 some_104 every_105 (IntKind.i64.wrap (k_98 + 1)))) (fun k_106 => (letJ (fun (met_109 : Bool) (wide_110 : Bool) => (bif some_96 then (bif every_97 then (k_106 met_109 true wide_110) else (k_106 met_109 true false)) else (bif every_97 then (k_106 met_109 wide_110 wide_110) else (k_106 met_109 wide_110 false)))) (fun k_111 => (loop3 (fun rec_117 (met_114 : Bool) (wide_115 : Bool) (t_116 : Int) => (bif (decide (t_116 < r_88.2)) then ((getI all_35 k_98).bind fun x_121 => ((p_br1_Front N (⟨(if 200 < r_3.1.Route then 200 else r_3.1.Route), w_4⟩ : T_School) r_22.1 x_121 (IntKind.i64.wrap (i_76 - 1)) t_116).bind fun r_122 => ((getI w_4 (IntKind.i64.wrap (i_76 - 1))).bind fun x_123 => ((getI all_35 k_98).bind fun x_124 => ((p_br1_Front N (⟨(if 200 < r_3.1.Route then 200 else r_3.1.Route), w_4⟩ : T_School) r_22.1 x_124 i_76 t_116).bind fun r_125 => (letJ (fun (wide_127 : Bool) => (letJ (fun (met_132 : Bool) => (letJ (fun (y_139 : Bool) => (bif y_139 then some false else (rec_117 met_132 wide_127 (IntKind.i64.wrap (t_116 + 1))))) (fun k_140 => (bif (decide ((IntKind.i64.wrap ((IntKind.i64.wrap (r_122 - x_123.Length)) - r_125)) > r_25.2.2.1)) then (k_140 true) else (k_140 (decide ((IntKind.i64.wrap ((IntKind.i64.wrap (r_122 - x_123.Length)) - r_125)) < 0))))))) (fun k_133 => (bif met_114 then (k_133 true) else (bif (i_76 == r_25.1) then (bif (t_116 == r_25.2.1) then (k_133 ((IntKind.i64.wrap ((IntKind.i64.wrap (r_122 - x_123.Length)) - r_125)) == r_25.2.2.1)) else (k_133 false)) else (k_133 false)))))) (fun k_128 => (bif wide_115 then (k_128 true) else (k_128 (decide ((IntKind.i64.wrap ((IntKind.i64.wrap (r_122 - x_123.Length)) - r_125)) > r_23.1.Gap))))))))))) else (k_111 met_114 wide_115))) N met_95 false r_88.1))))) else (k_92 met_95 some_96 every_97))) N met_75 false true 0))))))) else (k_72 met_75))) N (r_25.1 == (-1)) 0)))) (fun k_36 => (loop2 (fun rec_41 (all_39 : List (List Int)) (i_40 : Int) => (bif (decide (i_40 < ((w_4.length : Nat) : Int))) then (letJ (fun (next_45 : List (List Int)) => (rec_41 next_45 (IntKind.i64.wrap (i_40 + 1)))) (fun k_46 => (loop2 (fun rec_51 (next_49 : List (List Int)) (k_50 : Int) => (bif (decide (k_50 < ((all_39.length : Nat) : Int))) then ((getI w_4 i_40).bind fun x_55 => (letJ (fun (next_56 : List (List Int)) => (rec_51 next_56 (IntKind.i64.wrap (k_50 + 1)))) (fun k_57 => (loop2 (fun rec_62 (next_60 : List (List Int)) (p_61 : Int) => ((getI w_4 i_40).bind fun x_65 => (bif (decide (p_61 ≤ x_65.Pace.Hi)) then ((getI all_39 k_50).bind fun x_67 => ((p_bk_Ints N x_67).bind fun r_68 => ((pushI r_68 ([p_61] : List Int)).bind fun l_69 => ((pushI next_60 ([l_69] : List (List Int))).bind fun l_70 => (rec_62 l_70 (IntKind.i64.wrap (p_61 + 1))))))) else (k_57 next_60)))) N next_49 x_55.Pace.Lo)))) else (k_46 next_49))) N [] 0))) else (k_36 all_39))) N [[]] 0))))) (fun k_27 => (bif (r_24.2 != 0) then (k_27 true) else (bif (r_25.2.2.2 != 0) then (k_27 true) else (bif (((r_24.1.length : Nat) : Int) != ((w_4.length : Nat) : Int)) then (k_27 true) else (bif (!((r_25.1 == (-1)) == (r_25.2.2.1 == 0))) then (k_27 true) else (k_27 (!((r_25.1 == (-1)) == (r_25.2.1 == (-1))))))))))))))))) (fun k_5 => (loop2 (fun rec_10 (i_8 : Int) (w_9 : List T_Wing) => (bif (decide (i_8 < ((r_3.1.Wings.length : Nat) : Int))) then ((idxI i_8 r_3.1.Wings.length).bind fun u_14 => ((w_9[Int.toNat i_8]?).bind fun x_15 => ((idxI i_8 r_3.1.Wings.length).bind fun u_16 => ((w_9[Int.toNat i_8]?).bind fun x_17 => ((idxI i_8 r_3.1.Wings.length).bind fun u_18 => ((setI w_9 i_8 (fun (y_19 : T_Wing) => (⟨y_19.Name, y_19.Length, (⟨y_19.Pace.Lo, (if (IntKind.i64.wrap (x_17.Pace.Lo + 3)) < x_15.Pace.Hi then (IntKind.i64.wrap (x_17.Pace.Lo + 3)) else x_15.Pace.Hi)⟩ : T_Span)⟩ : T_Wing))).bind fun z_20 => (rec_10 (IntKind.i64.wrap (i_8 + 1)) z_20))))))) else (k_5 w_9))) N 0 r_3.1.Wings)))))
def v_bl1_ParadeOpen (r : Bool) : AV := .bool r
attribute [local simp] v_bl1_ParadeOpen
theorem d_bl1_ParadeOpen (N : Nat) (nums_1 : (List Int)) (r : Bool) (h : p_bl1_ParadeOpen N nums_1 = some r) : Does Try.prog 4 [.sl (nums_1.map (AV.int .i64)) none] [] fun v c => v = v_bl1_ParadeOpen r ∧ c = [] := by
 unfold p_bl1_ParadeOpen at h
 refine Does.ofL comp4 _ _ rfl rfl ?_
 refine Ex.seq (rg 1 [0] (mkS 278 [(0, .sl (nums_1.map (AV.int .i64)) none)]) ⟨[], []⟩ ?_)
 refine Ex.seq ?_
 obtain ⟨r_2, hr_2, h⟩ := bE h
 refine Ex.reg (rn 1 [29] (mkS 278 [(29, .sl (nums_1.map (AV.int .i64)) none)]) ⟨[], []⟩ ?_)
 refine ExO.callL (v' := .ptr 0 0) [] [.sl (nums_1.map (AV.int .i64)) none] rfl rfl (a_bk_DrumOf nums_1) rfl rfl (d_bk_DrumOf N nums_1 r_2 hr_2) rfl (by simp) ?_
 refine rn 1 [3] (mkS 278 [(3, .ptr 0 0)]) ⟨[(C_bk_Drum r_2)], []⟩ ?_
 refine ExO.nil ?_
 refine Ex.seq ?_
 obtain ⟨r_3, hr_3, h⟩ := bE h
 refine Ex.reg (rn 1 [3, 31] (mkS 278 [(3, .ptr 0 0), (31, .ptr 0 0)]) ⟨[(C_bk_Drum r_2)], []⟩ ?_)
 refine ExO.callMsB (tb_bk_SchoolOf N r_2 3 r_3 hr_3) (show 0 < 4 by decide) (map_cells (f := A_Wing) (s := 4) (fun _ => rfl) _) (flat_scal (f := A_Wing) (fun _ => rfl) _) [0] [.ptr 0 0, i6 3] rfl rfl (by simp; try rfl) rfl (by simp) (by simp) ?_
 refine rn 2 [3, 4] (mkS 278 [(3, .ptr 0 0), (4, .ptr 2 0)]) ⟨[(C_bk_Drum r_3.2), (flat (r_3.1.Wings.map A_Wing)), [i6 r_3.1.Route, .ms 1 r_3.1.Wings.length 4]], []⟩ ?_
 refine ExO.nil ?_
 refine Ex.seq (rg 5 [3, 4] (mkS 278 [(3, .ptr 0 0), (4, .ptr 2 0)]) ⟨[(C_bk_Drum r_3.2), (flat (r_3.1.Wings.map A_Wing)), [i6 (if 200 < r_3.1.Route then 200 else r_3.1.Route), .ms 1 r_3.1.Wings.length 4]], []⟩ ?_)
 refine Ex.seq (Ex.seq ?_)
 refine rg 1 [3, 4, 5] (mkS 278 [(3, .ptr 0 0), (4, .ptr 2 0), (5, i6 0)]) ⟨[(C_bk_Drum r_3.2), (flat (r_3.1.Wings.map A_Wing)), [i6 (if 200 < r_3.1.Route then 200 else r_3.1.Route), .ms 1 r_3.1.Wings.length 4]], []⟩ ?_
 obtain ⟨K_6, hK_7, h⟩ := letE h
 refine Ex.blockJ (fun a S => ∃ (w_4 : List T_Wing), K_6 w_4 = some r ∧ a = mkS 278 [(3, .ptr 0 0), (4, .ptr 2 0)] ∧ S = ⟨[(C_bk_Drum r_3.2), (flat (w_4.map A_Wing)), [i6 (if 200 < r_3.1.Route then 200 else r_3.1.Route), .ms 1 r_3.1.Wings.length 4]], []⟩) ?_ ?_
 ·obtain ⟨B_11, hB_12, h⟩ := loop2I h
  refine Ex.loopF (fun k a S => ∃ (i_8 : Int), ∃ (w_9 : List T_Wing), loop2 B_11 k i_8 w_9 = some r ∧ a = mkS 278 [(3, .ptr 0 0), (4, .ptr 2 0), (5, i6 i_8)] ∧ S = ⟨[(C_bk_Drum r_3.2), (flat (w_9.map A_Wing)), [i6 (if 200 < r_3.1.Route then 200 else r_3.1.Route), .ms 1 r_3.1.Wings.length 4]], []⟩) N ⟨_, _, Forgets.refl _ _ _, 0, r_3.1.Wings, h, rfl, rfl⟩ ?_
  rintro k a S ⟨i_8, w_9, h, rfl, rfl⟩
  cases k with
  | zero => exact (loop2Z h).elim
  | succ k =>
   replace h := loop2S h hB_12
   refine Ex.seq (Ex.seq ?_)
   refine rg 5 [3, 4, 5, 41] (mkS 278 [(3, .ptr 0 0), (4, .ptr 2 0), (5, i6 i_8), (41, .bool (decide (i_8 < ((r_3.1.Wings.length : Nat) : Int))))]) ⟨[(C_bk_Drum r_3.2), (flat (w_9.map A_Wing)), [i6 (if 200 < r_3.1.Route then 200 else r_3.1.Route), .ms 1 r_3.1.Wings.length 4]], []⟩ ?_
   rcases condI h with ⟨hc_13, h⟩ | ⟨hc_13, h⟩
   ·refine Ex.condT _ rfl hc_13 ?_
    refine Ex.skip ?_
    refine Ex.seq ?_
    refine Ex.blockK ?_
    obtain ⟨u_14, hu_14, h⟩ := bE h
    obtain ⟨x_15, hx_15, h⟩ := bE h
    obtain ⟨u_16, hu_16, h⟩ := bE h
    obtain ⟨x_17, hx_17, h⟩ := bE h
    refine Ex.drawE (a1 := mkS 278 [(3, .ptr 0 0), (4, .ptr 2 0), (5, i6 i_8), (41, .bool (decide (i_8 < ((r_3.1.Wings.length : Nat) : Int)))), (44, .ptr 2 1), (45, .ms 1 r_3.1.Wings.length 4), (46, i6 i_8), (47, .ptr 2 1), (48, .ms 1 r_3.1.Wings.length 4), (49, i6 i_8), (50, .ptr 1 (0 + Int.toNat i_8 * 4)), (51, .ptr 1 (0 + Int.toNat i_8 * 4 + 2)), (52, .ptr 1 (0 + Int.toNat i_8 * 4 + 2 + 1)), (53, i6 x_15.Pace.Hi), (54, .ptr 2 1), (55, .ms 1 r_3.1.Wings.length 4), (56, i6 i_8), (57, .ptr 1 (0 + Int.toNat i_8 * 4)), (58, .ptr 1 (0 + Int.toNat i_8 * 4 + 2)), (59, .ptr 1 (0 + Int.toNat i_8 * 4 + 2 + 0)), (60, i6 x_17.Pace.Lo), (61, i6 (IntKind.i64.wrap (x_17.Pace.Lo + 3))), (62, i6 (if (IntKind.i64.wrap (x_17.Pace.Lo + 3)) < x_15.Pace.Hi then (IntKind.i64.wrap (x_17.Pace.Lo + 3)) else x_15.Pace.Hi))]) (noClr_ok _) [] [] [] ?_ ?_
    ·refine drS [0, 1, 2] 19 [(6, .adm), (9, .ld (i6 x_15.Pace.Hi)), (13, .adm), (16, .ld (i6 x_17.Pace.Lo))] [0 ≤ i_8 ∧ i_8 < ((r_3.1.Wings.length : Nat) : Int), takeCells (flat (w_9.map A_Wing)) (0 + Int.toNat i_8 * 4 + 2 + 1) none = some (i6 x_15.Pace.Hi), 0 ≤ i_8 ∧ i_8 < ((r_3.1.Wings.length : Nat) : Int), takeCells (flat (w_9.map A_Wing)) (0 + Int.toNat i_8 * 4 + 2 + 0) none = some (i6 x_17.Pace.Lo)] (mkS 278 [(3, .ptr 0 0), (4, .ptr 2 0), (5, i6 i_8), (41, .bool (decide (i_8 < ((r_3.1.Wings.length : Nat) : Int)))), (44, .ptr 2 1), (45, .ms 1 r_3.1.Wings.length 4), (46, i6 i_8), (47, .ptr 2 1), (48, .ms 1 r_3.1.Wings.length 4), (49, i6 i_8), (50, .ptr 1 (0 + Int.toNat i_8 * 4)), (51, .ptr 1 (0 + Int.toNat i_8 * 4 + 2)), (52, .ptr 1 (0 + Int.toNat i_8 * 4 + 2 + 1)), (53, i6 x_15.Pace.Hi), (54, .ptr 2 1), (55, .ms 1 r_3.1.Wings.length 4), (56, i6 i_8), (57, .ptr 1 (0 + Int.toNat i_8 * 4)), (58, .ptr 1 (0 + Int.toNat i_8 * 4 + 2)), (59, .ptr 1 (0 + Int.toNat i_8 * 4 + 2 + 0)), (60, i6 x_17.Pace.Lo), (61, i6 (IntKind.i64.wrap (x_17.Pace.Lo + 3))), (62, i6 (if (IntKind.i64.wrap (x_17.Pace.Lo + 3)) < x_15.Pace.Hi then (IntKind.i64.wrap (x_17.Pace.Lo + 3)) else x_15.Pace.Hi))]) (by simp) (by kernel_rfl) ⟨idxI.of hu_14, ldFl (f := A_Wing) (s := 4) w_9 _ 3 i_8 x_15 (i6 x_15.Pace.Hi) (fun _ => rfl) hx_15 rfl (by omega), idxI.of hu_16, ldFl (f := A_Wing) (s := 4) w_9 _ 2 i_8 x_17 (i6 x_17.Pace.Lo) (fun _ => rfl) hx_17 rfl (by omega), trivial⟩ (by kernel_rfl) ?_
     exact DrO.nil rfl
    ·dsimp only [List.getLastD_cons, List.getLastD_nil]
     obtain ⟨u_18, hu_18, h⟩ := bE h
     obtain ⟨z_20, hz_20, h⟩ := bE h
     refine runH 4 [(0, .adm), (3, .st (flat (z_20.map A_Wing)))] [3, 4, 5] [0 ≤ i_8 ∧ i_8 < ((r_3.1.Wings.length : Nat) : Int), 0 + Int.toNat i_8 * 4 + 2 + 1 + 1 ≤ ((flat (w_9.map A_Wing))).length ∧ layAt (flat (w_9.map A_Wing)) (0 + Int.toNat i_8 * 4 + 2 + 1) [i6 (if (IntKind.i64.wrap (x_17.Pace.Lo + 3)) < x_15.Pace.Hi then (IntKind.i64.wrap (x_17.Pace.Lo + 3)) else x_15.Pace.Hi)] = (flat (z_20.map A_Wing))] (mkS 278 [(3, .ptr 0 0), (4, .ptr 2 0), (5, i6 i_8)]) (⟨[(C_bk_Drum r_3.2), (flat (z_20.map A_Wing)), [i6 (if 200 < r_3.1.Route then 200 else r_3.1.Route), .ms 1 r_3.1.Wings.length 4]], []⟩) (by kernel_rfl) ⟨idxI.of hu_18, stFl (f := A_Wing) (s := 4) _ 3 1 i_8 (fun (y_19 : T_Wing) => (⟨y_19.Name, y_19.Length, (⟨y_19.Pace.Lo, (if (IntKind.i64.wrap (x_17.Pace.Lo + 3)) < x_15.Pace.Hi then (IntKind.i64.wrap (x_17.Pace.Lo + 3)) else x_15.Pace.Hi)⟩ : T_Span)⟩ : T_Wing)) _ (fun _ => rfl) hz_20 rfl (by decide) (by omega) (fun _ => rfl), trivial⟩ ?_
     refine ExO.nil ?_
     refine rg 3 [3, 4, 5] (mkS 278 [(3, .ptr 0 0), (4, .ptr 2 0), (5, i6 (IntKind.i64.wrap (i_8 + 1)))]) ⟨[(C_bk_Drum r_3.2), (flat (z_20.map A_Wing)), [i6 (if 200 < r_3.1.Route then 200 else r_3.1.Route), .ms 1 r_3.1.Wings.length 4]], []⟩ ?_
     dsimp only
     exact ⟨_, _, Forgets.refl _ _ _, k, Nat.lt_succ_self k, (IntKind.i64.wrap (i_8 + 1)), z_20, h, rfl, rfl⟩
   ·refine Ex.condF _ rfl hc_13 ?_
    refine Ex.exit ?_
    (try simp only [reduceCtorEq, AEx.ex.injEq, Nat.reduceEqDiff, if_true, if_false])
    exact ⟨_, _, forgetK [3, 4], w_9, h, rfl, rfl⟩
 ·rintro a S ⟨w_4, h, rfl, rfl⟩
  subst hK_7
  refine Ex.seq ?_
  obtain ⟨u_21, hu_21, h⟩ := bE h
  refine Ex.forget (chillX (f := A_Wing) 1 2 1 r_3.1.Wings.length 4 w_4 [i6 (if 200 < r_3.1.Route then 200 else r_3.1.Route), .ms 1 r_3.1.Wings.length 4] hu_21 rfl (fun _ => rfl) rfl (by decide) rfl) ?_
  refine Ex.castA (a2 := mkS 278 [(3, .ptr 0 0), (4, .ptr 2 0)]) (S2 := ⟨[(C_bk_Drum r_3.2), [], [i6 (if 200 < r_3.1.Route then 200 else r_3.1.Route), .sl (w_4.map A_Wing) none]], []⟩) (by kernel_rfl) (by kernel_rfl) ?_
  obtain ⟨r_22, hr_22, h⟩ := bE h
  refine Ex.reg (rn 2 [3, 4, 66, 67] (mkS 278 [(3, .ptr 0 0), (4, .ptr 2 0), (66, .ptr 0 0), (67, .agg [i6 (if 200 < r_3.1.Route then 200 else r_3.1.Route), .sl (w_4.map A_Wing) none])]) ⟨[(C_bk_Drum r_3.2), [], [i6 (if 200 < r_3.1.Route then 200 else r_3.1.Route), .sl (w_4.map A_Wing) none]], []⟩ ?_)
  refine ExO.callL [0] [.ptr 0 0, .agg [i6 (if 200 < r_3.1.Route then 200 else r_3.1.Route), .sl (w_4.map A_Wing) none]] rfl rfl (by simp; try rfl) rfl (by simp) (d_bk_StartsOf N r_3.2 (⟨(if 200 < r_3.1.Route then 200 else r_3.1.Route), w_4⟩ : T_School) r_22 hr_22) (b_bk_StartsOf _ _ _ _) (by simp) ?_
  obtain ⟨r_23, hr_23, h⟩ := bE h
  refine rn 1 [4, 68, 69] (mkS 278 [(4, .ptr 2 0), (68, .sl (r_22.1.map (AV.int .i64)) none), (69, .ptr 0 0)]) ⟨[(C_bk_Drum r_22.2), [], [i6 (if 200 < r_3.1.Route then 200 else r_3.1.Route), .sl (w_4.map A_Wing) none]], []⟩ ?_
  refine ExO.callL [0] [.ptr 0 0] rfl rfl (by simp; try rfl) rfl (by simp) (d_bk_RulesOf N r_22.2 r_23 hr_23) (b_bk_RulesOf _ _ _ _) (by simp) ?_
  refine rn 3 [4, 6, 7] (mkS 278 [(4, .ptr 2 0), (6, .sl (r_22.1.map (AV.int .i64)) none), (7, .ptr 3 0)]) ⟨[(C_bk_Drum r_23.2), [], [i6 (if 200 < r_3.1.Route then 200 else r_3.1.Route), .sl (w_4.map A_Wing) none], (C_Rules r_23.1)], []⟩ ?_
  refine ExO.nil ?_
  refine Ex.seq ?_
  obtain ⟨r_24, hr_24, h⟩ := bE h
  refine Ex.reg (rn 3 [4, 6, 7, 72, 73, 74] (mkS 278 [(4, .ptr 2 0), (6, .sl (r_22.1.map (AV.int .i64)) none), (7, .ptr 3 0), (72, .agg [i6 (if 200 < r_3.1.Route then 200 else r_3.1.Route), .sl (w_4.map A_Wing) none]), (73, .sl (r_22.1.map (AV.int .i64)) none), (74, (A_Rules r_23.1))]) ⟨[(C_bk_Drum r_23.2), [], [i6 (if 200 < r_3.1.Route then 200 else r_3.1.Route), .sl (w_4.map A_Wing) none], (C_Rules r_23.1)], []⟩ ?_)
  refine ExO.callL [] [.agg [i6 (if 200 < r_3.1.Route then 200 else r_3.1.Route), .sl (w_4.map A_Wing) none], .sl (r_22.1.map (AV.int .i64)) none, (A_Rules r_23.1)] rfl rfl (a_parade_Opens (⟨(if 200 < r_3.1.Route then 200 else r_3.1.Route), w_4⟩ : T_School) r_22.1 r_23.1) rfl rfl (d_parade_Opens N (⟨(if 200 < r_3.1.Route then 200 else r_3.1.Route), w_4⟩ : T_School) r_22.1 r_23.1 r_24 hr_24) (b_parade_Opens _ _ _ _) rfl ?_
  refine rn 5 [4, 6, 7, 8, 9] (mkS 278 [(4, .ptr 2 0), (6, .sl (r_22.1.map (AV.int .i64)) none), (7, .ptr 3 0), (8, .sl (r_24.1.map (AV.int .i64)) none), (9, i6 r_24.2)]) ⟨[(C_bk_Drum r_23.2), [], [i6 (if 200 < r_3.1.Route then 200 else r_3.1.Route), .sl (w_4.map A_Wing) none], (C_Rules r_23.1)], []⟩ ?_
  refine ExO.nil ?_
  refine Ex.seq ?_
  obtain ⟨r_25, hr_25, h⟩ := bE h
  refine Ex.reg (rn 2 [4, 6, 7, 8, 9, 79, 80] (mkS 278 [(4, .ptr 2 0), (6, .sl (r_22.1.map (AV.int .i64)) none), (7, .ptr 3 0), (8, .sl (r_24.1.map (AV.int .i64)) none), (9, i6 r_24.2), (79, .agg [i6 (if 200 < r_3.1.Route then 200 else r_3.1.Route), .sl (w_4.map A_Wing) none]), (80, .sl (r_22.1.map (AV.int .i64)) none)]) ⟨[(C_bk_Drum r_23.2), [], [i6 (if 200 < r_3.1.Route then 200 else r_3.1.Route), .sl (w_4.map A_Wing) none], (C_Rules r_23.1)], []⟩ ?_)
  refine ExO.callL [] [.agg [i6 (if 200 < r_3.1.Route then 200 else r_3.1.Route), .sl (w_4.map A_Wing) none], .sl (r_22.1.map (AV.int .i64)) none] rfl rfl (a_parade_Widest (⟨(if 200 < r_3.1.Route then 200 else r_3.1.Route), w_4⟩ : T_School) r_22.1) rfl rfl (d_parade_Widest N (⟨(if 200 < r_3.1.Route then 200 else r_3.1.Route), w_4⟩ : T_School) r_22.1 r_25 hr_25) (b_parade_Widest _ _ _ _) rfl ?_
  refine rn 9 [4, 6, 7, 8, 9, 10, 11, 12, 13] (mkS 278 [(4, .ptr 2 0), (6, .sl (r_22.1.map (AV.int .i64)) none), (7, .ptr 3 0), (8, .sl (r_24.1.map (AV.int .i64)) none), (9, i6 r_24.2), (10, i6 r_25.1), (11, i6 r_25.2.1), (12, i6 r_25.2.2.1), (13, i6 r_25.2.2.2)]) ⟨[(C_bk_Drum r_23.2), [], [i6 (if 200 < r_3.1.Route then 200 else r_3.1.Route), .sl (w_4.map A_Wing) none], (C_Rules r_23.1)], []⟩ ?_
  refine ExO.nil ?_
  refine Ex.seq ?_
  obtain ⟨K_28, hK_29, h⟩ := letE h
  refine Ex.seqJ (fun a S => ∃ (y_26 : Bool), K_28 y_26 = some r ∧ a = mkS 278 [(4, .ptr 2 0), (6, .sl (r_22.1.map (AV.int .i64)) none), (7, .ptr 3 0), (8, .sl (r_24.1.map (AV.int .i64)) none), (10, i6 r_25.1), (11, i6 r_25.2.1), (12, i6 r_25.2.2.1), (113, .bool y_26)] ∧ S = ⟨[(C_bk_Drum r_23.2), [], [i6 (if 200 < r_3.1.Route then 200 else r_3.1.Route), .sl (w_4.map A_Wing) none], (C_Rules r_23.1)], []⟩) ?_ ?_
  ·rcases condI h with ⟨hc_30, h⟩ | ⟨hc_30, h⟩
   ·refine regH 28 [(2, .eq (.bool true))] [4, 6, 7, 8, 10, 11, 12, 113] [AV.bool (r_24.2 != 0) = AV.bool true] (mkS 278 [(4, .ptr 2 0), (6, .sl (r_22.1.map (AV.int .i64)) none), (7, .ptr 3 0), (8, .sl (r_24.1.map (AV.int .i64)) none), (10, i6 r_25.1), (11, i6 r_25.2.1), (12, i6 r_25.2.2.1), (113, .bool true)]) (⟨[(C_bk_Drum r_23.2), [], [i6 (if 200 < r_3.1.Route then 200 else r_3.1.Route), .sl (w_4.map A_Wing) none], (C_Rules r_23.1)], []⟩) (by kernel_rfl) ⟨congrArg AV.bool hc_30, trivial⟩ rfl ?_
    (try simp only [reduceCtorEq, AEx.ex.injEq, Nat.reduceEqDiff, if_true, if_false])
    exact ⟨_, _, Forgets.refl _ _ _, true, h, rfl, rfl⟩
   ·rcases condI h with ⟨hc_31, h⟩ | ⟨hc_31, h⟩
    ·refine regH 28 [(2, .eq (.bool false)), (6, .eq (.bool true))] [4, 6, 7, 8, 10, 11, 12, 113] [AV.bool (r_24.2 != 0) = AV.bool false, AV.bool (r_25.2.2.2 != 0) = AV.bool true] (mkS 278 [(4, .ptr 2 0), (6, .sl (r_22.1.map (AV.int .i64)) none), (7, .ptr 3 0), (8, .sl (r_24.1.map (AV.int .i64)) none), (10, i6 r_25.1), (11, i6 r_25.2.1), (12, i6 r_25.2.2.1), (113, .bool true)]) (⟨[(C_bk_Drum r_23.2), [], [i6 (if 200 < r_3.1.Route then 200 else r_3.1.Route), .sl (w_4.map A_Wing) none], (C_Rules r_23.1)], []⟩) (by kernel_rfl) ⟨congrArg AV.bool hc_30, congrArg AV.bool hc_31, trivial⟩ rfl ?_
     (try simp only [reduceCtorEq, AEx.ex.injEq, Nat.reduceEqDiff, if_true, if_false])
     exact ⟨_, _, Forgets.refl _ _ _, true, h, rfl, rfl⟩
    ·rcases condI h with ⟨hc_32, h⟩ | ⟨hc_32, h⟩
     ·refine regH 28 [(2, .eq (.bool false)), (6, .eq (.bool false)), (8, .eq (i6 ((r_24.1.length : Nat) : Int))), (11, .eq (i6 ((w_4.length : Nat) : Int))), (14, .eq (.bool true))] [4, 6, 7, 8, 10, 11, 12, 113] [AV.bool (r_24.2 != 0) = AV.bool false, AV.bool (r_25.2.2.2 != 0) = AV.bool false, AV.int .i64 (((r_24.1.map (AV.int .i64)).length : Nat) : Int) = AV.int .i64 ((r_24.1.length : Nat) : Int), AV.int .i64 (((w_4.map A_Wing).length : Nat) : Int) = AV.int .i64 ((w_4.length : Nat) : Int), AV.bool (((r_24.1.length : Nat) : Int) != ((w_4.length : Nat) : Int)) = AV.bool true] (mkS 278 [(4, .ptr 2 0), (6, .sl (r_22.1.map (AV.int .i64)) none), (7, .ptr 3 0), (8, .sl (r_24.1.map (AV.int .i64)) none), (10, i6 r_25.1), (11, i6 r_25.2.1), (12, i6 r_25.2.2.1), (113, .bool true)]) (⟨[(C_bk_Drum r_23.2), [], [i6 (if 200 < r_3.1.Route then 200 else r_3.1.Route), .sl (w_4.map A_Wing) none], (C_Rules r_23.1)], []⟩) (by kernel_rfl) ⟨congrArg AV.bool hc_30, congrArg AV.bool hc_31, lenM _ _, lenM _ _, congrArg AV.bool hc_32, trivial⟩ rfl ?_
      (try simp only [reduceCtorEq, AEx.ex.injEq, Nat.reduceEqDiff, if_true, if_false])
      exact ⟨_, _, Forgets.refl _ _ _, true, h, rfl, rfl⟩
     ·rcases condI h with ⟨hc_33, h⟩ | ⟨hc_33, h⟩
      ·refine regH 28 [(2, .eq (.bool false)), (6, .eq (.bool false)), (8, .eq (i6 ((r_24.1.length : Nat) : Int))), (11, .eq (i6 ((w_4.length : Nat) : Int))), (14, .eq (.bool false)), (21, .eq (.bool true))] [4, 6, 7, 8, 10, 11, 12, 113] [AV.bool (r_24.2 != 0) = AV.bool false, AV.bool (r_25.2.2.2 != 0) = AV.bool false, AV.int .i64 (((r_24.1.map (AV.int .i64)).length : Nat) : Int) = AV.int .i64 ((r_24.1.length : Nat) : Int), AV.int .i64 (((w_4.map A_Wing).length : Nat) : Int) = AV.int .i64 ((w_4.length : Nat) : Int), AV.bool (((r_24.1.length : Nat) : Int) != ((w_4.length : Nat) : Int)) = AV.bool false, AV.bool (!((r_25.1 == (-1)) == (r_25.2.2.1 == 0))) = AV.bool true] (mkS 278 [(4, .ptr 2 0), (6, .sl (r_22.1.map (AV.int .i64)) none), (7, .ptr 3 0), (8, .sl (r_24.1.map (AV.int .i64)) none), (10, i6 r_25.1), (11, i6 r_25.2.1), (12, i6 r_25.2.2.1), (113, .bool true)]) (⟨[(C_bk_Drum r_23.2), [], [i6 (if 200 < r_3.1.Route then 200 else r_3.1.Route), .sl (w_4.map A_Wing) none], (C_Rules r_23.1)], []⟩) (by kernel_rfl) ⟨congrArg AV.bool hc_30, congrArg AV.bool hc_31, lenM _ _, lenM _ _, congrArg AV.bool hc_32, congrArg AV.bool hc_33, trivial⟩ rfl ?_
       (try simp only [reduceCtorEq, AEx.ex.injEq, Nat.reduceEqDiff, if_true, if_false])
       exact ⟨_, _, Forgets.refl _ _ _, true, h, rfl, rfl⟩
      ·refine regH 28 [(2, .eq (.bool false)), (6, .eq (.bool false)), (8, .eq (i6 ((r_24.1.length : Nat) : Int))), (11, .eq (i6 ((w_4.length : Nat) : Int))), (14, .eq (.bool false)), (21, .eq (.bool false))] [4, 6, 7, 8, 10, 11, 12, 113] [AV.bool (r_24.2 != 0) = AV.bool false, AV.bool (r_25.2.2.2 != 0) = AV.bool false, AV.int .i64 (((r_24.1.map (AV.int .i64)).length : Nat) : Int) = AV.int .i64 ((r_24.1.length : Nat) : Int), AV.int .i64 (((w_4.map A_Wing).length : Nat) : Int) = AV.int .i64 ((w_4.length : Nat) : Int), AV.bool (((r_24.1.length : Nat) : Int) != ((w_4.length : Nat) : Int)) = AV.bool false, AV.bool (!((r_25.1 == (-1)) == (r_25.2.2.1 == 0))) = AV.bool false] (mkS 278 [(4, .ptr 2 0), (6, .sl (r_22.1.map (AV.int .i64)) none), (7, .ptr 3 0), (8, .sl (r_24.1.map (AV.int .i64)) none), (10, i6 r_25.1), (11, i6 r_25.2.1), (12, i6 r_25.2.2.1), (113, .bool (!((r_25.1 == (-1)) == (r_25.2.1 == (-1)))))]) (⟨[(C_bk_Drum r_23.2), [], [i6 (if 200 < r_3.1.Route then 200 else r_3.1.Route), .sl (w_4.map A_Wing) none], (C_Rules r_23.1)], []⟩) (by kernel_rfl) ⟨congrArg AV.bool hc_30, congrArg AV.bool hc_31, lenM _ _, lenM _ _, congrArg AV.bool hc_32, congrArg AV.bool hc_33, trivial⟩ rfl ?_
       (try simp only [reduceCtorEq, AEx.ex.injEq, Nat.reduceEqDiff, if_true, if_false])
       exact ⟨_, _, Forgets.refl _ _ _, (!((r_25.1 == (-1)) == (r_25.2.1 == (-1)))), h, rfl, rfl⟩
  ·rintro a S ⟨y_26, h, rfl, rfl⟩
   subst hK_29
   rcases condI h with ⟨hc_34, h⟩ | ⟨hc_34, h⟩
   ·refine Ex.condT _ rfl hc_34 ?_
    refine Ex.seq (rg 1 [2] (mkS 278 [(2, .bool false)]) ⟨[(C_bk_Drum r_23.2), [], [i6 (if 200 < r_3.1.Route then 200 else r_3.1.Route), .sl (w_4.map A_Wing) none], (C_Rules r_23.1)], []⟩ ?_)
    refine Ex.ret ?_
    obtain rfl := sJ h
    exact rt (.bool false)
   ·refine Ex.condF _ rfl hc_34 ?_
    refine Ex.skip ?_
    refine Ex.seq ?_
    refine Ex.postF ?_
    refine rg 2 [4, 6, 7, 8, 10, 11, 12, 14] (mkS 278 [(4, .ptr 2 0), (6, .sl (r_22.1.map (AV.int .i64)) none), (7, .ptr 3 0), (8, .sl (r_24.1.map (AV.int .i64)) none), (10, i6 r_25.1), (11, i6 r_25.2.1), (12, i6 r_25.2.2.1), (14, .sl [.nils] (some 0))]) ⟨[(C_bk_Drum r_23.2), [], [i6 (if 200 < r_3.1.Route then 200 else r_3.1.Route), .sl (w_4.map A_Wing) none], (C_Rules r_23.1)], [(1, 1)]⟩ ?_
    refine ⟨mkS 278 [(4, .ptr 2 0), (6, .sl (r_22.1.map (AV.int .i64)) none), (7, .ptr 3 0), (8, .sl (r_24.1.map (AV.int .i64)) none), (10, i6 r_25.1), (11, i6 r_25.2.1), (12, i6 r_25.2.2.1), (14, .sl (([[]] : List (List Int)).map (SV (AV.int .i64))) (some 0))], ⟨[(C_bk_Drum r_23.2), [], [i6 (if 200 < r_3.1.Route then 200 else r_3.1.Route), .sl (w_4.map A_Wing) none], (C_Rules r_23.1)], [(1, 1)]⟩, Forgets.castR (by kernel_rfl) rfl (fadeE 14 [.nils] (some 0) rfl), ?_⟩
    refine Ex.seq (Ex.seq ?_)
    refine rg 1 [4, 6, 7, 8, 10, 11, 12, 14, 15] (mkS 278 [(4, .ptr 2 0), (6, .sl (r_22.1.map (AV.int .i64)) none), (7, .ptr 3 0), (8, .sl (r_24.1.map (AV.int .i64)) none), (10, i6 r_25.1), (11, i6 r_25.2.1), (12, i6 r_25.2.2.1), (14, .sl (([[]] : List (List Int)).map (SV (AV.int .i64))) (some 0)), (15, i6 0)]) ⟨[(C_bk_Drum r_23.2), [], [i6 (if 200 < r_3.1.Route then 200 else r_3.1.Route), .sl (w_4.map A_Wing) none], (C_Rules r_23.1)], [(1, 1)]⟩ ?_
    obtain ⟨K_37, hK_38, h⟩ := letE h
    refine Ex.blockJ (fun a S => ∃ (all_35 : List (List Int)), K_37 all_35 = some r ∧ a = mkS 278 [(4, .ptr 2 0), (6, .sl (r_22.1.map (AV.int .i64)) none), (7, .ptr 3 0), (8, .sl (r_24.1.map (AV.int .i64)) none), (10, i6 r_25.1), (11, i6 r_25.2.1), (12, i6 r_25.2.2.1), (14, .sl (all_35.map (SV (AV.int .i64))) (some 0))] ∧ S = ⟨[(C_bk_Drum r_23.2), [], [i6 (if 200 < r_3.1.Route then 200 else r_3.1.Route), .sl (w_4.map A_Wing) none], (C_Rules r_23.1)], [(all_35.length, 1)]⟩) ?_ ?_
    ·obtain ⟨B_42, hB_43, h⟩ := loop2I h
     refine Ex.loopF (fun k a S => ∃ (all_39 : List (List Int)), ∃ (i_40 : Int), loop2 B_42 k all_39 i_40 = some r ∧ a = mkS 278 [(4, .ptr 2 0), (6, .sl (r_22.1.map (AV.int .i64)) none), (7, .ptr 3 0), (8, .sl (r_24.1.map (AV.int .i64)) none), (10, i6 r_25.1), (11, i6 r_25.2.1), (12, i6 r_25.2.2.1), (14, .sl (all_39.map (SV (AV.int .i64))) (some 0)), (15, i6 i_40)] ∧ S = ⟨[(C_bk_Drum r_23.2), [], [i6 (if 200 < r_3.1.Route then 200 else r_3.1.Route), .sl (w_4.map A_Wing) none], (C_Rules r_23.1)], [(all_39.length, 1)]⟩) N ⟨_, _, Forgets.refl _ _ _, [[]], 0, h, rfl, rfl⟩ ?_
     rintro k a S ⟨all_39, i_40, h, rfl, rfl⟩
     cases k with
     | zero => exact (loop2Z h).elim
     | succ k =>
      replace h := loop2S h hB_43
      refine Ex.seq (Ex.seq ?_)
      refine regH 5 [(3, .eq (i6 ((w_4.length : Nat) : Int)))] [4, 6, 7, 8, 10, 11, 12, 14, 15, 119] [AV.int .i64 (((w_4.map A_Wing).length : Nat) : Int) = AV.int .i64 ((w_4.length : Nat) : Int)] (mkS 278 [(4, .ptr 2 0), (6, .sl (r_22.1.map (AV.int .i64)) none), (7, .ptr 3 0), (8, .sl (r_24.1.map (AV.int .i64)) none), (10, i6 r_25.1), (11, i6 r_25.2.1), (12, i6 r_25.2.2.1), (14, .sl (all_39.map (SV (AV.int .i64))) (some 0)), (15, i6 i_40), (119, .bool (decide (i_40 < ((w_4.length : Nat) : Int))))]) (⟨[(C_bk_Drum r_23.2), [], [i6 (if 200 < r_3.1.Route then 200 else r_3.1.Route), .sl (w_4.map A_Wing) none], (C_Rules r_23.1)], [(all_39.length, 1)]⟩) (by kernel_rfl) ⟨lenM _ _, trivial⟩ rfl ?_
      rcases condI h with ⟨hc_44, h⟩ | ⟨hc_44, h⟩
      ·refine Ex.condT _ rfl hc_44 ?_
       refine Ex.skip ?_
       refine Ex.seq ?_
       refine Ex.blockK ?_
       refine Ex.seq (rg 1 [4, 6, 7, 8, 10, 11, 12, 14, 15, 16] (mkS 278 [(4, .ptr 2 0), (6, .sl (r_22.1.map (AV.int .i64)) none), (7, .ptr 3 0), (8, .sl (r_24.1.map (AV.int .i64)) none), (10, i6 r_25.1), (11, i6 r_25.2.1), (12, i6 r_25.2.2.1), (14, .sl (all_39.map (SV (AV.int .i64))) (some 0)), (15, i6 i_40), (16, .nils)]) ⟨[(C_bk_Drum r_23.2), [], [i6 (if 200 < r_3.1.Route then 200 else r_3.1.Route), .sl (w_4.map A_Wing) none], (C_Rules r_23.1)], [(all_39.length, 1)]⟩ ?_)
       refine Ex.seq (Ex.seq ?_)
       refine rg 1 [4, 6, 7, 8, 10, 11, 12, 14, 15, 16, 17] (mkS 278 [(4, .ptr 2 0), (6, .sl (r_22.1.map (AV.int .i64)) none), (7, .ptr 3 0), (8, .sl (r_24.1.map (AV.int .i64)) none), (10, i6 r_25.1), (11, i6 r_25.2.1), (12, i6 r_25.2.2.1), (14, .sl (all_39.map (SV (AV.int .i64))) (some 0)), (15, i6 i_40), (16, .nils), (17, i6 0)]) ⟨[(C_bk_Drum r_23.2), [], [i6 (if 200 < r_3.1.Route then 200 else r_3.1.Route), .sl (w_4.map A_Wing) none], (C_Rules r_23.1)], [(all_39.length, 1)]⟩ ?_
       obtain ⟨K_47, hK_48, h⟩ := letE h
       refine Ex.blockJ (fun a S => ∃ (next_45 : List (List Int)), K_47 next_45 = some r ∧ a = mkS 278 [(4, .ptr 2 0), (6, .sl (r_22.1.map (AV.int .i64)) none), (7, .ptr 3 0), (8, .sl (r_24.1.map (AV.int .i64)) none), (10, i6 r_25.1), (11, i6 r_25.2.1), (12, i6 r_25.2.2.1), (15, i6 i_40), (16, .sl (next_45.map (SV (AV.int .i64))) (some 0))] ∧ S = ⟨[(C_bk_Drum r_23.2), [], [i6 (if 200 < r_3.1.Route then 200 else r_3.1.Route), .sl (w_4.map A_Wing) none], (C_Rules r_23.1)], [(next_45.length, 1)]⟩) ?_ ?_
       ·refine Ex.forget (nilK 16 1 rfl) ?_
        refine Ex.castA (a2 := mkS 278 [(4, .ptr 2 0), (6, .sl (r_22.1.map (AV.int .i64)) none), (7, .ptr 3 0), (8, .sl (r_24.1.map (AV.int .i64)) none), (10, i6 r_25.1), (11, i6 r_25.2.1), (12, i6 r_25.2.2.1), (14, .sl (all_39.map (SV (AV.int .i64))) (some 0)), (15, i6 i_40), (16, .sl (([] : List (List Int)).map (SV (AV.int .i64))) (some 1)), (17, i6 0)]) (S2 := ⟨[(C_bk_Drum r_23.2), [], [i6 (if 200 < r_3.1.Route then 200 else r_3.1.Route), .sl (w_4.map A_Wing) none], (C_Rules r_23.1)], [(all_39.length, 1), (0, 1)]⟩) (by kernel_rfl) (by kernel_rfl) ?_
        obtain ⟨B_52, hB_53, h⟩ := loop2I h
        refine Ex.loopF (fun k a S => ∃ (next_49 : List (List Int)), ∃ (k_50 : Int), loop2 B_52 k next_49 k_50 = some r ∧ a = mkS 278 [(4, .ptr 2 0), (6, .sl (r_22.1.map (AV.int .i64)) none), (7, .ptr 3 0), (8, .sl (r_24.1.map (AV.int .i64)) none), (10, i6 r_25.1), (11, i6 r_25.2.1), (12, i6 r_25.2.2.1), (14, .sl (all_39.map (SV (AV.int .i64))) (some 0)), (15, i6 i_40), (16, .sl (next_49.map (SV (AV.int .i64))) (some 1)), (17, i6 k_50)] ∧ S = ⟨[(C_bk_Drum r_23.2), [], [i6 (if 200 < r_3.1.Route then 200 else r_3.1.Route), .sl (w_4.map A_Wing) none], (C_Rules r_23.1)], [(all_39.length, 1), (next_49.length, 1)]⟩) N ⟨_, _, Forgets.refl _ _ _, [], 0, h, rfl, rfl⟩ ?_
        rintro k a S ⟨next_49, k_50, h, rfl, rfl⟩
        cases k with
        | zero => exact (loop2Z h).elim
        | succ k =>
         replace h := loop2S h hB_53
         refine Ex.seq (Ex.seq ?_)
         refine regH 4 [(2, .eq (i6 ((all_39.length : Nat) : Int)))] [4, 6, 7, 8, 10, 11, 12, 14, 15, 16, 17, 125] [AV.int .i64 (((all_39.map (SV (AV.int .i64))).length : Nat) : Int) = AV.int .i64 ((all_39.length : Nat) : Int)] (mkS 278 [(4, .ptr 2 0), (6, .sl (r_22.1.map (AV.int .i64)) none), (7, .ptr 3 0), (8, .sl (r_24.1.map (AV.int .i64)) none), (10, i6 r_25.1), (11, i6 r_25.2.1), (12, i6 r_25.2.2.1), (14, .sl (all_39.map (SV (AV.int .i64))) (some 0)), (15, i6 i_40), (16, .sl (next_49.map (SV (AV.int .i64))) (some 1)), (17, i6 k_50), (125, .bool (decide (k_50 < ((all_39.length : Nat) : Int))))]) (⟨[(C_bk_Drum r_23.2), [], [i6 (if 200 < r_3.1.Route then 200 else r_3.1.Route), .sl (w_4.map A_Wing) none], (C_Rules r_23.1)], [(all_39.length, 1), (next_49.length, 1)]⟩) (by kernel_rfl) ⟨lenM _ _, trivial⟩ rfl ?_
         rcases condI h with ⟨hc_54, h⟩ | ⟨hc_54, h⟩
         ·refine Ex.condT _ rfl hc_54 ?_
          refine Ex.skip ?_
          refine Ex.seq ?_
          refine Ex.blockK ?_
          refine Ex.seq ?_
          obtain ⟨x_55, hx_55, h⟩ := bE h
          refine regH 8 [(3, .rop (C_Wing x_55))] [4, 6, 7, 8, 10, 11, 12, 14, 15, 16, 17, 18] [LGet (w_4.map A_Wing) i_40 4 (C_Wing x_55)] (mkS 278 [(4, .ptr 2 0), (6, .sl (r_22.1.map (AV.int .i64)) none), (7, .ptr 3 0), (8, .sl (r_24.1.map (AV.int .i64)) none), (10, i6 r_25.1), (11, i6 r_25.2.1), (12, i6 r_25.2.2.1), (14, .sl (all_39.map (SV (AV.int .i64))) (some 0)), (15, i6 i_40), (16, .sl (next_49.map (SV (AV.int .i64))) (some 1)), (17, i6 k_50), (18, i6 x_55.Pace.Lo)]) (⟨[(C_bk_Drum r_23.2), [], [i6 (if 200 < r_3.1.Route then 200 else r_3.1.Route), .sl (w_4.map A_Wing) none], (C_Rules r_23.1)], [(all_39.length, 1), (next_49.length, 1)]⟩) (by kernel_rfl) ⟨LGet.of hx_55 rfl, trivial⟩ rfl ?_
          obtain ⟨K_58, hK_59, h⟩ := letE h
          refine Ex.blockJ (fun a S => ∃ (next_56 : List (List Int)), K_58 next_56 = some r ∧ a = mkS 278 [(4, .ptr 2 0), (6, .sl (r_22.1.map (AV.int .i64)) none), (7, .ptr 3 0), (8, .sl (r_24.1.map (AV.int .i64)) none), (10, i6 r_25.1), (11, i6 r_25.2.1), (12, i6 r_25.2.2.1), (14, .sl (all_39.map (SV (AV.int .i64))) (some 0)), (15, i6 i_40), (16, .sl (next_56.map (SV (AV.int .i64))) (some 1)), (17, i6 k_50)] ∧ S = ⟨[(C_bk_Drum r_23.2), [], [i6 (if 200 < r_3.1.Route then 200 else r_3.1.Route), .sl (w_4.map A_Wing) none], (C_Rules r_23.1)], [(all_39.length, 1), (next_56.length, 1)]⟩) ?_ ?_
          ·obtain ⟨B_63, hB_64, h⟩ := loop2I h
           refine Ex.loopF (fun k a S => ∃ (next_60 : List (List Int)), ∃ (p_61 : Int), loop2 B_63 k next_60 p_61 = some r ∧ a = mkS 278 [(4, .ptr 2 0), (6, .sl (r_22.1.map (AV.int .i64)) none), (7, .ptr 3 0), (8, .sl (r_24.1.map (AV.int .i64)) none), (10, i6 r_25.1), (11, i6 r_25.2.1), (12, i6 r_25.2.2.1), (14, .sl (all_39.map (SV (AV.int .i64))) (some 0)), (15, i6 i_40), (16, .sl (next_60.map (SV (AV.int .i64))) (some 1)), (17, i6 k_50), (18, i6 p_61)] ∧ S = ⟨[(C_bk_Drum r_23.2), [], [i6 (if 200 < r_3.1.Route then 200 else r_3.1.Route), .sl (w_4.map A_Wing) none], (C_Rules r_23.1)], [(all_39.length, 1), (next_60.length, 1)]⟩) N ⟨_, _, Forgets.refl _ _ _, next_49, x_55.Pace.Lo, h, rfl, rfl⟩ ?_
           rintro k a S ⟨next_60, p_61, h, rfl, rfl⟩
           cases k with
           | zero => exact (loop2Z h).elim
           | succ k =>
            replace h := loop2S h hB_64
            refine Ex.seq (Ex.seq ?_)
            obtain ⟨x_65, hx_65, h⟩ := bE h
            refine regH 9 [(4, .rop (C_Wing x_65))] [4, 6, 7, 8, 10, 11, 12, 14, 15, 16, 17, 18, 143] [LGet (w_4.map A_Wing) i_40 4 (C_Wing x_65)] (mkS 278 [(4, .ptr 2 0), (6, .sl (r_22.1.map (AV.int .i64)) none), (7, .ptr 3 0), (8, .sl (r_24.1.map (AV.int .i64)) none), (10, i6 r_25.1), (11, i6 r_25.2.1), (12, i6 r_25.2.2.1), (14, .sl (all_39.map (SV (AV.int .i64))) (some 0)), (15, i6 i_40), (16, .sl (next_60.map (SV (AV.int .i64))) (some 1)), (17, i6 k_50), (18, i6 p_61), (143, .bool (decide (p_61 ≤ x_65.Pace.Hi)))]) (⟨[(C_bk_Drum r_23.2), [], [i6 (if 200 < r_3.1.Route then 200 else r_3.1.Route), .sl (w_4.map A_Wing) none], (C_Rules r_23.1)], [(all_39.length, 1), (next_60.length, 1)]⟩) (by kernel_rfl) ⟨LGet.of hx_65 rfl, trivial⟩ rfl ?_
            rcases condI h with ⟨hc_66, h⟩ | ⟨hc_66, h⟩
            ·refine Ex.condT _ rfl hc_66 ?_
             refine Ex.skip ?_
             refine Ex.seq ?_
             refine Ex.blockK ?_
             refine Ex.postF ?_
             obtain ⟨x_67, hx_67, h⟩ := bE h
             obtain ⟨r_68, hr_68, h⟩ := bE h
             refine Ex.reg ?_
             refine runH 5 [(3, .rop [.sl (x_67.map (AV.int .i64)) none])] [4, 6, 7, 8, 10, 11, 12, 14, 15, 17, 18, 146, 150] [LGet (all_39.map (SV (AV.int .i64))) k_50 1 [.sl (x_67.map (AV.int .i64)) none]] (mkS 278 [(4, .ptr 2 0), (6, .sl (r_22.1.map (AV.int .i64)) none), (7, .ptr 3 0), (8, .sl (r_24.1.map (AV.int .i64)) none), (10, i6 r_25.1), (11, i6 r_25.2.1), (12, i6 r_25.2.2.1), (14, .sl (all_39.map (SV (AV.int .i64))) (some 0)), (15, i6 i_40), (17, i6 k_50), (18, i6 p_61), (146, .sl (next_60.map (SV (AV.int .i64))) (some 1)), (150, .sl (x_67.map (AV.int .i64)) none)]) (⟨[(C_bk_Drum r_23.2), [], [i6 (if 200 < r_3.1.Route then 200 else r_3.1.Route), .sl (w_4.map A_Wing) none], (C_Rules r_23.1)], [(all_39.length, 1), (next_60.length, 1)]⟩) (by kernel_rfl) ⟨LGet.of hx_67 rfl, trivial⟩ ?_
             refine ExO.callTok (t_bk_Ints N x_67 r_68 hr_68) [.sl (x_67.map (AV.int .i64)) none] rfl rfl rfl (by simp) ?_
             obtain ⟨l_69, hl_69, h⟩ := bE h
             obtain ⟨l_70, hl_70, h⟩ := bE h
             refine runH 6 [(2, .app (l_69.map (AV.int .i64)) l_69.length), (4, .app (l_70.map (SV (AV.int .i64))) l_70.length)] [4, 6, 7, 8, 10, 11, 12, 14, 15, 16, 17, 18] [LApp r_68.length (r_68.map (AV.int .i64)) (([p_61] : List Int).map (AV.int .i64)) 1 (l_69.map (AV.int .i64)) l_69.length, LApp next_60.length (next_60.map (SV (AV.int .i64))) (([l_69] : List (List Int)).map (SV (AV.int .i64))) 1 (l_70.map (SV (AV.int .i64))) l_70.length] (mkS 278 [(4, .ptr 2 0), (6, .sl (r_22.1.map (AV.int .i64)) none), (7, .ptr 3 0), (8, .sl (r_24.1.map (AV.int .i64)) none), (10, i6 r_25.1), (11, i6 r_25.2.1), (12, i6 r_25.2.2.1), (14, .sl (all_39.map (SV (AV.int .i64))) (some 0)), (15, i6 i_40), (16, .sl (l_70.map (SV (AV.int .i64))) (some 1)), (17, i6 k_50), (18, i6 p_61)]) (⟨[(C_bk_Drum r_23.2), [], [i6 (if 200 < r_3.1.Route then 200 else r_3.1.Route), .sl (w_4.map A_Wing) none], (C_Rules r_23.1)], [(all_39.length, 1), (l_70.length, 1), (l_69.length, 1), (1, 1), (1, 1)]⟩) (by kernel_rfl) ⟨LApp.of hl_69 (fun _ => rfl), LApp.of hl_70 (fun _ => rfl), trivial⟩ ?_
             refine ExO.nil ?_
             refine ⟨mkS 278 [(4, .ptr 2 0), (6, .sl (r_22.1.map (AV.int .i64)) none), (7, .ptr 3 0), (8, .sl (r_24.1.map (AV.int .i64)) none), (10, i6 r_25.1), (11, i6 r_25.2.1), (12, i6 r_25.2.2.1), (14, .sl (all_39.map (SV (AV.int .i64))) (some 0)), (15, i6 i_40), (16, .sl (l_70.map (SV (AV.int .i64))) (some 1)), (17, i6 k_50), (18, i6 p_61)], ⟨[(C_bk_Drum r_23.2), [], [i6 (if 200 < r_3.1.Route then 200 else r_3.1.Route), .sl (w_4.map A_Wing) none], (C_Rules r_23.1)], [(all_39.length, 1), (l_70.length, 1), (l_69.length, 1), (1, 1), (1, 1)]⟩, Forgets.refl _ _ _, ?_⟩
             refine rg 3 [4, 6, 7, 8, 10, 11, 12, 14, 15, 16, 17, 18] (mkS 278 [(4, .ptr 2 0), (6, .sl (r_22.1.map (AV.int .i64)) none), (7, .ptr 3 0), (8, .sl (r_24.1.map (AV.int .i64)) none), (10, i6 r_25.1), (11, i6 r_25.2.1), (12, i6 r_25.2.2.1), (14, .sl (all_39.map (SV (AV.int .i64))) (some 0)), (15, i6 i_40), (16, .sl (l_70.map (SV (AV.int .i64))) (some 1)), (17, i6 k_50), (18, i6 (IntKind.i64.wrap (p_61 + 1)))]) ⟨[(C_bk_Drum r_23.2), [], [i6 (if 200 < r_3.1.Route then 200 else r_3.1.Route), .sl (w_4.map A_Wing) none], (C_Rules r_23.1)], [(all_39.length, 1), (l_70.length, 1), (l_69.length, 1), (1, 1), (1, 1)]⟩ ?_
             dsimp only
             exact ⟨_, _, forgetA (m := 278) 4 [0, 1] [(4, .ptr 2 0), (6, .sl (r_22.1.map (AV.int .i64)) none), (7, .ptr 3 0), (8, .sl (r_24.1.map (AV.int .i64)) none), (10, i6 r_25.1), (11, i6 r_25.2.1), (12, i6 r_25.2.2.1), (14, .sl (all_39.map (SV (AV.int .i64))) (some 0)), (15, i6 i_40), (16, .sl (l_70.map (SV (AV.int .i64))) (some 1)), (17, i6 k_50), (18, i6 (IntKind.i64.wrap (p_61 + 1)))] [(C_bk_Drum r_23.2), [], [i6 (if 200 < r_3.1.Route then 200 else r_3.1.Route), .sl (w_4.map A_Wing) none], (C_Rules r_23.1)] [(all_39.length, 1), (l_70.length, 1)] (by simp [setAll]) (by simp) ⟨rfl, (reN (cleanI _ _)), rfl, (reN (cleanI _ _)), rfl, rfl, rfl, (reT (cleanII _ _) rfl), rfl, (reT (cleanII _ _) rfl), rfl, rfl, trivial⟩ (by simp) rfl (by decide), k, Nat.lt_succ_self k, l_70, (IntKind.i64.wrap (p_61 + 1)), h, rfl, rfl⟩
            ·refine Ex.condF _ rfl hc_66 ?_
             refine Ex.exit ?_
             (try simp only [reduceCtorEq, AEx.ex.injEq, Nat.reduceEqDiff, if_true, if_false])
             exact ⟨_, _, forgetK [4, 6, 7, 8, 10, 11, 12, 14, 15, 16, 17], next_60, h, rfl, rfl⟩
          ·rintro a S ⟨next_56, h, rfl, rfl⟩
           subst hK_59
           refine rg 3 [4, 6, 7, 8, 10, 11, 12, 14, 15, 16, 17] (mkS 278 [(4, .ptr 2 0), (6, .sl (r_22.1.map (AV.int .i64)) none), (7, .ptr 3 0), (8, .sl (r_24.1.map (AV.int .i64)) none), (10, i6 r_25.1), (11, i6 r_25.2.1), (12, i6 r_25.2.2.1), (14, .sl (all_39.map (SV (AV.int .i64))) (some 0)), (15, i6 i_40), (16, .sl (next_56.map (SV (AV.int .i64))) (some 1)), (17, i6 (IntKind.i64.wrap (k_50 + 1)))]) ⟨[(C_bk_Drum r_23.2), [], [i6 (if 200 < r_3.1.Route then 200 else r_3.1.Route), .sl (w_4.map A_Wing) none], (C_Rules r_23.1)], [(all_39.length, 1), (next_56.length, 1)]⟩ ?_
           dsimp only
           exact ⟨_, _, Forgets.refl _ _ _, k, Nat.lt_succ_self k, next_56, (IntKind.i64.wrap (k_50 + 1)), h, rfl, rfl⟩
         ·refine Ex.condF _ rfl hc_54 ?_
          refine Ex.exit ?_
          (try simp only [reduceCtorEq, AEx.ex.injEq, Nat.reduceEqDiff, if_true, if_false])
          exact ⟨_, _, forgetA (m := 278) 4 [1] [(4, .ptr 2 0), (6, .sl (r_22.1.map (AV.int .i64)) none), (7, .ptr 3 0), (8, .sl (r_24.1.map (AV.int .i64)) none), (10, i6 r_25.1), (11, i6 r_25.2.1), (12, i6 r_25.2.2.1), (15, i6 i_40), (16, .sl (next_49.map (SV (AV.int .i64))) (some 0))] [(C_bk_Drum r_23.2), [], [i6 (if 200 < r_3.1.Route then 200 else r_3.1.Route), .sl (w_4.map A_Wing) none], (C_Rules r_23.1)] [(next_49.length, 1)] (by simp [setAll]) (by simp) ⟨rfl, (reN (cleanI _ _)), rfl, (reN (cleanI _ _)), rfl, rfl, rfl, rfl, (reT (cleanII _ _) rfl), trivial⟩ (by simp) rfl (by decide), next_49, h, rfl, rfl⟩
       ·rintro a S ⟨next_45, h, rfl, rfl⟩
        subst hK_48
        refine rg 2 [4, 6, 7, 8, 10, 11, 12, 14, 15] (mkS 278 [(4, .ptr 2 0), (6, .sl (r_22.1.map (AV.int .i64)) none), (7, .ptr 3 0), (8, .sl (r_24.1.map (AV.int .i64)) none), (10, i6 r_25.1), (11, i6 r_25.2.1), (12, i6 r_25.2.2.1), (14, .sl (next_45.map (SV (AV.int .i64))) (some 0)), (15, i6 i_40)]) ⟨[(C_bk_Drum r_23.2), [], [i6 (if 200 < r_3.1.Route then 200 else r_3.1.Route), .sl (w_4.map A_Wing) none], (C_Rules r_23.1)], [(next_45.length, 1)]⟩ ?_
        refine rg 3 [4, 6, 7, 8, 10, 11, 12, 14, 15] (mkS 278 [(4, .ptr 2 0), (6, .sl (r_22.1.map (AV.int .i64)) none), (7, .ptr 3 0), (8, .sl (r_24.1.map (AV.int .i64)) none), (10, i6 r_25.1), (11, i6 r_25.2.1), (12, i6 r_25.2.2.1), (14, .sl (next_45.map (SV (AV.int .i64))) (some 0)), (15, i6 (IntKind.i64.wrap (i_40 + 1)))]) ⟨[(C_bk_Drum r_23.2), [], [i6 (if 200 < r_3.1.Route then 200 else r_3.1.Route), .sl (w_4.map A_Wing) none], (C_Rules r_23.1)], [(next_45.length, 1)]⟩ ?_
        dsimp only
        exact ⟨_, _, Forgets.refl _ _ _, k, Nat.lt_succ_self k, next_45, (IntKind.i64.wrap (i_40 + 1)), h, rfl, rfl⟩
      ·refine Ex.condF _ rfl hc_44 ?_
       refine Ex.exit ?_
       (try simp only [reduceCtorEq, AEx.ex.injEq, Nat.reduceEqDiff, if_true, if_false])
       exact ⟨_, _, forgetK [4, 6, 7, 8, 10, 11, 12, 14], all_39, h, rfl, rfl⟩
    ·rintro a S ⟨all_35, h, rfl, rfl⟩
     subst hK_38
     refine Ex.seq (rg 3 [4, 6, 7, 8, 10, 11, 12, 14, 19] (mkS 278 [(4, .ptr 2 0), (6, .sl (r_22.1.map (AV.int .i64)) none), (7, .ptr 3 0), (8, .sl (r_24.1.map (AV.int .i64)) none), (10, i6 r_25.1), (11, i6 r_25.2.1), (12, i6 r_25.2.2.1), (14, .sl (all_35.map (SV (AV.int .i64))) (some 0)), (19, .bool (r_25.1 == (-1)))]) ⟨[(C_bk_Drum r_23.2), [], [i6 (if 200 < r_3.1.Route then 200 else r_3.1.Route), .sl (w_4.map A_Wing) none], (C_Rules r_23.1)], [(all_35.length, 1)]⟩ ?_)
     refine Ex.seq (Ex.seq ?_)
     refine rg 1 [4, 6, 7, 8, 10, 11, 12, 14, 19, 20] (mkS 278 [(4, .ptr 2 0), (6, .sl (r_22.1.map (AV.int .i64)) none), (7, .ptr 3 0), (8, .sl (r_24.1.map (AV.int .i64)) none), (10, i6 r_25.1), (11, i6 r_25.2.1), (12, i6 r_25.2.2.1), (14, .sl (all_35.map (SV (AV.int .i64))) (some 0)), (19, .bool (r_25.1 == (-1))), (20, i6 0)]) ⟨[(C_bk_Drum r_23.2), [], [i6 (if 200 < r_3.1.Route then 200 else r_3.1.Route), .sl (w_4.map A_Wing) none], (C_Rules r_23.1)], [(all_35.length, 1)]⟩ ?_
     obtain ⟨K_73, hK_74, h⟩ := letE h
     refine Ex.blockJ (fun a S => ∃ (met_71 : Bool), K_73 met_71 = some r ∧ a = mkS 278 [(19, .bool met_71)] ∧ S = ⟨[], []⟩) ?_ ?_
     ·obtain ⟨B_78, hB_79, h⟩ := loop2I h
      refine Ex.loopF (fun k a S => ∃ (met_75 : Bool), ∃ (i_76 : Int), loop2 B_78 k met_75 i_76 = some r ∧ a = mkS 278 [(4, .ptr 2 0), (6, .sl (r_22.1.map (AV.int .i64)) none), (7, .ptr 3 0), (8, .sl (r_24.1.map (AV.int .i64)) none), (10, i6 r_25.1), (11, i6 r_25.2.1), (12, i6 r_25.2.2.1), (14, .sl (all_35.map (SV (AV.int .i64))) (some 0)), (19, .bool met_75), (20, i6 i_76)] ∧ S = ⟨[(C_bk_Drum r_23.2), [], [i6 (if 200 < r_3.1.Route then 200 else r_3.1.Route), .sl (w_4.map A_Wing) none], (C_Rules r_23.1)], [(all_35.length, 1)]⟩) N ⟨_, _, Forgets.refl _ _ _, (r_25.1 == (-1)), 0, h, rfl, rfl⟩ ?_
      rintro k a S ⟨met_75, i_76, h, rfl, rfl⟩
      cases k with
      | zero => exact (loop2Z h).elim
      | succ k =>
       replace h := loop2S h hB_79
       refine Ex.seq (Ex.seq ?_)
       refine regH 4 [(2, .eq (i6 ((r_24.1.length : Nat) : Int)))] [4, 6, 7, 8, 10, 11, 12, 14, 19, 20, 163] [AV.int .i64 (((r_24.1.map (AV.int .i64)).length : Nat) : Int) = AV.int .i64 ((r_24.1.length : Nat) : Int)] (mkS 278 [(4, .ptr 2 0), (6, .sl (r_22.1.map (AV.int .i64)) none), (7, .ptr 3 0), (8, .sl (r_24.1.map (AV.int .i64)) none), (10, i6 r_25.1), (11, i6 r_25.2.1), (12, i6 r_25.2.2.1), (14, .sl (all_35.map (SV (AV.int .i64))) (some 0)), (19, .bool met_75), (20, i6 i_76), (163, .bool (decide (i_76 < ((r_24.1.length : Nat) : Int))))]) (⟨[(C_bk_Drum r_23.2), [], [i6 (if 200 < r_3.1.Route then 200 else r_3.1.Route), .sl (w_4.map A_Wing) none], (C_Rules r_23.1)], [(all_35.length, 1)]⟩) (by kernel_rfl) ⟨lenM _ _, trivial⟩ rfl ?_
       rcases condI h with ⟨hc_80, h⟩ | ⟨hc_80, h⟩
       ·refine Ex.condT _ rfl hc_80 ?_
        refine Ex.skip ?_
        refine Ex.seq ?_
        obtain ⟨K_83, hK_84, h⟩ := letE h
        refine Ex.blockJ (fun a S => ∃ (met_81 : Bool), K_83 met_81 = some r ∧ a = mkS 278 [(4, .ptr 2 0), (6, .sl (r_22.1.map (AV.int .i64)) none), (7, .ptr 3 0), (8, .sl (r_24.1.map (AV.int .i64)) none), (10, i6 r_25.1), (11, i6 r_25.2.1), (12, i6 r_25.2.2.1), (14, .sl (all_35.map (SV (AV.int .i64))) (some 0)), (19, .bool met_81), (20, i6 i_76)] ∧ S = ⟨[(C_bk_Drum r_23.2), [], [i6 (if 200 < r_3.1.Route then 200 else r_3.1.Route), .sl (w_4.map A_Wing) none], (C_Rules r_23.1)], [(all_35.length, 1)]⟩) ?_ ?_
        ·refine Ex.seq (Ex.seq ?_)
         refine rg 2 [4, 6, 7, 8, 10, 11, 12, 14, 19, 20, 167] (mkS 278 [(4, .ptr 2 0), (6, .sl (r_22.1.map (AV.int .i64)) none), (7, .ptr 3 0), (8, .sl (r_24.1.map (AV.int .i64)) none), (10, i6 r_25.1), (11, i6 r_25.2.1), (12, i6 r_25.2.2.1), (14, .sl (all_35.map (SV (AV.int .i64))) (some 0)), (19, .bool met_75), (20, i6 i_76), (167, .bool (i_76 == 0))]) ⟨[(C_bk_Drum r_23.2), [], [i6 (if 200 < r_3.1.Route then 200 else r_3.1.Route), .sl (w_4.map A_Wing) none], (C_Rules r_23.1)], [(all_35.length, 1)]⟩ ?_
         rcases condI h with ⟨hc_85, h⟩ | ⟨hc_85, h⟩
         ·refine Ex.condT _ rfl hc_85 ?_
          refine Ex.seq (Ex.seq ?_)
          obtain ⟨x_86, hx_86, h⟩ := bE h
          refine regH 4 [(1, .rop [i6 x_86])] [4, 6, 7, 8, 10, 11, 12, 14, 19, 20, 171] [LGet (r_24.1.map (AV.int .i64)) 0 1 [i6 x_86]] (mkS 278 [(4, .ptr 2 0), (6, .sl (r_22.1.map (AV.int .i64)) none), (7, .ptr 3 0), (8, .sl (r_24.1.map (AV.int .i64)) none), (10, i6 r_25.1), (11, i6 r_25.2.1), (12, i6 r_25.2.2.1), (14, .sl (all_35.map (SV (AV.int .i64))) (some 0)), (19, .bool met_75), (20, i6 i_76), (171, .bool (x_86 != 2))]) (⟨[(C_bk_Drum r_23.2), [], [i6 (if 200 < r_3.1.Route then 200 else r_3.1.Route), .sl (w_4.map A_Wing) none], (C_Rules r_23.1)], [(all_35.length, 1)]⟩) (by kernel_rfl) ⟨LGet.of hx_86 rfl, trivial⟩ rfl ?_
          rcases condI h with ⟨hc_87, h⟩ | ⟨hc_87, h⟩
          ·refine Ex.condT _ rfl hc_87 ?_
           refine Ex.seq (rg 1 [2] (mkS 278 [(2, .bool false)]) ⟨[(C_bk_Drum r_23.2), [], [i6 (if 200 < r_3.1.Route then 200 else r_3.1.Route), .sl (w_4.map A_Wing) none], (C_Rules r_23.1)], [(all_35.length, 1)]⟩ ?_)
           refine Ex.ret ?_
           obtain rfl := sJ h
           exact rt (.bool false)
          ·refine Ex.condF _ rfl hc_87 ?_
           refine Ex.skip ?_
           refine Ex.exit ?_
           (try simp only [reduceCtorEq, AEx.ex.injEq, Nat.reduceEqDiff, if_true, if_false])
           exact ⟨_, _, forgetK [4, 6, 7, 8, 10, 11, 12, 14, 19, 20], met_75, h, rfl, rfl⟩
         ·refine Ex.condF _ rfl hc_85 ?_
          refine Ex.skip ?_
          refine Ex.seq ?_
          obtain ⟨r_88, hr_88, h⟩ := bE h
          refine Ex.reg (rn 3 [4, 6, 7, 8, 10, 11, 12, 14, 19, 20, 173, 174, 175] (mkS 278 [(4, .ptr 2 0), (6, .sl (r_22.1.map (AV.int .i64)) none), (7, .ptr 3 0), (8, .sl (r_24.1.map (AV.int .i64)) none), (10, i6 r_25.1), (11, i6 r_25.2.1), (12, i6 r_25.2.2.1), (14, .sl (all_35.map (SV (AV.int .i64))) (some 0)), (19, .bool met_75), (20, i6 i_76), (173, .agg [i6 (if 200 < r_3.1.Route then 200 else r_3.1.Route), .sl (w_4.map A_Wing) none]), (174, .sl (r_22.1.map (AV.int .i64)) none), (175, i6 i_76)]) ⟨[(C_bk_Drum r_23.2), [], [i6 (if 200 < r_3.1.Route then 200 else r_3.1.Route), .sl (w_4.map A_Wing) none], (C_Rules r_23.1)], [(all_35.length, 1)]⟩ ?_)
          refine ExO.callL [] [.agg [i6 (if 200 < r_3.1.Route then 200 else r_3.1.Route), .sl (w_4.map A_Wing) none], .sl (r_22.1.map (AV.int .i64)) none, i6 i_76] rfl rfl (a_br1_Watched (⟨(if 200 < r_3.1.Route then 200 else r_3.1.Route), w_4⟩ : T_School) r_22.1 i_76) rfl rfl (d_br1_Watched N (⟨(if 200 < r_3.1.Route then 200 else r_3.1.Route), w_4⟩ : T_School) r_22.1 i_76 r_88 hr_88) (b_br1_Watched _ _ _ _) rfl ?_
          refine rn 5 [4, 6, 7, 8, 10, 11, 12, 14, 19, 20, 21, 22] (mkS 278 [(4, .ptr 2 0), (6, .sl (r_22.1.map (AV.int .i64)) none), (7, .ptr 3 0), (8, .sl (r_24.1.map (AV.int .i64)) none), (10, i6 r_25.1), (11, i6 r_25.2.1), (12, i6 r_25.2.2.1), (14, .sl (all_35.map (SV (AV.int .i64))) (some 0)), (19, .bool met_75), (20, i6 i_76), (21, i6 r_88.1), (22, i6 r_88.2)]) ⟨[(C_bk_Drum r_23.2), [], [i6 (if 200 < r_3.1.Route then 200 else r_3.1.Route), .sl (w_4.map A_Wing) none], (C_Rules r_23.1)], [(all_35.length, 1)]⟩ ?_
          refine ExO.nil ?_
          refine Ex.seq (rg 2 [4, 6, 7, 8, 10, 11, 12, 14, 19, 20, 21, 22, 23, 24] (mkS 278 [(4, .ptr 2 0), (6, .sl (r_22.1.map (AV.int .i64)) none), (7, .ptr 3 0), (8, .sl (r_24.1.map (AV.int .i64)) none), (10, i6 r_25.1), (11, i6 r_25.2.1), (12, i6 r_25.2.2.1), (14, .sl (all_35.map (SV (AV.int .i64))) (some 0)), (19, .bool met_75), (20, i6 i_76), (21, i6 r_88.1), (22, i6 r_88.2), (23, .bool false), (24, .bool true)]) ⟨[(C_bk_Drum r_23.2), [], [i6 (if 200 < r_3.1.Route then 200 else r_3.1.Route), .sl (w_4.map A_Wing) none], (C_Rules r_23.1)], [(all_35.length, 1)]⟩ ?_)
          refine Ex.seq (Ex.seq ?_)
          refine rg 1 [4, 6, 7, 8, 10, 11, 12, 14, 19, 20, 21, 22, 23, 24, 25] (mkS 278 [(4, .ptr 2 0), (6, .sl (r_22.1.map (AV.int .i64)) none), (7, .ptr 3 0), (8, .sl (r_24.1.map (AV.int .i64)) none), (10, i6 r_25.1), (11, i6 r_25.2.1), (12, i6 r_25.2.2.1), (14, .sl (all_35.map (SV (AV.int .i64))) (some 0)), (19, .bool met_75), (20, i6 i_76), (21, i6 r_88.1), (22, i6 r_88.2), (23, .bool false), (24, .bool true), (25, i6 0)]) ⟨[(C_bk_Drum r_23.2), [], [i6 (if 200 < r_3.1.Route then 200 else r_3.1.Route), .sl (w_4.map A_Wing) none], (C_Rules r_23.1)], [(all_35.length, 1)]⟩ ?_
          obtain ⟨K_93, hK_94, h⟩ := letE h
          refine Ex.blockJ (fun a S => ∃ (met_89 : Bool), ∃ (some_90 : Bool), ∃ (every_91 : Bool), K_93 met_89 some_90 every_91 = some r ∧ a = mkS 278 [(4, .ptr 2 0), (6, .sl (r_22.1.map (AV.int .i64)) none), (7, .ptr 3 0), (8, .sl (r_24.1.map (AV.int .i64)) none), (10, i6 r_25.1), (11, i6 r_25.2.1), (12, i6 r_25.2.2.1), (14, .sl (all_35.map (SV (AV.int .i64))) (some 0)), (19, .bool met_89), (20, i6 i_76), (23, .bool some_90), (24, .bool every_91)] ∧ S = ⟨[(C_bk_Drum r_23.2), [], [i6 (if 200 < r_3.1.Route then 200 else r_3.1.Route), .sl (w_4.map A_Wing) none], (C_Rules r_23.1)], [(all_35.length, 1)]⟩) ?_ ?_
          ·obtain ⟨B_100, hB_101, h⟩ := loop4I h
           refine Ex.loopF (fun k a S => ∃ (met_95 : Bool), ∃ (some_96 : Bool), ∃ (every_97 : Bool), ∃ (k_98 : Int), loop4 B_100 k met_95 some_96 every_97 k_98 = some r ∧ a = mkS 278 [(4, .ptr 2 0), (6, .sl (r_22.1.map (AV.int .i64)) none), (7, .ptr 3 0), (8, .sl (r_24.1.map (AV.int .i64)) none), (10, i6 r_25.1), (11, i6 r_25.2.1), (12, i6 r_25.2.2.1), (14, .sl (all_35.map (SV (AV.int .i64))) (some 0)), (19, .bool met_95), (20, i6 i_76), (21, i6 r_88.1), (22, i6 r_88.2), (23, .bool some_96), (24, .bool every_97), (25, i6 k_98)] ∧ S = ⟨[(C_bk_Drum r_23.2), [], [i6 (if 200 < r_3.1.Route then 200 else r_3.1.Route), .sl (w_4.map A_Wing) none], (C_Rules r_23.1)], [(all_35.length, 1)]⟩) N ⟨_, _, Forgets.refl _ _ _, met_75, false, true, 0, h, rfl, rfl⟩ ?_
           rintro k a S ⟨met_95, some_96, every_97, k_98, h, rfl, rfl⟩
           cases k with
           | zero => exact (loop4Z h).elim
           | succ k =>
            replace h := loop4S h hB_101
            refine Ex.seq (Ex.seq ?_)
            refine regH 4 [(2, .eq (i6 ((all_35.length : Nat) : Int)))] [4, 6, 7, 8, 10, 11, 12, 14, 19, 20, 21, 22, 23, 24, 25, 182] [AV.int .i64 (((all_35.map (SV (AV.int .i64))).length : Nat) : Int) = AV.int .i64 ((all_35.length : Nat) : Int)] (mkS 278 [(4, .ptr 2 0), (6, .sl (r_22.1.map (AV.int .i64)) none), (7, .ptr 3 0), (8, .sl (r_24.1.map (AV.int .i64)) none), (10, i6 r_25.1), (11, i6 r_25.2.1), (12, i6 r_25.2.2.1), (14, .sl (all_35.map (SV (AV.int .i64))) (some 0)), (19, .bool met_95), (20, i6 i_76), (21, i6 r_88.1), (22, i6 r_88.2), (23, .bool some_96), (24, .bool every_97), (25, i6 k_98), (182, .bool (decide (k_98 < ((all_35.length : Nat) : Int))))]) (⟨[(C_bk_Drum r_23.2), [], [i6 (if 200 < r_3.1.Route then 200 else r_3.1.Route), .sl (w_4.map A_Wing) none], (C_Rules r_23.1)], [(all_35.length, 1)]⟩) (by kernel_rfl) ⟨lenM _ _, trivial⟩ rfl ?_
            rcases condI h with ⟨hc_102, h⟩ | ⟨hc_102, h⟩
            ·refine Ex.condT _ rfl hc_102 ?_
             refine Ex.skip ?_
             refine Ex.seq ?_
             obtain ⟨K_107, hK_108, h⟩ := letE h
             refine Ex.blockJ (fun a S => ∃ (met_103 : Bool), ∃ (some_104 : Bool), ∃ (every_105 : Bool), K_107 met_103 some_104 every_105 = some r ∧ a = mkS 278 [(4, .ptr 2 0), (6, .sl (r_22.1.map (AV.int .i64)) none), (7, .ptr 3 0), (8, .sl (r_24.1.map (AV.int .i64)) none), (10, i6 r_25.1), (11, i6 r_25.2.1), (12, i6 r_25.2.2.1), (14, .sl (all_35.map (SV (AV.int .i64))) (some 0)), (19, .bool met_103), (20, i6 i_76), (21, i6 r_88.1), (22, i6 r_88.2), (23, .bool some_104), (24, .bool every_105), (25, i6 k_98)] ∧ S = ⟨[(C_bk_Drum r_23.2), [], [i6 (if 200 < r_3.1.Route then 200 else r_3.1.Route), .sl (w_4.map A_Wing) none], (C_Rules r_23.1)], [(all_35.length, 1)]⟩) ?_ ?_
             ·refine Ex.seq (rg 1 [4, 6, 7, 8, 10, 11, 12, 14, 19, 20, 21, 22, 23, 24, 25, 26] (mkS 278 [(4, .ptr 2 0), (6, .sl (r_22.1.map (AV.int .i64)) none), (7, .ptr 3 0), (8, .sl (r_24.1.map (AV.int .i64)) none), (10, i6 r_25.1), (11, i6 r_25.2.1), (12, i6 r_25.2.2.1), (14, .sl (all_35.map (SV (AV.int .i64))) (some 0)), (19, .bool met_95), (20, i6 i_76), (21, i6 r_88.1), (22, i6 r_88.2), (23, .bool some_96), (24, .bool every_97), (25, i6 k_98), (26, .bool false)]) ⟨[(C_bk_Drum r_23.2), [], [i6 (if 200 < r_3.1.Route then 200 else r_3.1.Route), .sl (w_4.map A_Wing) none], (C_Rules r_23.1)], [(all_35.length, 1)]⟩ ?_)
              refine Ex.seq (Ex.seq ?_)
              refine rg 2 [4, 6, 7, 8, 10, 11, 12, 14, 19, 20, 21, 22, 23, 24, 25, 26, 27] (mkS 278 [(4, .ptr 2 0), (6, .sl (r_22.1.map (AV.int .i64)) none), (7, .ptr 3 0), (8, .sl (r_24.1.map (AV.int .i64)) none), (10, i6 r_25.1), (11, i6 r_25.2.1), (12, i6 r_25.2.2.1), (14, .sl (all_35.map (SV (AV.int .i64))) (some 0)), (19, .bool met_95), (20, i6 i_76), (21, i6 r_88.1), (22, i6 r_88.2), (23, .bool some_96), (24, .bool every_97), (25, i6 k_98), (26, .bool false), (27, i6 r_88.1)]) ⟨[(C_bk_Drum r_23.2), [], [i6 (if 200 < r_3.1.Route then 200 else r_3.1.Route), .sl (w_4.map A_Wing) none], (C_Rules r_23.1)], [(all_35.length, 1)]⟩ ?_
              obtain ⟨K_112, hK_113, h⟩ := letE h
              refine Ex.blockJ (fun a S => ∃ (met_109 : Bool), ∃ (wide_110 : Bool), K_112 met_109 wide_110 = some r ∧ a = mkS 278 [(4, .ptr 2 0), (6, .sl (r_22.1.map (AV.int .i64)) none), (7, .ptr 3 0), (8, .sl (r_24.1.map (AV.int .i64)) none), (10, i6 r_25.1), (11, i6 r_25.2.1), (12, i6 r_25.2.2.1), (14, .sl (all_35.map (SV (AV.int .i64))) (some 0)), (19, .bool met_109), (20, i6 i_76), (21, i6 r_88.1), (22, i6 r_88.2), (23, .bool some_96), (24, .bool every_97), (25, i6 k_98), (26, .bool wide_110)] ∧ S = ⟨[(C_bk_Drum r_23.2), [], [i6 (if 200 < r_3.1.Route then 200 else r_3.1.Route), .sl (w_4.map A_Wing) none], (C_Rules r_23.1)], [(all_35.length, 1)]⟩) ?_ ?_
              ·obtain ⟨B_118, hB_119, h⟩ := loop3I h
               refine Ex.loopF (fun k a S => ∃ (met_114 : Bool), ∃ (wide_115 : Bool), ∃ (t_116 : Int), loop3 B_118 k met_114 wide_115 t_116 = some r ∧ a = mkS 278 [(4, .ptr 2 0), (6, .sl (r_22.1.map (AV.int .i64)) none), (7, .ptr 3 0), (8, .sl (r_24.1.map (AV.int .i64)) none), (10, i6 r_25.1), (11, i6 r_25.2.1), (12, i6 r_25.2.2.1), (14, .sl (all_35.map (SV (AV.int .i64))) (some 0)), (19, .bool met_114), (20, i6 i_76), (21, i6 r_88.1), (22, i6 r_88.2), (23, .bool some_96), (24, .bool every_97), (25, i6 k_98), (26, .bool wide_115), (27, i6 t_116)] ∧ S = ⟨[(C_bk_Drum r_23.2), [], [i6 (if 200 < r_3.1.Route then 200 else r_3.1.Route), .sl (w_4.map A_Wing) none], (C_Rules r_23.1)], [(all_35.length, 1)]⟩) N ⟨_, _, Forgets.refl _ _ _, met_95, false, r_88.1, h, rfl, rfl⟩ ?_
               rintro k a S ⟨met_114, wide_115, t_116, h, rfl, rfl⟩
               cases k with
               | zero => exact (loop3Z h).elim
               | succ k =>
                replace h := loop3S h hB_119
                refine Ex.seq (Ex.seq ?_)
                refine rg 3 [4, 6, 7, 8, 10, 11, 12, 14, 19, 20, 21, 22, 23, 24, 25, 26, 27, 188] (mkS 278 [(4, .ptr 2 0), (6, .sl (r_22.1.map (AV.int .i64)) none), (7, .ptr 3 0), (8, .sl (r_24.1.map (AV.int .i64)) none), (10, i6 r_25.1), (11, i6 r_25.2.1), (12, i6 r_25.2.2.1), (14, .sl (all_35.map (SV (AV.int .i64))) (some 0)), (19, .bool met_114), (20, i6 i_76), (21, i6 r_88.1), (22, i6 r_88.2), (23, .bool some_96), (24, .bool every_97), (25, i6 k_98), (26, .bool wide_115), (27, i6 t_116), (188, .bool (decide (t_116 < r_88.2)))]) ⟨[(C_bk_Drum r_23.2), [], [i6 (if 200 < r_3.1.Route then 200 else r_3.1.Route), .sl (w_4.map A_Wing) none], (C_Rules r_23.1)], [(all_35.length, 1)]⟩ ?_
                rcases condI h with ⟨hc_120, h⟩ | ⟨hc_120, h⟩
                ·refine Ex.condT _ rfl hc_120 ?_
                 refine Ex.skip ?_
                 refine Ex.seq ?_
                 refine Ex.blockK ?_
                 refine Ex.seq ?_
                 obtain ⟨x_121, hx_121, h⟩ := bE h
                 obtain ⟨r_122, hr_122, h⟩ := bE h
                 obtain ⟨x_123, hx_123, h⟩ := bE h
                 obtain ⟨x_124, hx_124, h⟩ := bE h
                 obtain ⟨r_125, hr_125, h⟩ := bE h
                 have hT_126 : DoesA Try.prog [⟨25, [.agg [i6 (if 200 < r_3.1.Route then 200 else r_3.1.Route), .sl (w_4.map A_Wing) none], .sl (r_22.1.map (AV.int .i64)) none, .sl (x_121.map (AV.int .i64)) none, i6 (IntKind.i64.wrap (i_76 - 1)), i6 t_116], [], (v_br1_Front r_122), []⟩, ⟨25, [.agg [i6 (if 200 < r_3.1.Route then 200 else r_3.1.Route), .sl (w_4.map A_Wing) none], .sl (r_22.1.map (AV.int .i64)) none, .sl (x_124.map (AV.int .i64)) none, i6 i_76, i6 t_116], [], (v_br1_Front r_125), []⟩] ∧ ConsA [⟨25, [.agg [i6 (if 200 < r_3.1.Route then 200 else r_3.1.Route), .sl (w_4.map A_Wing) none], .sl (r_22.1.map (AV.int .i64)) none, .sl (x_121.map (AV.int .i64)) none, i6 (IntKind.i64.wrap (i_76 - 1)), i6 t_116], [], (v_br1_Front r_122), []⟩, ⟨25, [.agg [i6 (if 200 < r_3.1.Route then 200 else r_3.1.Route), .sl (w_4.map A_Wing) none], .sl (r_22.1.map (AV.int .i64)) none, .sl (x_124.map (AV.int .i64)) none, i6 i_76, i6 t_116], [], (v_br1_Front r_125), []⟩] := ⟨⟨(d_br1_Front N (⟨(if 200 < r_3.1.Route then 200 else r_3.1.Route), w_4⟩ : T_School) r_22.1 x_121 (IntKind.i64.wrap (i_76 - 1)) t_116 r_122 hr_122), rfl, (d_br1_Front N (⟨(if 200 < r_3.1.Route then 200 else r_3.1.Route), w_4⟩ : T_School) r_22.1 x_124 i_76 t_116 r_125 hr_125), rfl, trivial⟩, ⟨⟨k_br1_Front N (⟨(if 200 < r_3.1.Route then 200 else r_3.1.Route), w_4⟩ : T_School) r_22.1 x_121 (IntKind.i64.wrap (i_76 - 1)) t_116 (⟨(if 200 < r_3.1.Route then 200 else r_3.1.Route), w_4⟩ : T_School) r_22.1 x_124 i_76 t_116 r_122 r_125 hr_122 hr_125, trivial⟩, trivial, trivial⟩⟩
                 refine Ex.drawE (a1 := mkS 278 [(4, .ptr 2 0), (6, .sl (r_22.1.map (AV.int .i64)) none), (7, .ptr 3 0), (8, .sl (r_24.1.map (AV.int .i64)) none), (10, i6 r_25.1), (11, i6 r_25.2.1), (12, i6 r_25.2.2.1), (14, .sl (all_35.map (SV (AV.int .i64))) (some 0)), (19, .bool met_114), (20, i6 i_76), (21, i6 r_88.1), (22, i6 r_88.2), (23, .bool some_96), (24, .bool every_97), (25, i6 k_98), (26, .bool wide_115), (27, i6 t_116), (188, .bool (decide (t_116 < r_88.2))), (191, .agg [i6 (if 200 < r_3.1.Route then 200 else r_3.1.Route), .sl (w_4.map A_Wing) none]), (192, .sl (r_22.1.map (AV.int .i64)) none), (193, .sl (all_35.map (SV (AV.int .i64))) (some 0)), (194, i6 k_98), (195, .rop [.sl (x_121.map (AV.int .i64)) none]), (196, .sl (x_121.map (AV.int .i64)) none), (197, i6 i_76), (198, i6 (IntKind.i64.wrap (i_76 - 1))), (199, i6 t_116), (200, i6 r_122), (201, .ptr 2 1), (202, .sl (w_4.map A_Wing) none), (203, i6 i_76), (204, i6 (IntKind.i64.wrap (i_76 - 1))), (205, .rop (C_Wing x_123)), (206, .rop [i6 x_123.Length, i6 x_123.Pace.Lo, i6 x_123.Pace.Hi]), (207, i6 x_123.Length), (208, i6 (IntKind.i64.wrap (r_122 - x_123.Length))), (209, .agg [i6 (if 200 < r_3.1.Route then 200 else r_3.1.Route), .sl (w_4.map A_Wing) none]), (210, .sl (r_22.1.map (AV.int .i64)) none), (211, .sl (all_35.map (SV (AV.int .i64))) (some 0)), (212, i6 k_98), (213, .rop [.sl (x_124.map (AV.int .i64)) none]), (214, .sl (x_124.map (AV.int .i64)) none), (215, i6 i_76), (216, i6 t_116), (217, i6 r_125)]) (tabO_ok hT_126.1) [] [] [] ?_ ?_
                 ·refine drS [0, 1, 2, 3] 9 [(4, .rop [.sl (x_121.map (AV.int .i64)) none])] [LGet (all_35.map (SV (AV.int .i64))) k_98 1 [.sl (x_121.map (AV.int .i64)) none]] (mkS 278 [(4, .ptr 2 0), (6, .sl (r_22.1.map (AV.int .i64)) none), (7, .ptr 3 0), (8, .sl (r_24.1.map (AV.int .i64)) none), (10, i6 r_25.1), (11, i6 r_25.2.1), (12, i6 r_25.2.2.1), (14, .sl (all_35.map (SV (AV.int .i64))) (some 0)), (19, .bool met_114), (20, i6 i_76), (21, i6 r_88.1), (22, i6 r_88.2), (23, .bool some_96), (24, .bool every_97), (25, i6 k_98), (26, .bool wide_115), (27, i6 t_116), (188, .bool (decide (t_116 < r_88.2))), (191, .agg [i6 (if 200 < r_3.1.Route then 200 else r_3.1.Route), .sl (w_4.map A_Wing) none]), (192, .sl (r_22.1.map (AV.int .i64)) none), (193, .sl (all_35.map (SV (AV.int .i64))) (some 0)), (194, i6 k_98), (195, .rop [.sl (x_121.map (AV.int .i64)) none]), (196, .sl (x_121.map (AV.int .i64)) none), (197, i6 i_76), (198, i6 (IntKind.i64.wrap (i_76 - 1))), (199, i6 t_116)]) (by simp) (by kernel_rfl) ⟨LGet.of hx_121 rfl, trivial⟩ (by kernel_rfl) ?_
                  refine drC hT_126.2 0 _ [.agg [i6 (if 200 < r_3.1.Route then 200 else r_3.1.Route), .sl (w_4.map A_Wing) none], .sl (r_22.1.map (AV.int .i64)) none, .sl (x_121.map (AV.int .i64)) none, i6 (IntKind.i64.wrap (i_76 - 1)), i6 t_116] (v_br1_Front r_122) rfl rfl rfl rfl rfl (fun _ => rfl) rfl (by simp; try rfl) (fun _ => b_br1_Front _ _ _ _) ?_
                  refine drS [0, 1, 2, 3] 16 [(4, .rop (C_Wing x_123)), (12, .rop [.sl (x_124.map (AV.int .i64)) none])] [LGet (w_4.map A_Wing) (IntKind.i64.wrap (i_76 - 1)) 4 (C_Wing x_123), LGet (all_35.map (SV (AV.int .i64))) k_98 1 [.sl (x_124.map (AV.int .i64)) none]] (mkS 278 [(4, .ptr 2 0), (6, .sl (r_22.1.map (AV.int .i64)) none), (7, .ptr 3 0), (8, .sl (r_24.1.map (AV.int .i64)) none), (10, i6 r_25.1), (11, i6 r_25.2.1), (12, i6 r_25.2.2.1), (14, .sl (all_35.map (SV (AV.int .i64))) (some 0)), (19, .bool met_114), (20, i6 i_76), (21, i6 r_88.1), (22, i6 r_88.2), (23, .bool some_96), (24, .bool every_97), (25, i6 k_98), (26, .bool wide_115), (27, i6 t_116), (188, .bool (decide (t_116 < r_88.2))), (191, .agg [i6 (if 200 < r_3.1.Route then 200 else r_3.1.Route), .sl (w_4.map A_Wing) none]), (192, .sl (r_22.1.map (AV.int .i64)) none), (193, .sl (all_35.map (SV (AV.int .i64))) (some 0)), (194, i6 k_98), (195, .rop [.sl (x_121.map (AV.int .i64)) none]), (196, .sl (x_121.map (AV.int .i64)) none), (197, i6 i_76), (198, i6 (IntKind.i64.wrap (i_76 - 1))), (199, i6 t_116), (200, i6 r_122), (201, .ptr 2 1), (202, .sl (w_4.map A_Wing) none), (203, i6 i_76), (204, i6 (IntKind.i64.wrap (i_76 - 1))), (205, .rop (C_Wing x_123)), (206, .rop [i6 x_123.Length, i6 x_123.Pace.Lo, i6 x_123.Pace.Hi]), (207, i6 x_123.Length), (208, i6 (IntKind.i64.wrap (r_122 - x_123.Length))), (209, .agg [i6 (if 200 < r_3.1.Route then 200 else r_3.1.Route), .sl (w_4.map A_Wing) none]), (210, .sl (r_22.1.map (AV.int .i64)) none), (211, .sl (all_35.map (SV (AV.int .i64))) (some 0)), (212, i6 k_98), (213, .rop [.sl (x_124.map (AV.int .i64)) none]), (214, .sl (x_124.map (AV.int .i64)) none), (215, i6 i_76), (216, i6 t_116)]) (by simp) (by kernel_rfl) ⟨LGet.of hx_123 rfl, LGet.of hx_124 rfl, trivial⟩ (by kernel_rfl) ?_
                  refine drC hT_126.2 1 _ [.agg [i6 (if 200 < r_3.1.Route then 200 else r_3.1.Route), .sl (w_4.map A_Wing) none], .sl (r_22.1.map (AV.int .i64)) none, .sl (x_124.map (AV.int .i64)) none, i6 i_76, i6 t_116] (v_br1_Front r_125) rfl rfl rfl rfl rfl (fun _ => rfl) rfl (by simp; try rfl) (fun _ => b_br1_Front _ _ _ _) ?_
                  exact DrO.nil rfl
                 ·dsimp only [List.getLastD_cons, List.getLastD_nil]
                  refine rn 2 [4, 6, 7, 8, 10, 11, 12, 14, 19, 20, 21, 22, 23, 24, 25, 26, 27, 28] (mkS 278 [(4, .ptr 2 0), (6, .sl (r_22.1.map (AV.int .i64)) none), (7, .ptr 3 0), (8, .sl (r_24.1.map (AV.int .i64)) none), (10, i6 r_25.1), (11, i6 r_25.2.1), (12, i6 r_25.2.2.1), (14, .sl (all_35.map (SV (AV.int .i64))) (some 0)), (19, .bool met_114), (20, i6 i_76), (21, i6 r_88.1), (22, i6 r_88.2), (23, .bool some_96), (24, .bool every_97), (25, i6 k_98), (26, .bool wide_115), (27, i6 t_116), (28, i6 (IntKind.i64.wrap ((IntKind.i64.wrap (r_122 - x_123.Length)) - r_125)))]) ⟨[(C_bk_Drum r_23.2), [], [i6 (if 200 < r_3.1.Route then 200 else r_3.1.Route), .sl (w_4.map A_Wing) none], (C_Rules r_23.1)], [(all_35.length, 1)]⟩ ?_
                  refine ExO.nil ?_
                  obtain ⟨K_129, hK_130, h⟩ := letE h
                  refine Ex.seqJ (fun a S => ∃ (wide_127 : Bool), K_129 wide_127 = some r ∧ a = mkS 278 [(4, .ptr 2 0), (6, .sl (r_22.1.map (AV.int .i64)) none), (7, .ptr 3 0), (8, .sl (r_24.1.map (AV.int .i64)) none), (10, i6 r_25.1), (11, i6 r_25.2.1), (12, i6 r_25.2.2.1), (14, .sl (all_35.map (SV (AV.int .i64))) (some 0)), (19, .bool met_114), (20, i6 i_76), (21, i6 r_88.1), (22, i6 r_88.2), (23, .bool some_96), (24, .bool every_97), (25, i6 k_98), (26, .bool wide_127), (27, i6 t_116), (28, i6 (IntKind.i64.wrap ((IntKind.i64.wrap (r_122 - x_123.Length)) - r_125)))] ∧ S = ⟨[(C_bk_Drum r_23.2), [], [i6 (if 200 < r_3.1.Route then 200 else r_3.1.Route), .sl (w_4.map A_Wing) none], (C_Rules r_23.1)], [(all_35.length, 1)]⟩) ?_ ?_
                  ·rcases condI h with ⟨hc_131, h⟩ | ⟨hc_131, h⟩
                   ·refine regH 8 [(1, .eq (.bool true))] [4, 6, 7, 8, 10, 11, 12, 14, 19, 20, 21, 22, 23, 24, 25, 26, 27, 28] [AV.bool wide_115 = AV.bool true] (mkS 278 [(4, .ptr 2 0), (6, .sl (r_22.1.map (AV.int .i64)) none), (7, .ptr 3 0), (8, .sl (r_24.1.map (AV.int .i64)) none), (10, i6 r_25.1), (11, i6 r_25.2.1), (12, i6 r_25.2.2.1), (14, .sl (all_35.map (SV (AV.int .i64))) (some 0)), (19, .bool met_114), (20, i6 i_76), (21, i6 r_88.1), (22, i6 r_88.2), (23, .bool some_96), (24, .bool every_97), (25, i6 k_98), (26, .bool true), (27, i6 t_116), (28, i6 (IntKind.i64.wrap ((IntKind.i64.wrap (r_122 - x_123.Length)) - r_125)))]) (⟨[(C_bk_Drum r_23.2), [], [i6 (if 200 < r_3.1.Route then 200 else r_3.1.Route), .sl (w_4.map A_Wing) none], (C_Rules r_23.1)], [(all_35.length, 1)]⟩) (by kernel_rfl) ⟨congrArg AV.bool hc_131, trivial⟩ rfl ?_
                    (try simp only [reduceCtorEq, AEx.ex.injEq, Nat.reduceEqDiff, if_true, if_false])
                    exact ⟨_, _, Forgets.refl _ _ _, true, h, rfl, rfl⟩
                   ·refine regH 8 [(1, .eq (.bool false))] [4, 6, 7, 8, 10, 11, 12, 14, 19, 20, 21, 22, 23, 24, 25, 26, 27, 28] [AV.bool wide_115 = AV.bool false] (mkS 278 [(4, .ptr 2 0), (6, .sl (r_22.1.map (AV.int .i64)) none), (7, .ptr 3 0), (8, .sl (r_24.1.map (AV.int .i64)) none), (10, i6 r_25.1), (11, i6 r_25.2.1), (12, i6 r_25.2.2.1), (14, .sl (all_35.map (SV (AV.int .i64))) (some 0)), (19, .bool met_114), (20, i6 i_76), (21, i6 r_88.1), (22, i6 r_88.2), (23, .bool some_96), (24, .bool every_97), (25, i6 k_98), (26, .bool (decide ((IntKind.i64.wrap ((IntKind.i64.wrap (r_122 - x_123.Length)) - r_125)) > r_23.1.Gap))), (27, i6 t_116), (28, i6 (IntKind.i64.wrap ((IntKind.i64.wrap (r_122 - x_123.Length)) - r_125)))]) (⟨[(C_bk_Drum r_23.2), [], [i6 (if 200 < r_3.1.Route then 200 else r_3.1.Route), .sl (w_4.map A_Wing) none], (C_Rules r_23.1)], [(all_35.length, 1)]⟩) (by kernel_rfl) ⟨congrArg AV.bool hc_131, trivial⟩ rfl ?_
                    (try simp only [reduceCtorEq, AEx.ex.injEq, Nat.reduceEqDiff, if_true, if_false])
                    exact ⟨_, _, Forgets.refl _ _ _, (decide ((IntKind.i64.wrap ((IntKind.i64.wrap (r_122 - x_123.Length)) - r_125)) > r_23.1.Gap)), h, rfl, rfl⟩
                  ·rintro a S ⟨wide_127, h, rfl, rfl⟩
                   subst hK_130
                   obtain ⟨K_134, hK_135, h⟩ := letE h
                   refine Ex.seqJ (fun a S => ∃ (met_132 : Bool), K_134 met_132 = some r ∧ a = mkS 278 [(4, .ptr 2 0), (6, .sl (r_22.1.map (AV.int .i64)) none), (7, .ptr 3 0), (8, .sl (r_24.1.map (AV.int .i64)) none), (10, i6 r_25.1), (11, i6 r_25.2.1), (12, i6 r_25.2.2.1), (14, .sl (all_35.map (SV (AV.int .i64))) (some 0)), (19, .bool met_132), (20, i6 i_76), (21, i6 r_88.1), (22, i6 r_88.2), (23, .bool some_96), (24, .bool every_97), (25, i6 k_98), (26, .bool wide_127), (27, i6 t_116), (28, i6 (IntKind.i64.wrap ((IntKind.i64.wrap (r_122 - x_123.Length)) - r_125)))] ∧ S = ⟨[(C_bk_Drum r_23.2), [], [i6 (if 200 < r_3.1.Route then 200 else r_3.1.Route), .sl (w_4.map A_Wing) none], (C_Rules r_23.1)], [(all_35.length, 1)]⟩) ?_ ?_
                   ·rcases condI h with ⟨hc_136, h⟩ | ⟨hc_136, h⟩
                    ·refine regH 17 [(1, .eq (.bool true))] [4, 6, 7, 8, 10, 11, 12, 14, 19, 20, 21, 22, 23, 24, 25, 26, 27, 28] [AV.bool met_114 = AV.bool true] (mkS 278 [(4, .ptr 2 0), (6, .sl (r_22.1.map (AV.int .i64)) none), (7, .ptr 3 0), (8, .sl (r_24.1.map (AV.int .i64)) none), (10, i6 r_25.1), (11, i6 r_25.2.1), (12, i6 r_25.2.2.1), (14, .sl (all_35.map (SV (AV.int .i64))) (some 0)), (19, .bool true), (20, i6 i_76), (21, i6 r_88.1), (22, i6 r_88.2), (23, .bool some_96), (24, .bool every_97), (25, i6 k_98), (26, .bool wide_127), (27, i6 t_116), (28, i6 (IntKind.i64.wrap ((IntKind.i64.wrap (r_122 - x_123.Length)) - r_125)))]) (⟨[(C_bk_Drum r_23.2), [], [i6 (if 200 < r_3.1.Route then 200 else r_3.1.Route), .sl (w_4.map A_Wing) none], (C_Rules r_23.1)], [(all_35.length, 1)]⟩) (by kernel_rfl) ⟨congrArg AV.bool hc_136, trivial⟩ rfl ?_
                     (try simp only [reduceCtorEq, AEx.ex.injEq, Nat.reduceEqDiff, if_true, if_false])
                     exact ⟨_, _, Forgets.refl _ _ _, true, h, rfl, rfl⟩
                    ·rcases condI h with ⟨hc_137, h⟩ | ⟨hc_137, h⟩
                     ·rcases condI h with ⟨hc_138, h⟩ | ⟨hc_138, h⟩
                      ·refine regH 17 [(1, .eq (.bool false)), (5, .eq (.bool true)), (10, .eq (.bool true))] [4, 6, 7, 8, 10, 11, 12, 14, 19, 20, 21, 22, 23, 24, 25, 26, 27, 28] [AV.bool met_114 = AV.bool false, AV.bool (i_76 == r_25.1) = AV.bool true, AV.bool (t_116 == r_25.2.1) = AV.bool true] (mkS 278 [(4, .ptr 2 0), (6, .sl (r_22.1.map (AV.int .i64)) none), (7, .ptr 3 0), (8, .sl (r_24.1.map (AV.int .i64)) none), (10, i6 r_25.1), (11, i6 r_25.2.1), (12, i6 r_25.2.2.1), (14, .sl (all_35.map (SV (AV.int .i64))) (some 0)), (19, .bool ((IntKind.i64.wrap ((IntKind.i64.wrap (r_122 - x_123.Length)) - r_125)) == r_25.2.2.1)), (20, i6 i_76), (21, i6 r_88.1), (22, i6 r_88.2), (23, .bool some_96), (24, .bool every_97), (25, i6 k_98), (26, .bool wide_127), (27, i6 t_116), (28, i6 (IntKind.i64.wrap ((IntKind.i64.wrap (r_122 - x_123.Length)) - r_125)))]) (⟨[(C_bk_Drum r_23.2), [], [i6 (if 200 < r_3.1.Route then 200 else r_3.1.Route), .sl (w_4.map A_Wing) none], (C_Rules r_23.1)], [(all_35.length, 1)]⟩) (by kernel_rfl) ⟨congrArg AV.bool hc_136, congrArg AV.bool hc_137, congrArg AV.bool hc_138, trivial⟩ rfl ?_
                       (try simp only [reduceCtorEq, AEx.ex.injEq, Nat.reduceEqDiff, if_true, if_false])
                       exact ⟨_, _, Forgets.refl _ _ _, ((IntKind.i64.wrap ((IntKind.i64.wrap (r_122 - x_123.Length)) - r_125)) == r_25.2.2.1), h, rfl, rfl⟩
                      ·refine regH 17 [(1, .eq (.bool false)), (5, .eq (.bool true)), (10, .eq (.bool false))] [4, 6, 7, 8, 10, 11, 12, 14, 19, 20, 21, 22, 23, 24, 25, 26, 27, 28] [AV.bool met_114 = AV.bool false, AV.bool (i_76 == r_25.1) = AV.bool true, AV.bool (t_116 == r_25.2.1) = AV.bool false] (mkS 278 [(4, .ptr 2 0), (6, .sl (r_22.1.map (AV.int .i64)) none), (7, .ptr 3 0), (8, .sl (r_24.1.map (AV.int .i64)) none), (10, i6 r_25.1), (11, i6 r_25.2.1), (12, i6 r_25.2.2.1), (14, .sl (all_35.map (SV (AV.int .i64))) (some 0)), (19, .bool false), (20, i6 i_76), (21, i6 r_88.1), (22, i6 r_88.2), (23, .bool some_96), (24, .bool every_97), (25, i6 k_98), (26, .bool wide_127), (27, i6 t_116), (28, i6 (IntKind.i64.wrap ((IntKind.i64.wrap (r_122 - x_123.Length)) - r_125)))]) (⟨[(C_bk_Drum r_23.2), [], [i6 (if 200 < r_3.1.Route then 200 else r_3.1.Route), .sl (w_4.map A_Wing) none], (C_Rules r_23.1)], [(all_35.length, 1)]⟩) (by kernel_rfl) ⟨congrArg AV.bool hc_136, congrArg AV.bool hc_137, congrArg AV.bool hc_138, trivial⟩ rfl ?_
                       (try simp only [reduceCtorEq, AEx.ex.injEq, Nat.reduceEqDiff, if_true, if_false])
                       exact ⟨_, _, Forgets.refl _ _ _, false, h, rfl, rfl⟩
                     ·refine regH 17 [(1, .eq (.bool false)), (5, .eq (.bool false))] [4, 6, 7, 8, 10, 11, 12, 14, 19, 20, 21, 22, 23, 24, 25, 26, 27, 28] [AV.bool met_114 = AV.bool false, AV.bool (i_76 == r_25.1) = AV.bool false] (mkS 278 [(4, .ptr 2 0), (6, .sl (r_22.1.map (AV.int .i64)) none), (7, .ptr 3 0), (8, .sl (r_24.1.map (AV.int .i64)) none), (10, i6 r_25.1), (11, i6 r_25.2.1), (12, i6 r_25.2.2.1), (14, .sl (all_35.map (SV (AV.int .i64))) (some 0)), (19, .bool false), (20, i6 i_76), (21, i6 r_88.1), (22, i6 r_88.2), (23, .bool some_96), (24, .bool every_97), (25, i6 k_98), (26, .bool wide_127), (27, i6 t_116), (28, i6 (IntKind.i64.wrap ((IntKind.i64.wrap (r_122 - x_123.Length)) - r_125)))]) (⟨[(C_bk_Drum r_23.2), [], [i6 (if 200 < r_3.1.Route then 200 else r_3.1.Route), .sl (w_4.map A_Wing) none], (C_Rules r_23.1)], [(all_35.length, 1)]⟩) (by kernel_rfl) ⟨congrArg AV.bool hc_136, congrArg AV.bool hc_137, trivial⟩ rfl ?_
                      (try simp only [reduceCtorEq, AEx.ex.injEq, Nat.reduceEqDiff, if_true, if_false])
                      exact ⟨_, _, Forgets.refl _ _ _, false, h, rfl, rfl⟩
                   ·rintro a S ⟨met_132, h, rfl, rfl⟩
                    subst hK_135
                    obtain ⟨K_141, hK_142, h⟩ := letE h
                    refine Ex.seqJ (fun a S => ∃ (y_139 : Bool), K_141 y_139 = some r ∧ a = mkS 278 [(4, .ptr 2 0), (6, .sl (r_22.1.map (AV.int .i64)) none), (7, .ptr 3 0), (8, .sl (r_24.1.map (AV.int .i64)) none), (10, i6 r_25.1), (11, i6 r_25.2.1), (12, i6 r_25.2.2.1), (14, .sl (all_35.map (SV (AV.int .i64))) (some 0)), (19, .bool met_132), (20, i6 i_76), (21, i6 r_88.1), (22, i6 r_88.2), (23, .bool some_96), (24, .bool every_97), (25, i6 k_98), (26, .bool wide_127), (27, i6 t_116), (248, .bool y_139)] ∧ S = ⟨[(C_bk_Drum r_23.2), [], [i6 (if 200 < r_3.1.Route then 200 else r_3.1.Route), .sl (w_4.map A_Wing) none], (C_Rules r_23.1)], [(all_35.length, 1)]⟩) ?_ ?_
                    ·rcases condI h with ⟨hc_143, h⟩ | ⟨hc_143, h⟩
                     ·refine regH 7 [(3, .eq (.bool true))] [4, 6, 7, 8, 10, 11, 12, 14, 19, 20, 21, 22, 23, 24, 25, 26, 27, 248] [AV.bool (decide ((IntKind.i64.wrap ((IntKind.i64.wrap (r_122 - x_123.Length)) - r_125)) > r_25.2.2.1)) = AV.bool true] (mkS 278 [(4, .ptr 2 0), (6, .sl (r_22.1.map (AV.int .i64)) none), (7, .ptr 3 0), (8, .sl (r_24.1.map (AV.int .i64)) none), (10, i6 r_25.1), (11, i6 r_25.2.1), (12, i6 r_25.2.2.1), (14, .sl (all_35.map (SV (AV.int .i64))) (some 0)), (19, .bool met_132), (20, i6 i_76), (21, i6 r_88.1), (22, i6 r_88.2), (23, .bool some_96), (24, .bool every_97), (25, i6 k_98), (26, .bool wide_127), (27, i6 t_116), (248, .bool true)]) (⟨[(C_bk_Drum r_23.2), [], [i6 (if 200 < r_3.1.Route then 200 else r_3.1.Route), .sl (w_4.map A_Wing) none], (C_Rules r_23.1)], [(all_35.length, 1)]⟩) (by kernel_rfl) ⟨congrArg AV.bool hc_143, trivial⟩ rfl ?_
                      (try simp only [reduceCtorEq, AEx.ex.injEq, Nat.reduceEqDiff, if_true, if_false])
                      exact ⟨_, _, Forgets.refl _ _ _, true, h, rfl, rfl⟩
                     ·refine regH 7 [(3, .eq (.bool false))] [4, 6, 7, 8, 10, 11, 12, 14, 19, 20, 21, 22, 23, 24, 25, 26, 27, 248] [AV.bool (decide ((IntKind.i64.wrap ((IntKind.i64.wrap (r_122 - x_123.Length)) - r_125)) > r_25.2.2.1)) = AV.bool false] (mkS 278 [(4, .ptr 2 0), (6, .sl (r_22.1.map (AV.int .i64)) none), (7, .ptr 3 0), (8, .sl (r_24.1.map (AV.int .i64)) none), (10, i6 r_25.1), (11, i6 r_25.2.1), (12, i6 r_25.2.2.1), (14, .sl (all_35.map (SV (AV.int .i64))) (some 0)), (19, .bool met_132), (20, i6 i_76), (21, i6 r_88.1), (22, i6 r_88.2), (23, .bool some_96), (24, .bool every_97), (25, i6 k_98), (26, .bool wide_127), (27, i6 t_116), (248, .bool (decide ((IntKind.i64.wrap ((IntKind.i64.wrap (r_122 - x_123.Length)) - r_125)) < 0)))]) (⟨[(C_bk_Drum r_23.2), [], [i6 (if 200 < r_3.1.Route then 200 else r_3.1.Route), .sl (w_4.map A_Wing) none], (C_Rules r_23.1)], [(all_35.length, 1)]⟩) (by kernel_rfl) ⟨congrArg AV.bool hc_143, trivial⟩ rfl ?_
                      (try simp only [reduceCtorEq, AEx.ex.injEq, Nat.reduceEqDiff, if_true, if_false])
                      exact ⟨_, _, Forgets.refl _ _ _, (decide ((IntKind.i64.wrap ((IntKind.i64.wrap (r_122 - x_123.Length)) - r_125)) < 0)), h, rfl, rfl⟩
                    ·rintro a S ⟨y_139, h, rfl, rfl⟩
                     subst hK_142
                     rcases condI h with ⟨hc_144, h⟩ | ⟨hc_144, h⟩
                     ·refine Ex.condT _ rfl hc_144 ?_
                      refine Ex.seq (rg 1 [2] (mkS 278 [(2, .bool false)]) ⟨[(C_bk_Drum r_23.2), [], [i6 (if 200 < r_3.1.Route then 200 else r_3.1.Route), .sl (w_4.map A_Wing) none], (C_Rules r_23.1)], [(all_35.length, 1)]⟩ ?_)
                      refine Ex.ret ?_
                      obtain rfl := sJ h
                      exact rt (.bool false)
                     ·refine Ex.condF _ rfl hc_144 ?_
                      refine Ex.skip ?_
                      refine rg 3 [4, 6, 7, 8, 10, 11, 12, 14, 19, 20, 21, 22, 23, 24, 25, 26, 27] (mkS 278 [(4, .ptr 2 0), (6, .sl (r_22.1.map (AV.int .i64)) none), (7, .ptr 3 0), (8, .sl (r_24.1.map (AV.int .i64)) none), (10, i6 r_25.1), (11, i6 r_25.2.1), (12, i6 r_25.2.2.1), (14, .sl (all_35.map (SV (AV.int .i64))) (some 0)), (19, .bool met_132), (20, i6 i_76), (21, i6 r_88.1), (22, i6 r_88.2), (23, .bool some_96), (24, .bool every_97), (25, i6 k_98), (26, .bool wide_127), (27, i6 (IntKind.i64.wrap (t_116 + 1)))]) ⟨[(C_bk_Drum r_23.2), [], [i6 (if 200 < r_3.1.Route then 200 else r_3.1.Route), .sl (w_4.map A_Wing) none], (C_Rules r_23.1)], [(all_35.length, 1)]⟩ ?_
                      dsimp only
                      exact ⟨_, _, Forgets.refl _ _ _, k, Nat.lt_succ_self k, met_132, wide_127, (IntKind.i64.wrap (t_116 + 1)), h, rfl, rfl⟩
                ·refine Ex.condF _ rfl hc_120 ?_
                 refine Ex.exit ?_
                 (try simp only [reduceCtorEq, AEx.ex.injEq, Nat.reduceEqDiff, if_true, if_false])
                 exact ⟨_, _, forgetK [4, 6, 7, 8, 10, 11, 12, 14, 19, 20, 21, 22, 23, 24, 25, 26], met_114, wide_115, h, rfl, rfl⟩
              ·rintro a S ⟨met_109, wide_110, h, rfl, rfl⟩
               subst hK_113
               rcases condI h with ⟨hc_145, h⟩ | ⟨hc_145, h⟩
               ·rcases condI h with ⟨hc_146, h⟩ | ⟨hc_146, h⟩
                ·refine regH 10 [(1, .eq (.bool true)), (5, .eq (.bool true))] [4, 6, 7, 8, 10, 11, 12, 14, 19, 20, 21, 22, 23, 24, 25] [AV.bool some_96 = AV.bool true, AV.bool every_97 = AV.bool true] (mkS 278 [(4, .ptr 2 0), (6, .sl (r_22.1.map (AV.int .i64)) none), (7, .ptr 3 0), (8, .sl (r_24.1.map (AV.int .i64)) none), (10, i6 r_25.1), (11, i6 r_25.2.1), (12, i6 r_25.2.2.1), (14, .sl (all_35.map (SV (AV.int .i64))) (some 0)), (19, .bool met_109), (20, i6 i_76), (21, i6 r_88.1), (22, i6 r_88.2), (23, .bool true), (24, .bool wide_110), (25, i6 k_98)]) (⟨[(C_bk_Drum r_23.2), [], [i6 (if 200 < r_3.1.Route then 200 else r_3.1.Route), .sl (w_4.map A_Wing) none], (C_Rules r_23.1)], [(all_35.length, 1)]⟩) (by kernel_rfl) ⟨congrArg AV.bool hc_145, congrArg AV.bool hc_146, trivial⟩ rfl ?_
                 (try simp only [reduceCtorEq, AEx.ex.injEq, Nat.reduceEqDiff, if_true, if_false])
                 exact ⟨_, _, Forgets.refl _ _ _, met_109, true, wide_110, h, rfl, rfl⟩
                ·refine regH 10 [(1, .eq (.bool true)), (5, .eq (.bool false))] [4, 6, 7, 8, 10, 11, 12, 14, 19, 20, 21, 22, 23, 24, 25] [AV.bool some_96 = AV.bool true, AV.bool every_97 = AV.bool false] (mkS 278 [(4, .ptr 2 0), (6, .sl (r_22.1.map (AV.int .i64)) none), (7, .ptr 3 0), (8, .sl (r_24.1.map (AV.int .i64)) none), (10, i6 r_25.1), (11, i6 r_25.2.1), (12, i6 r_25.2.2.1), (14, .sl (all_35.map (SV (AV.int .i64))) (some 0)), (19, .bool met_109), (20, i6 i_76), (21, i6 r_88.1), (22, i6 r_88.2), (23, .bool true), (24, .bool false), (25, i6 k_98)]) (⟨[(C_bk_Drum r_23.2), [], [i6 (if 200 < r_3.1.Route then 200 else r_3.1.Route), .sl (w_4.map A_Wing) none], (C_Rules r_23.1)], [(all_35.length, 1)]⟩) (by kernel_rfl) ⟨congrArg AV.bool hc_145, congrArg AV.bool hc_146, trivial⟩ rfl ?_
                 (try simp only [reduceCtorEq, AEx.ex.injEq, Nat.reduceEqDiff, if_true, if_false])
                 exact ⟨_, _, Forgets.refl _ _ _, met_109, true, false, h, rfl, rfl⟩
               ·rcases condI h with ⟨hc_147, h⟩ | ⟨hc_147, h⟩
                ·refine regH 10 [(1, .eq (.bool false)), (5, .eq (.bool true))] [4, 6, 7, 8, 10, 11, 12, 14, 19, 20, 21, 22, 23, 24, 25] [AV.bool some_96 = AV.bool false, AV.bool every_97 = AV.bool true] (mkS 278 [(4, .ptr 2 0), (6, .sl (r_22.1.map (AV.int .i64)) none), (7, .ptr 3 0), (8, .sl (r_24.1.map (AV.int .i64)) none), (10, i6 r_25.1), (11, i6 r_25.2.1), (12, i6 r_25.2.2.1), (14, .sl (all_35.map (SV (AV.int .i64))) (some 0)), (19, .bool met_109), (20, i6 i_76), (21, i6 r_88.1), (22, i6 r_88.2), (23, .bool wide_110), (24, .bool wide_110), (25, i6 k_98)]) (⟨[(C_bk_Drum r_23.2), [], [i6 (if 200 < r_3.1.Route then 200 else r_3.1.Route), .sl (w_4.map A_Wing) none], (C_Rules r_23.1)], [(all_35.length, 1)]⟩) (by kernel_rfl) ⟨congrArg AV.bool hc_145, congrArg AV.bool hc_147, trivial⟩ rfl ?_
                 (try simp only [reduceCtorEq, AEx.ex.injEq, Nat.reduceEqDiff, if_true, if_false])
                 exact ⟨_, _, Forgets.refl _ _ _, met_109, wide_110, wide_110, h, rfl, rfl⟩
                ·refine regH 10 [(1, .eq (.bool false)), (5, .eq (.bool false))] [4, 6, 7, 8, 10, 11, 12, 14, 19, 20, 21, 22, 23, 24, 25] [AV.bool some_96 = AV.bool false, AV.bool every_97 = AV.bool false] (mkS 278 [(4, .ptr 2 0), (6, .sl (r_22.1.map (AV.int .i64)) none), (7, .ptr 3 0), (8, .sl (r_24.1.map (AV.int .i64)) none), (10, i6 r_25.1), (11, i6 r_25.2.1), (12, i6 r_25.2.2.1), (14, .sl (all_35.map (SV (AV.int .i64))) (some 0)), (19, .bool met_109), (20, i6 i_76), (21, i6 r_88.1), (22, i6 r_88.2), (23, .bool wide_110), (24, .bool false), (25, i6 k_98)]) (⟨[(C_bk_Drum r_23.2), [], [i6 (if 200 < r_3.1.Route then 200 else r_3.1.Route), .sl (w_4.map A_Wing) none], (C_Rules r_23.1)], [(all_35.length, 1)]⟩) (by kernel_rfl) ⟨congrArg AV.bool hc_145, congrArg AV.bool hc_147, trivial⟩ rfl ?_
                 (try simp only [reduceCtorEq, AEx.ex.injEq, Nat.reduceEqDiff, if_true, if_false])
                 exact ⟨_, _, Forgets.refl _ _ _, met_109, wide_110, false, h, rfl, rfl⟩
             ·rintro a S ⟨met_103, some_104, every_105, h, rfl, rfl⟩
              subst hK_108
              refine rg 3 [4, 6, 7, 8, 10, 11, 12, 14, 19, 20, 21, 22, 23, 24, 25] (mkS 278 [(4, .ptr 2 0), (6, .sl (r_22.1.map (AV.int .i64)) none), (7, .ptr 3 0), (8, .sl (r_24.1.map (AV.int .i64)) none), (10, i6 r_25.1), (11, i6 r_25.2.1), (12, i6 r_25.2.2.1), (14, .sl (all_35.map (SV (AV.int .i64))) (some 0)), (19, .bool met_103), (20, i6 i_76), (21, i6 r_88.1), (22, i6 r_88.2), (23, .bool some_104), (24, .bool every_105), (25, i6 (IntKind.i64.wrap (k_98 + 1)))]) ⟨[(C_bk_Drum r_23.2), [], [i6 (if 200 < r_3.1.Route then 200 else r_3.1.Route), .sl (w_4.map A_Wing) none], (C_Rules r_23.1)], [(all_35.length, 1)]⟩ ?_
              dsimp only
              exact ⟨_, _, Forgets.refl _ _ _, k, Nat.lt_succ_self k, met_103, some_104, every_105, (IntKind.i64.wrap (k_98 + 1)), h, rfl, rfl⟩
            ·refine Ex.condF _ rfl hc_102 ?_
             refine Ex.exit ?_
             (try simp only [reduceCtorEq, AEx.ex.injEq, Nat.reduceEqDiff, if_true, if_false])
             exact ⟨_, _, forgetK [4, 6, 7, 8, 10, 11, 12, 14, 19, 20, 23, 24], met_95, some_96, every_97, h, rfl, rfl⟩
          ·rintro a S ⟨met_89, some_90, every_91, h, rfl, rfl⟩
           subst hK_94
           obtain ⟨K_150, hK_151, h⟩ := letE h
           refine Ex.seqJ (fun a S => ∃ (y_148 : Bool), K_150 y_148 = some r ∧ a = mkS 278 [(4, .ptr 2 0), (6, .sl (r_22.1.map (AV.int .i64)) none), (7, .ptr 3 0), (8, .sl (r_24.1.map (AV.int .i64)) none), (10, i6 r_25.1), (11, i6 r_25.2.1), (12, i6 r_25.2.2.1), (14, .sl (all_35.map (SV (AV.int .i64))) (some 0)), (19, .bool met_89), (20, i6 i_76), (273, .bool y_148)] ∧ S = ⟨[(C_bk_Drum r_23.2), [], [i6 (if 200 < r_3.1.Route then 200 else r_3.1.Route), .sl (w_4.map A_Wing) none], (C_Rules r_23.1)], [(all_35.length, 1)]⟩) ?_ ?_
           ·obtain ⟨x_152, hx_152, h⟩ := bE h
            rcases condI h with ⟨hc_153, h⟩ | ⟨hc_153, h⟩
            ·refine regH 17 [(2, .rop [i6 x_152]), (7, .eq (.bool true))] [4, 6, 7, 8, 10, 11, 12, 14, 19, 20, 273] [LGet (r_24.1.map (AV.int .i64)) i_76 1 [i6 x_152], AV.bool (!((x_152 == 1) == every_91)) = AV.bool true] (mkS 278 [(4, .ptr 2 0), (6, .sl (r_22.1.map (AV.int .i64)) none), (7, .ptr 3 0), (8, .sl (r_24.1.map (AV.int .i64)) none), (10, i6 r_25.1), (11, i6 r_25.2.1), (12, i6 r_25.2.2.1), (14, .sl (all_35.map (SV (AV.int .i64))) (some 0)), (19, .bool met_89), (20, i6 i_76), (273, .bool true)]) (⟨[(C_bk_Drum r_23.2), [], [i6 (if 200 < r_3.1.Route then 200 else r_3.1.Route), .sl (w_4.map A_Wing) none], (C_Rules r_23.1)], [(all_35.length, 1)]⟩) (by kernel_rfl) ⟨LGet.of hx_152 rfl, congrArg AV.bool hc_153, trivial⟩ rfl ?_
             (try simp only [reduceCtorEq, AEx.ex.injEq, Nat.reduceEqDiff, if_true, if_false])
             exact ⟨_, _, Forgets.refl _ _ _, true, h, rfl, rfl⟩
            ·obtain ⟨x_154, hx_154, h⟩ := bE h
             refine regH 17 [(2, .rop [i6 x_152]), (7, .eq (.bool false)), (10, .rop [i6 x_154])] [4, 6, 7, 8, 10, 11, 12, 14, 19, 20, 273] [LGet (r_24.1.map (AV.int .i64)) i_76 1 [i6 x_152], AV.bool (!((x_152 == 1) == every_91)) = AV.bool false, LGet (r_24.1.map (AV.int .i64)) i_76 1 [i6 x_154]] (mkS 278 [(4, .ptr 2 0), (6, .sl (r_22.1.map (AV.int .i64)) none), (7, .ptr 3 0), (8, .sl (r_24.1.map (AV.int .i64)) none), (10, i6 r_25.1), (11, i6 r_25.2.1), (12, i6 r_25.2.2.1), (14, .sl (all_35.map (SV (AV.int .i64))) (some 0)), (19, .bool met_89), (20, i6 i_76), (273, .bool (!((x_154 == 2) == (!some_90))))]) (⟨[(C_bk_Drum r_23.2), [], [i6 (if 200 < r_3.1.Route then 200 else r_3.1.Route), .sl (w_4.map A_Wing) none], (C_Rules r_23.1)], [(all_35.length, 1)]⟩) (by kernel_rfl) ⟨LGet.of hx_152 rfl, congrArg AV.bool hc_153, LGet.of hx_154 rfl, trivial⟩ rfl ?_
             (try simp only [reduceCtorEq, AEx.ex.injEq, Nat.reduceEqDiff, if_true, if_false])
             exact ⟨_, _, Forgets.refl _ _ _, (!((x_154 == 2) == (!some_90))), h, rfl, rfl⟩
           ·rintro a S ⟨y_148, h, rfl, rfl⟩
            subst hK_151
            rcases condI h with ⟨hc_155, h⟩ | ⟨hc_155, h⟩
            ·refine Ex.condT _ rfl hc_155 ?_
             refine Ex.seq (rg 1 [2] (mkS 278 [(2, .bool false)]) ⟨[(C_bk_Drum r_23.2), [], [i6 (if 200 < r_3.1.Route then 200 else r_3.1.Route), .sl (w_4.map A_Wing) none], (C_Rules r_23.1)], [(all_35.length, 1)]⟩ ?_)
             refine Ex.ret ?_
             obtain rfl := sJ h
             exact rt (.bool false)
            ·refine Ex.condF _ rfl hc_155 ?_
             refine Ex.skip ?_
             (try simp only [reduceCtorEq, AEx.ex.injEq, Nat.reduceEqDiff, if_true, if_false])
             exact ⟨_, _, forgetK [4, 6, 7, 8, 10, 11, 12, 14, 19, 20], met_89, h, rfl, rfl⟩
        ·rintro a S ⟨met_81, h, rfl, rfl⟩
         subst hK_84
         refine rg 3 [4, 6, 7, 8, 10, 11, 12, 14, 19, 20] (mkS 278 [(4, .ptr 2 0), (6, .sl (r_22.1.map (AV.int .i64)) none), (7, .ptr 3 0), (8, .sl (r_24.1.map (AV.int .i64)) none), (10, i6 r_25.1), (11, i6 r_25.2.1), (12, i6 r_25.2.2.1), (14, .sl (all_35.map (SV (AV.int .i64))) (some 0)), (19, .bool met_81), (20, i6 (IntKind.i64.wrap (i_76 + 1)))]) ⟨[(C_bk_Drum r_23.2), [], [i6 (if 200 < r_3.1.Route then 200 else r_3.1.Route), .sl (w_4.map A_Wing) none], (C_Rules r_23.1)], [(all_35.length, 1)]⟩ ?_
         dsimp only
         exact ⟨_, _, Forgets.refl _ _ _, k, Nat.lt_succ_self k, met_81, (IntKind.i64.wrap (i_76 + 1)), h, rfl, rfl⟩
       ·refine Ex.condF _ rfl hc_80 ?_
        refine Ex.exit ?_
        (try simp only [reduceCtorEq, AEx.ex.injEq, Nat.reduceEqDiff, if_true, if_false])
        exact ⟨_, _, forgetA (m := 278) 0 [] [(19, .bool met_75)] [] [] (by simp [setAll]) (by simp) ⟨rfl, trivial⟩ (by simp) rfl (by decide), met_75, h, rfl, rfl⟩
     ·rintro a S ⟨met_71, h, rfl, rfl⟩
      subst hK_74
      refine Ex.seq ?_
      rcases condI h with ⟨hc_156, h⟩ | ⟨hc_156, h⟩
      ·obtain ⟨r_157, hr_157, h⟩ := bE h
       refine Ex.reg ?_
       refine runH 2 [(1, .eq (.bool true))] [275] [AV.bool met_71 = AV.bool true] (mkS 278 [(275, .bool true)]) (⟨[], []⟩) (by kernel_rfl) ⟨congrArg AV.bool hc_156, trivial⟩ ?_
       refine ExO.callL [] [] rfl rfl (a_bl1_awake) rfl rfl (d_bl1_awake N r_157 hr_157) (b_bl1_awake _ _ _ _) rfl ?_
       refine rn 2 [2] (mkS 278 [(2, .bool r_157)]) ⟨[], []⟩ ?_
       refine ExO.nil ?_
       refine Ex.ret ?_
       obtain rfl := sJ h
       exact rt (.bool r_157)
      ·refine regH 5 [(1, .eq (.bool false))] [2] [AV.bool met_71 = AV.bool false] (mkS 278 [(2, .bool false)]) (⟨[], []⟩) (by kernel_rfl) ⟨congrArg AV.bool hc_156, trivial⟩ rfl ?_
       refine Ex.ret ?_
       obtain rfl := sJ h
       exact rt (.bool false)
end Go.Proofs.Ytloklokkognalaa
end
section
namespace Go.Proofs.Ytloklokkognalaa
open Go.RowKit

theorem getAt (l : List Int) (k : Nat) (hk : k < l.length) : getI l (k : Int) = some (atI l k) := by
 rw [getI_nat]
 unfold atI
 rw [List.getElem?_eq_getElem hk]
 rfl
theorem front_r (N : Nat) (hN : 1000 < N) (s : T_School) (h : GoodWs s.Wings) (h8 : s.Wings.length ≤ 8) (st pc : List Int) (w : Nat) (hw : w < s.Wings.length) (hst : w < st.length) (hpc : w < pc.length) (hs : ∀ k, k ≤ w → (0 ≤ atI st k ∧ atI st k ≤ 20000) ∧ 1 ≤ atI pc k ∧ atI pc k ≤ 200) (sec : Int) (s01 : 0 ≤ sec ∧ sec ≤ 200000) : p_br1_Front N s st pc (w : Int) sec = some (fr s.Wings (atI st) (atI pc) w sec) := by
 unfold p_br1_Front
 have h0 := ln_bd (hs 0 (Nat.zero_le _)).1 (hs 0 (Nat.zero_le _)).2 s01
 have b0 := (hs 0 (Nat.zero_le _)).1
 rw [show (0 : Int) = ((0 : Nat) : Int) from rfl, getAt pc 0 (by omega), Option.bind_some, getAt st 0 (by omega), Option.bind_some, letJ_eq, w64 (x := sec - atI st 0) (by omega) (by omega), show atI pc 0 * (sec - atI st 0) = ln (atI st) (atI pc) 0 sec from rfl, w64 (x := ln (atI st) (atI pc) 0 sec) (by omega) (by omega)]
 refine loop2_T (fun x => x = some (fr s.Wings (atI st) (atI pc) w sec)) (fun x i => ∃ j : Nat, i = (j : Int) + 1 ∧ j ≤ w ∧ x = fr s.Wings (atI st) (atI pc) j sec) (fun _ i => (w : Nat) + 1 - i.toNat) ?_ N _ 1 ⟨0, rfl, Nat.zero_le _, rfl⟩ (by simp; omega)
 rintro rec x i ⟨j, rfl, hj, rfl⟩ ih
 by_cases hlt : j < w
 ·have hW : s.Wings[j]? = some s.Wings[j] := List.getElem?_eq_getElem (by omega)
  have hle : lenW s.Wings j = s.Wings[j].Length := by unfold lenW; rw [hW]; rfl
  have e : (j : Int) + 1 = ((j + 1 : Nat) : Int) := by omega
  have hb := fr_bd h s01 j fun k hk => hs k (by omega)
  have hl := ln_bd (hs (j + 1) (by omega)).1 (hs (j + 1) (by omega)).2 s01
  have hs1 := (hs (j + 1) (by omega)).1
  have lw := lenW_bd h j
  rw [show decide ((j : Int) + 1 ≤ (w : Int)) = true from decide_eq_true (by omega), cond_true, e, getAt pc (j + 1) (by omega), Option.bind_some, getAt st (j + 1) (by omega), Option.bind_some, w64 (x := ((j + 1 : Nat) : Int) - 1) (by omega) (by omega), show ((j + 1 : Nat) : Int) - 1 = (j : Int) by omega, getD_at hW, Option.bind_some, ← hle, w64 (x := sec - atI st (j + 1)) (by omega) (by omega), show atI pc (j + 1) * (sec - atI st (j + 1)) = ln (atI st) (atI pc) (j + 1) sec from rfl, w64 (x := ln (atI st) (atI pc) (j + 1) sec) (by omega) (by omega), w64 (x := fr s.Wings (atI st) (atI pc) j sec - lenW s.Wings j) (by omega) (by omega), w64 (x := ((j + 1 : Nat) : Int) + 1) (by omega) (by omega)]
  refine ih _ _ ⟨j + 1, rfl, hlt, ?_⟩ (by omega)
  rw [fr]
  split <;> split <;> omega
 ·have : j = w := by omega
  subst this
  rw [show decide ((j : Int) + 1 ≤ (j : Int)) = false from decide_eq_false (by omega), cond_false]
theorem fast_p (N : Nat) (hN : 1000 < N) (s : T_School) (h8 : s.Wings.length ≤ 8) : p_br1_Fast N s = some (s.Wings.map (·.Pace.Hi)) := by
 unfold p_br1_Fast
 simp only [letJ_eq]
 refine invZ' s.Wings (fun x => x = some (s.Wings.map (·.Pace.Hi))) (fun i (b : List Int) => b = (s.Wings.take i).map (·.Pace.Hi)) (by omega) (by simp) (fun rec b hb => ?_) (fun rec i w b hw hi hb ih => ?_)
 ·simp only [ltE, cond_false]
  rw [hb, List.take_length]
 ·simp only [ltD hi, cond_true, getD_at hw, Option.bind_some, nadd1 i (by omega)]
  rw [pushI_ok (by rw [hb]; simp; omega), Option.bind_some]
  refine ih _ ?_
  rw [hb, List.take_add_one, hw, List.map_append]
  rfl
theorem atI_hi {ws : List T_Wing} {k : Nat} (hk : k < ws.length) : atI (ws.map (·.Pace.Hi)) k = hiW ws k := by
 unfold atI hiW
 rw [List.getElem?_map, List.getElem?_eq_getElem hk]
 rfl
section
variable (N : Nat) (hN : 200000 < N) (s : T_School) (h : GoodWs s.Wings) (h8 : s.Wings.length ≤ 8) (r0 : 1 ≤ s.Route) (r1 : s.Route ≤ 2000) (st : List Int) (hl : st.length = s.Wings.length) (hs : ∀ k, k < st.length → 0 ≤ atI st k ∧ atI st k ≤ 20000)
include hN h h8 r0 r1 hl hs
theorem watched_r (i : Nat) (hi : i + 1 < s.Wings.length) : p_br1_Watched N s st ((i + 1 : Nat) : Int) = some (atI st (i + 1), till s.Wings st s.Route i) := by
 have hW : s.Wings[i]? = some s.Wings[i] := List.getElem?_eq_getElem (by omega)
 have hle : lenW s.Wings i = s.Wings[i].Length := by unfold lenW; rw [hW]; rfl
 have lw := lenW_bd h i
 unfold p_br1_Watched till
 rw [getAt st (i + 1) (by omega), Option.bind_some, fast_p N (by omega) s h8, Option.bind_some, w64 (x := ((i + 1 : Nat) : Int) - 1) (by omega) (by omega), show ((i + 1 : Nat) : Int) - 1 = (i : Int) by omega, getD_at hW, Option.bind_some, ← hle, w64 (x := s.Route + lenW s.Wings i) (by omega) (by omega), passed_p N (by omega) s h st _ i (by omega) h8 (by omega) (by simp; omega) (fun k hk => hs k (by omega)) (fun k hk => by
  rw [atI_hi (by omega)]
  have := loW_bd h k
  omega) _ (by omega) (by omega), Option.bind_some, up_congr (i + 1) _ _ fun k hk => ⟨rfl, atI_hi (by omega)⟩]
omit hN in
theorem till_bd (i : Nat) (hi : i + 1 < s.Wings.length) : till s.Wings st s.Route i ≤ 100000 := by
 have lw := lenW_bd h i
 have := up_bd (ws := s.Wings) (st := atI st) (pc := hiW s.Wings) (m := 20000) (B := 5000) (fun k => lenW_bd h k) (i + 1) (s.Route + lenW s.Wings i) (atI st i) (by omega) (by omega) (fun k hk => ⟨(hs k (by omega)).2, by have := loW_bd h k; omega⟩) (by have := hs i (by omega); omega)
 unfold till
 omega
theorem wpeak_p (i : Nat) (hi : i + 1 < s.Wings.length) (e : Int) (pc : Nat → Int) (he : ∃ t, p_parade_apart N s st ((i + 1 : Nat) : Int) e = some t ∧ TrP s.Wings st pc t) (hp : ∀ k, k ≤ i + 1 → 1 ≤ pc k ∧ pc k ≤ 200) (h0 : 0 ≤ fr s.Wings (atI st) pc i (atI st (i + 1)) - lenW s.Wings i) :
  ∃ r g, p_parade_watchedPeak N s st ((i + 1 : Nat) : Int) e = some ⟨((i + 1 : Nat) : Int), r, g⟩ ∧ (till s.Wings st s.Route i ≤ atI st (i + 1) → g = 0) ∧ (atI st (i + 1) < till s.Wings st s.Route i → g = gp s.Wings (atI st) pc i r ∧ atI st (i + 1) ≤ r ∧ r < till s.Wings st s.Route i ∧ ∀ t, atI st (i + 1) ≤ t → t < till s.Wings st s.Route i → gp s.Wings (atI st) pc i t ≤ g) := by
 have hW : s.Wings[i]? = some s.Wings[i] := List.getElem?_eq_getElem (by omega)
 have hle : lenW s.Wings i = s.Wings[i].Length := by unfold lenW; rw [hW]; rfl
 have lw := lenW_bd h i
 obtain ⟨t, et, ht⟩ := he
 obtain ⟨t1, f1, g1⟩ := allAt_p N (by omega) s h8 st 1 (hiW s.Wings) hi_ok
 have htb := till_bd s h h8 r0 r1 st hl hs i hi
 have htl : p_parade_truth_leaves N t1 (i : Int) s.Route = some (till s.Wings st s.Route i) := by
  unfold p_parade_truth_leaves till
  rw [g1.w, getD_at hW, Option.bind_some, ← hle, w64 (x := s.Route + lenW s.Wings i) (by omega) (by omega), tpasses_p N (by omega) s.Wings h h8 st _ t1 g1 i (by omega) (by omega) (fun k hk => hs k (by omega)) (fun k hk => by have := loW_bd h k; omega) _ (by omega) (by omega), Option.bind_some]
 unfold p_parade_watchedPeak
 rw [f1, Option.bind_some, w64 (x := ((i + 1 : Nat) : Int) - 1) (by omega) (by omega), show ((i + 1 : Nat) : Int) - 1 = (i : Int) by omega, htl, Option.bind_some, et, Option.bind_some, getAt st (i + 1) (by omega), Option.bind_some]
 by_cases hlt : atI st (i + 1) < till s.Wings st s.Route i
 ·obtain ⟨r, er, q0, q1, q2⟩ := peakT_p N hN s.Wings h h8 st pc t ht i hi (by omega) (fun k hk => ⟨hs k (by omega), hp k hk⟩) _ htb hlt h0
  rw [er, Option.bind_some]
  exact ⟨r, _, rfl, fun hh => by omega, fun _ => ⟨rfl, q0, q1, q2⟩⟩
 ·unfold p_parade_peak_parade_truth_gap
  rw [show decide (atI st (i + 1) ≥ till s.Wings st s.Route i) = true from decide_eq_true (by omega), cond_true, Option.bind_some]
  exact ⟨_, 0, rfl, fun _ => rfl, fun hh => absurd hh hlt⟩
end
end Go.Proofs.Ytloklokkognalaa
end
section
namespace Go.Proofs.Ytloklokkognalaa
open Go.RowKit

theorem up_dn {ws : List T_Wing} {st pc : Nat → Int} {t L : Int} (hl : ∀ k, 0 ≤ lenW ws k) (hL : 0 ≤ L) (hp : ∀ k, 1 ≤ pc k) : ∀ (j : Nat) (d P sec : Int), 0 ≤ d → up ws st pc j (L + d) sec ≤ t → L ≤ P → L ≤ dn ws st pc t j d P
 | 0, d, P, sec, _, _, h => h
 | j + 1, d, P, sec, hd, hu, h => by
  have l0 := hl (j - 1)
  rw [up] at hu
  rw [dn]
  have h1 := up_ge (ws := ws) (st := st) (pc := pc) j (L + d + lenW ws (j - 1)) (if st j + cdiv (L + d) (pc j) > sec then st j + cdiv (L + d) (pc j) else sec)
  have h2 : st j + cdiv (L + d) (pc j) ≤ t := by
   have : st j + cdiv (L + d) (pc j) ≤ (if st j + cdiv (L + d) (pc j) > sec then st j + cdiv (L + d) (pc j) else sec) := by split <;> omega
   omega
  have h3 := cdiv_ge (n := L + d) (by omega) (hp j)
  have h4 : L + d ≤ ln st pc j t := by
   unfold ln
   have := Int.mul_le_mul_of_nonneg_right (show cdiv (L + d) (pc j) ≤ t - st j by omega) (show 0 ≤ pc j by have := hp j; omega)
   rw [Int.mul_comm (t - st j)] at this
   omega
  refine up_dn hl hL hp j (d + lenW ws (j - 1)) _ (if st j + cdiv (L + d) (pc j) > sec then st j + cdiv (L + d) (pc j) else sec) (by omega) (by rw [← Int.add_assoc]; exact hu) (by split <;> omega)
theorem up_fr {ws : List T_Wing} {st pc : Nat → Int} {t L sec : Int} (hl : ∀ k, 0 ≤ lenW ws k) (hL : 0 ≤ L) (hp : ∀ k, 1 ≤ pc k) (i : Nat) (h : up ws st pc (i + 1) L sec ≤ t) : L ≤ fr ws st pc i t := by
 have := up_dn (t := t) hl hL hp (i + 1) 0 ((if L < fr ws st pc i t then fr ws st pc i t else L) + 1) sec (Int.le_refl _) (by rw [Int.add_zero]; exact h) (by split <;> omega)
 rw [dn_fr] at this
 split at this
 ·omega
 ·split at this <;> omega
section
variable (s : T_School) (h : GoodWs s.Wings) (st : List Int) (hl : st.length = s.Wings.length) (hge : ∀ k, k < st.length → leastAt s.Wings st k ≤ atI st k)
include h hl hge
omit h in
theorem st_up : ∀ (d k : Nat), k + d < s.Wings.length → atI st k ≤ atI st (k + d)
 | 0, _, _ => Int.le_refl _
 | d + 1, k, hk => by
  have := st_up d k (by omega)
  have h1 := hge (k + d + 1) (by omega)
  have h2 : atI st (k + d) ≤ leastAt s.Wings st (k + d + 1) := up_ge _ _ _
  show atI st k ≤ atI st (k + d + 1)
  omega
theorem clear_p (i : Nat) (hi : i + 1 < s.Wings.length) (pc : Nat → Int) (hp : ∀ k, k ≤ i → loW s.Wings k ≤ pc k) : 0 ≤ fr s.Wings (atI st) pc i (atI st (i + 1)) - lenW s.Wings i := by
 have lw := lenW_bd h i
 have h1 : lenW s.Wings i ≤ fr s.Wings (atI st) (loW s.Wings) i (atI st (i + 1)) := up_fr (sec := atI st i) (fun k => (lenW_bd h k).1) lw.1 (fun k => (loW_bd h k).1) i (hge (i + 1) (by omega))
 have h2 := fr_mono s.Wings (atI st) (loW s.Wings) pc (atI st (i + 1)) i fun k hk => ⟨hp k hk, by
  have := st_up s st hl hge (i + 1 - k) k (by omega)
  rw [show k + (i + 1 - k) = i + 1 by omega] at this
  exact this⟩
 omega
end
def wideP (ws : List T_Wing) (i : Nat) : Nat → Int := fun k => if k = i + 1 then loW ws (i + 1) else hiW ws k
def narrP (ws : List T_Wing) (i : Nat) : Nat → Int := fun k => if k = i + 1 then hiW ws (i + 1) else loW ws k
theorem wideP_bd {ws : List T_Wing} (h : GoodWs ws) (i k : Nat) : 1 ≤ wideP ws i k ∧ wideP ws i k ≤ 200 ∧ 1 ≤ narrP ws i k ∧ narrP ws i k ≤ 200 := by
 have a := loW_bd h (i + 1)
 have b := loW_bd h k
 unfold wideP narrP
 split <;> omega
structure Pks (s : T_School) (st : List Int) (i : Nat) (r0 g0 g1 : Int) : Prop where
 off : till s.Wings st s.Route i ≤ atI st (i + 1) → g0 = 0 ∧ g1 = 0
 wide : atI st (i + 1) < till s.Wings st s.Route i → g0 = gp s.Wings (atI st) (wideP s.Wings i) i r0 ∧ atI st (i + 1) ≤ r0 ∧ r0 < till s.Wings st s.Route i ∧ ∀ t, atI st (i + 1) ≤ t → t < till s.Wings st s.Route i → gp s.Wings (atI st) (wideP s.Wings i) i t ≤ g0
 narr : atI st (i + 1) < till s.Wings st s.Route i → ∃ r1, g1 = gp s.Wings (atI st) (narrP s.Wings i) i r1 ∧ atI st (i + 1) ≤ r1 ∧ r1 < till s.Wings st s.Route i ∧ ∀ t, atI st (i + 1) ≤ t → t < till s.Wings st s.Route i → gp s.Wings (atI st) (narrP s.Wings i) i t ≤ g1
theorem opens_p (N : Nat) (hN : 200000 < N) (s : T_School) (h : GoodWs s.Wings) (h8 : s.Wings.length ≤ 8) (r0 : 1 ≤ s.Route) (r1 : s.Route ≤ 2000) (st : List Int) (hl : st.length = s.Wings.length) (hs : ∀ k, k < st.length → 0 ≤ atI st k ∧ atI st k ≤ 20000) (hge : ∀ k, k < st.length → leastAt s.Wings st k ≤ atI st k) (i : Nat) (hi : i + 1 < s.Wings.length) :
  ∃ r g0 g1, Pks s st i r g0 g1 ∧ p_parade_watchedPeak N s st ((i + 1 : Nat) : Int) 0 = some ⟨((i + 1 : Nat) : Int), r, g0⟩ ∧ ∀ gap, p_parade_opens N s st ((i + 1 : Nat) : Int) gap = some (if g1 > gap then 1 else if g0 > gap then 3 else 2) := by
 obtain ⟨ha, hb⟩ := apart_p N (by omega) s h8 st (i + 1) hi
 have c0 := clear_p s h st hl hge i hi (wideP s.Wings i) fun k hk => by
  have := loW_bd h k
  unfold wideP
  split <;> omega
 have c1 := clear_p s h st hl hge i hi (narrP s.Wings i) fun k hk => by
  have := loW_bd h k
  unfold narrP
  split <;> omega
 obtain ⟨q0, g0, e0, o0, w0⟩ := wpeak_p N hN s h h8 r0 r1 st hl hs i hi 0 (wideP s.Wings i) ha (fun k _ => ⟨(wideP_bd h i k).1, (wideP_bd h i k).2.1⟩) c0
 obtain ⟨q1, g1, e1, o1, w1⟩ := wpeak_p N hN s h h8 r0 r1 st hl hs i hi 1 (narrP s.Wings i) hb (fun k _ => (wideP_bd h i k).2.2) c1
 refine ⟨q0, g0, g1, ⟨fun hh => ⟨o0 hh, o1 hh⟩, fun hh => w0 hh, fun hh => ⟨q1, w1 hh⟩⟩, e0, fun gap => ?_⟩
 unfold p_parade_opens
 rw [e1, Option.bind_some, e0, Option.bind_some]
 dsimp only
 by_cases a : g1 > gap
 ·rw [decide_eq_true a, cond_true, if_pos a]
 ·rw [decide_eq_false a, cond_false, if_neg a]
  by_cases b : g0 > gap
  ·rw [decide_eq_true b, cond_true, if_pos b]
  ·rw [decide_eq_false b, cond_false, if_neg b]
end Go.Proofs.Ytloklokkognalaa
end
