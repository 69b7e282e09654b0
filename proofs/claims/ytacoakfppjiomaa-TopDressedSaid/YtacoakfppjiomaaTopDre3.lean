/- Part 4 of what the law needs: own work, put together. -/
import Derived.Test.YtacoakfppjiomaaTopDre2
set_option linter.unusedVariables false
set_option linter.unusedSimpArgs false
set_option maxRecDepth 10000
set_option maxHeartbeats 4000000
section
namespace Go.Proofs.Ytacoakfppjiomaa
open Go.RowKit

def cdiv (n d : Int) : Int := Int.tdiv (n + d - 1) d
theorem cdiv_le {n d q : Int} (hn : 0 ≤ n) (hd : 1 ≤ d) (h : n ≤ q * d) : cdiv n d ≤ q := by
 unfold cdiv
 rw [Int.tdiv_eq_ediv_of_nonneg (by omega)]
 have : (n + d - 1) / d < q + 1 := Int.ediv_lt_of_lt_mul (by omega) (by rw [Int.add_mul]; omega)
 omega
theorem cdiv_ge {n d : Int} (hn : 0 ≤ n) (hd : 1 ≤ d) : n ≤ cdiv n d * d := by
 unfold cdiv
 rw [Int.tdiv_eq_ediv_of_nonneg (by omega)]
 have h1 := Int.emod_add_mul_ediv (n + d - 1) d
 have h2 := Int.emod_lt_of_pos (n + d - 1) (show 0 < d by omega)
 rw [Int.mul_comm] at h1
 omega
theorem cdiv_nonneg {n d : Int} (hn : 0 ≤ n) (hd : 1 ≤ d) : 0 ≤ cdiv n d := by
 unfold cdiv
 rw [Int.tdiv_eq_ediv_of_nonneg (by omega)]
 exact Int.ediv_nonneg (by omega) (by omega)
theorem cdiv_mono {n a b : Int} (hn : 0 ≤ n) (ha : 1 ≤ a) (hab : a ≤ b) : cdiv n b ≤ cdiv n a := by
 refine cdiv_le hn (by omega) ?_
 have h1 := cdiv_ge hn ha
 have h2 := cdiv_nonneg hn ha
 have h3 := Int.mul_le_mul_of_nonneg_left hab h2
 omega
theorem cdiv_self {n d : Int} (hn : 0 ≤ n) (hd : 1 ≤ d) : cdiv n d ≤ n := by
 refine cdiv_le hn hd ?_
 have := Int.mul_le_mul_of_nonneg_left hd hn
 rw [Int.mul_one] at this
 exact this
def atI (l : List Int) (k : Nat) : Int := l[k]?.getD 0
def lenW (ws : List T_Wing) (k : Nat) : Int := (ws[k]?.map (·.Length)).getD 0
def up (ws : List T_Wing) (st pc : Nat → Int) : Nat → Int → Int → Int
 | 0, _, sec => sec
 | j + 1, pl, sec => up ws st pc j (pl + lenW ws (j - 1)) (if st j + cdiv pl (pc j) > sec then st j + cdiv pl (pc j) else sec)
theorem up_le {ws : List T_Wing} {st st' pc pc' : Nat → Int} {c : Int} (hl : ∀ k, 0 ≤ lenW ws k) : ∀ (j : Nat) (pl sec sec' : Int), 0 ≤ pl → (∀ k, k < j → ∀ n, 0 ≤ n → st k + cdiv n (pc k) ≤ st' k + cdiv n (pc' k) + c) → sec ≤ sec' + c → up ws st pc j pl sec ≤ up ws st' pc' j pl sec' + c
 | 0, pl, sec, sec', _, _, hs => hs
 | j + 1, pl, sec, sec', hp, h, hs => by
  refine up_le hl j _ _ _ (by have := hl (j - 1); omega) (fun k hk => h k (by omega)) ?_
  have := h j (by omega) pl hp
  split <;> split <;> omega
theorem up_congr {ws : List T_Wing} {st st' pc pc' : Nat → Int} : ∀ (j : Nat) (pl sec : Int), (∀ k, k < j → st k = st' k ∧ pc k = pc' k) → up ws st pc j pl sec = up ws st' pc' j pl sec
 | 0, _, _, _ => rfl
 | j + 1, pl, sec, h => by
  obtain ⟨h1, h2⟩ := h j (by omega)
  show up ws st pc j _ _ = up ws st' pc' j _ _
  rw [h1, h2]
  exact up_congr j _ _ fun k hk => h k (by omega)
theorem up_ge {ws : List T_Wing} {st pc : Nat → Int} : ∀ (j : Nat) (pl sec : Int), sec ≤ up ws st pc j pl sec
 | 0, _, _ => Int.le_refl _
 | j + 1, pl, sec => by
  refine Int.le_trans ?_ (up_ge j _ _)
  split <;> omega
theorem up_bd {ws : List T_Wing} {st pc : Nat → Int} {m B : Int} (hl : ∀ k, 0 ≤ lenW ws k ∧ lenW ws k ≤ 100) : ∀ (j : Nat) (pl sec : Int), 0 ≤ pl → pl + 100 * (j : Int) ≤ B → (∀ k, k < j → st k ≤ m ∧ 1 ≤ pc k) → sec ≤ m + B → up ws st pc j pl sec ≤ m + B
 | 0, _, _, _, _, _, h => h
 | j + 1, pl, sec, hp, hb, h, hs => by
  obtain ⟨h1, h2⟩ := h j (by omega)
  have h3 := cdiv_self hp h2
  have h4 := hl (j - 1)
  refine up_bd hl j _ _ (by omega) (by omega) (fun k hk => h k (by omega)) ?_
  split <;> omega
def wn : List ByteArray := [(ByteArray.mk #[102, 114, 111, 110, 116]), (ByteArray.mk #[100, 114, 117, 109, 115]), (ByteArray.mk #[102, 108, 97, 103, 115]), (ByteArray.mk #[102, 108, 111, 97, 116]), (ByteArray.mk #[98, 97, 105, 97, 110, 97, 115]), (ByteArray.mk #[107, 105, 100, 115]), (ByteArray.mk #[113, 117, 101, 101, 110, 115]), (ByteArray.mk #[98, 97, 99, 107])]
structure GoodW (w : T_Wing) : Prop where
 l0 : 1 ≤ w.Length
 l1 : w.Length ≤ 80
 p0 : 1 ≤ w.Pace.Lo
 p1 : w.Pace.Lo ≤ w.Pace.Hi
 p2 : w.Pace.Hi ≤ 80
structure GoodWs (ws : List T_Wing) : Prop where
 wing : ∀ (i : Nat) w, ws[i]? = some w → GoodW w ∧ wn[i]? = some w.Name
theorem schoolOf_p (N : Nat) (hN : 1000 < N) (d : T_bk_Drum) (most : Nat) (hm : most ≤ 8) (h1 : 1 ≤ most) : ∃ (s : T_School) (d' : T_bk_Drum), p_bk_SchoolOf N d (most : Int) = some (s, d') ∧ 1 ≤ s.Route ∧ s.Route ≤ 2000 ∧ 1 ≤ s.Wings.length ∧ s.Wings.length ≤ most ∧ GoodWs s.Wings := by
 unfold p_bk_SchoolOf
 obtain ⟨r, d1, e, hr⟩ := any_p N d [60, 400, 2000] (by simp) (by simp)
 rw [e, Option.bind_some]; clear e
 have hr : r = 60 ∨ r = 400 ∨ r = 2000 := by simpa using hr
 dsimp only
 obtain ⟨R, d2, e, r0, r1, _⟩ := mid_p N d1 1 r (by omega) (by omega) (by omega) (by omega)
 have r1 := r1 (by omega)
 rw [e, Option.bind_some]; clear e
 dsimp only
 obtain ⟨i0, d3, e, i1, i2, _⟩ := mid_p N d2 1 (most : Int) (by omega) (by omega) (by omega) (by omega)
 have i2 := i2 (by omega)
 rw [e, Option.bind_some]; clear e
 dsimp only
 refine letJ_gen (fun x => ∃ (s : T_School) (d' : T_bk_Drum), x = some (s, d') ∧ 1 ≤ s.Route ∧ s.Route ≤ 2000 ∧ 1 ≤ s.Wings.length ∧ s.Wings.length ≤ most ∧ GoodWs s.Wings) _ _ (fun K hK => ?_)
 refine loop3_T (fun x => ∃ (s : T_School) (d' : T_bk_Drum), x = some (s, d') ∧ 1 ≤ s.Route ∧ s.Route ≤ 2000 ∧ 1 ≤ s.Wings.length ∧ s.Wings.length ≤ most ∧ GoodWs s.Wings) (fun i b (l : List T_Wing) => 0 ≤ i ∧ (l.length : Int) + i = i0 ∧ GoodWs l) (fun i b l => i.toNat) ?_ N i0 _ [] ⟨by omega, by simp, ⟨fun i w h => by simp at h⟩⟩ (by omega)
 rintro rec i b l ⟨q0, q1, q2⟩ ih
 by_cases hp : i > 0
 ·rw [decide_eq_true hp, cond_true]
  obtain ⟨x, d4, e, hx⟩ := any_p N ⟨b⟩ [5, 40] (by simp) (by simp)
  rw [e, Option.bind_some]; clear e
  have hx : x = 5 ∨ x = 40 := by simpa using hx
  dsimp only
  obtain ⟨pace, d5, e, p0, p1, _⟩ := mid_p N d4 1 x (by omega) (by omega) (by omega) (by omega)
  have p1 := p1 (by omega)
  rw [e, Option.bind_some]; clear e
  dsimp only
  have hwn : p_bk_wingNames N = some wn := rfl
  have hlt : l.length < wn.length := by show l.length < 8; omega
  have hn : wn[l.length]? = some wn[l.length] := List.getElem?_eq_getElem hlt
  rw [hwn, Option.bind_some, getD_at hn, Option.bind_some]
  obtain ⟨y, d6, e, hy⟩ := any_p N d5 [10, 80] (by simp) (by simp)
  rw [e, Option.bind_some]; clear e
  have hy : y = 10 ∨ y = 80 := by simpa using hy
  dsimp only
  obtain ⟨len, d7, e, l0, l1, _⟩ := mid_p N d6 1 y (by omega) (by omega) (by omega) (by omega)
  have l1 := l1 (by omega)
  rw [e, Option.bind_some]; clear e
  dsimp only
  obtain ⟨a, d8, e, a0, a1⟩ := roll_le N d7 4 (by omega) (by omega)
  rw [e, Option.bind_some]; clear e
  dsimp only
  obtain ⟨b2, d9, e, b0, b1⟩ := roll_le N d8 30 (by omega) (by omega)
  rw [e, Option.bind_some]; clear e
  dsimp only
  obtain ⟨z, d10, e, hz⟩ := any_p N d9 [0, a, b2] (by simp) (by simp)
  rw [e, Option.bind_some]; clear e
  have hz : z = 0 ∨ z = a ∨ z = b2 := by simpa using hz
  dsimp only
  rw [pushI_ok (by simp; omega), Option.bind_some, w64 (x := i - 1) (by omega) (by omega), w64 (x := pace + z) (by omega) (by omega)]
  refine ih _ _ _ ⟨by omega, by simp; omega, ⟨fun k w hw => ?_⟩⟩ (by omega)
  by_cases hk : k < l.length
  ·rw [List.getElem?_append_left hk] at hw
   exact q2.wing k w hw
  ·have hk2 := (List.getElem?_eq_some_iff.1 hw).1
   have : k = l.length := by simp at hk2; omega
   subst this
   rw [List.getElem?_concat_length] at hw
   cases hw
   exact ⟨⟨l0, by dsimp only; omega, p0, by dsimp only; omega, by dsimp only; omega⟩, hn⟩
 ·rw [decide_eq_false hp, cond_false, hK]
  exact ⟨_, _, rfl, r0, by dsimp only; omega, by dsimp only; omega, by dsimp only; omega, q2⟩
theorem lenW_bd {ws : List T_Wing} (h : GoodWs ws) (k : Nat) : 0 ≤ lenW ws k ∧ lenW ws k ≤ 100 := by
 unfold lenW
 cases hw : ws[k]? with
 | none => simp
 | some w =>
  have := (h.wing k w hw).1
  have := this.l0
  have := (h.wing k w hw).1.l1
  simp
  omega
theorem passed_p (N : Nat) (hN : 1000 < N) (s : T_School) (h : GoodWs s.Wings) (st pc : List Int) (i : Nat) (hi : i < s.Wings.length) (h8 : s.Wings.length ≤ 8) (hst : i < st.length) (hpc : i < pc.length) (hs : ∀ k, k ≤ i → 0 ≤ atI st k ∧ atI st k ≤ 20000) (hp : ∀ k, k ≤ i → 1 ≤ atI pc k ∧ atI pc k ≤ 200) (pl : Int) (p0 : 0 ≤ pl) (p1 : pl ≤ 100000) : p_br1_Passed N s st pc (i : Int) pl = some (up s.Wings (atI st) (atI pc) (i + 1) pl (atI st i)) := by
 have hget : ∀ (l : List Int) k, k < l.length → getI l (k : Int) = some (atI l k) := fun l k hk => by
  rw [getI_nat]
  unfold atI
  rw [List.getElem?_eq_getElem hk]
  rfl
 unfold p_br1_Passed
 rw [hget st i hst, Option.bind_some]
 refine letJ_gen (fun x => x = some (up s.Wings (atI st) (atI pc) (i + 1) pl (atI st i))) _ _ (fun K hK => ?_)
 refine loop3_T (fun x => x = some (up s.Wings (atI st) (atI pc) (i + 1) pl (atI st i))) (fun place second k => ∃ j : Nat, k = (j : Int) - 1 ∧ j ≤ i + 1 ∧ 0 ≤ place ∧ place + 100 * (j : Int) ≤ 200000 ∧ 0 ≤ second ∧ second ≤ 400000 ∧ up s.Wings (atI st) (atI pc) j (if j ≤ i then place + lenW s.Wings (j - 1) else place) second = up s.Wings (atI st) (atI pc) (i + 1) pl (atI st i)) (fun _ _ k => (k + 1).toNat) ?_ N _ _ _ ⟨i + 1, by omega, Nat.le_refl _, p0, by omega, (hs i (Nat.le_refl _)).1, by have := (hs i (Nat.le_refl _)).2; omega, by rw [if_neg (by omega)]⟩ (by omega)
 rintro rec place second k ⟨j, rfl, hj, q0, q1, q2, q3, q4⟩ ih
 by_cases hj0 : j = 0
 ·subst hj0
  rw [show decide (((0 : Nat) : Int) - 1 ≥ 0) = false from rfl, cond_false, hK]
  rw [← q4]
  rfl
 ·obtain ⟨m, rfl⟩ : ∃ m, j = m + 1 := ⟨j - 1, by omega⟩
  have hm : ((m + 1 : Nat) : Int) - 1 = (m : Int) := by omega
  rw [hm, show decide ((m : Int) ≥ 0) = true from decide_eq_true (by omega), cond_true]
  have hlb := lenW_bd h m
  have hlb2 := lenW_bd h (m - 1)
  have hsm := hs m (by omega)
  have hpm := hp m (by omega)
  refine letJ_gen (fun x => x = some (up s.Wings (atI st) (atI pc) (i + 1) pl (atI st i))) _ _ (fun K2 hK2 => ?_)
  have hgo : ∀ place2 : Int, place2 = (if m + 1 ≤ i then place + lenW s.Wings m else place) → K2 place2 = some (up s.Wings (atI st) (atI pc) (i + 1) pl (atI st i)) := by
   intro place2 hp2
   have hpb : 0 ≤ place2 ∧ place2 + 100 * (m : Int) ≤ 200000 := by rw [hp2]; split <;> omega
   rw [hK2]
   dsimp only
   have hc0 := cdiv_nonneg hpb.1 hpm.1
   have hc1 := cdiv_self hpb.1 hpm.1
   rw [hget st m (by omega), Option.bind_some, hget pc m (by omega), Option.bind_some, Option.bind_some, show nzI (atI pc m) = some () from by unfold nzI; rw [if_neg (by omega)], Option.bind_some]
   rw [show (if place2 > 0 then place2 else 0) = place2 by split <;> omega, w64 (x := place2 + atI pc m) (by omega) (by omega), w64 (x := place2 + atI pc m - 1) (by omega) (by omega)]
   rw [show Int.tdiv (place2 + atI pc m - 1) (atI pc m) = cdiv place2 (atI pc m) from rfl, w64 (x := cdiv place2 (atI pc m)) (by omega) (by omega), w64 (x := atI st m + cdiv place2 (atI pc m)) (by omega) (by omega), Option.bind_some, w64 (x := (m : Int) - 1) (by omega) (by omega)]
   refine ih _ _ _ ⟨m, rfl, by omega, hpb.1, hpb.2, ?_, ?_, ?_⟩ (by omega)
   ·split <;> omega
   ·split <;> omega
   ·rw [if_pos (by omega), ← q4, hp2]
    show _ = up s.Wings (atI st) (atI pc) m _ _
    rfl
  have hW : s.Wings[m]? = some s.Wings[m] := List.getElem?_eq_getElem (by omega)
  by_cases hlt : m < i
  ·rw [show decide ((m : Int) < (i : Int)) = true from decide_eq_true (by omega), cond_true, getD_at hW, Option.bind_some]
   have hle : lenW s.Wings m = s.Wings[m].Length := by unfold lenW; rw [hW]; rfl
   rw [w64 (by omega) (by omega)]
   exact hgo _ (by rw [if_pos (by omega), hle])
  ·rw [show decide ((m : Int) < (i : Int)) = false from decide_eq_false (by omega), cond_false]
   exact hgo _ (by rw [if_neg (by omega)])
end Go.Proofs.Ytacoakfppjiomaa
end
section
namespace Go.Proofs.Ytacoakfppjiomaa
open Go.RowKit
attribute [local simp] ren ren1 AV.plain AV.plain1 AV.clean cleanL cleanI cleanBo cleanSt cleanII KL_bk_Drum KL_Span KL_Wing KL_School A_bk_Drum C_bk_Drum A_Span C_Span A_Wing C_Wing A_School C_School back back1 re re1 List.idxOf? List.findIdx? List.findIdx?.go KB_bk_Drum KB_Span KB_Wing KB_School fadeS fadeV
def p_parade_within (N : Nat) (n_1 : Int) (least_2 : Int) (most_3 : Int) : Option (Bool) := (bif (decide (n_1 ≥ least_2)) then some (decide (n_1 ≤ most_3)) else some false)
def v_parade_within (r : Bool) : AV := .bool r
attribute [local simp] v_parade_within
theorem a_parade_within (n_1 : Int) (least_2 : Int) (most_3 : Int) : [i6 n_1, i6 least_2, i6 most_3].mapM (ren []) = some [i6 n_1, i6 least_2, i6 most_3] := by simp
theorem b_parade_within (r : Bool) (n n2 m : Nat) : back n n2 m (v_parade_within r) = some (v_parade_within r) := by simp
theorem d_parade_within (N : Nat) (n_1 : Int) (least_2 : Int) (most_3 : Int) (r : Bool) (h : p_parade_within N n_1 least_2 most_3 = some r) : Does Try.prog 88 [i6 n_1, i6 least_2, i6 most_3] [] fun v c => v = v_parade_within r ∧ c = [] := by
 unfold p_parade_within at h
 refine Does.ofL comp88 _ _ rfl rfl ?_
 refine Ex.seq (rg 1 [0, 1, 2] (mkS 15 [(0, i6 n_1), (1, i6 least_2), (2, i6 most_3)]) ⟨[], []⟩ ?_)
 refine Ex.seq ?_
 rcases condI h with ⟨hc_4, h⟩ | ⟨hc_4, h⟩
 ·refine regH 9 [(3, .eq (.bool true))] [6] [AV.bool (decide (n_1 ≥ least_2)) = AV.bool true] (mkS 15 [(6, .bool (decide (n_1 ≤ most_3)))]) (⟨[], []⟩) (by kernel_rfl) ⟨congrArg AV.bool hc_4, trivial⟩ rfl ?_
  refine Ex.ret ?_
  obtain rfl := sJ h
  exact rt (.bool (decide (n_1 ≤ most_3)))
 ·refine regH 9 [(3, .eq (.bool false))] [6] [AV.bool (decide (n_1 ≥ least_2)) = AV.bool false] (mkS 15 [(6, .bool false)]) (⟨[], []⟩) (by kernel_rfl) ⟨congrArg AV.bool hc_4, trivial⟩ rfl ?_
  refine Ex.ret ?_
  obtain rfl := sJ h
  exact rt (.bool false)
def p_parade_isName (N : Nat) (name_1 : ByteArray) : Option (Bool) := ((p_parade_within N (name_1.size : Int) 1 8).bind fun r_2 => (bif (!r_2) then some false else (letJ (fun (_ : Unit) => some true) (fun k_4 => (loop1 (fun rec_8 (y_7 : Int) => (bif (decide (y_7 < (name_1.size : Int))) then (letJ (fun (y_12 : Bool) => (bif y_12 then some false else (rec_8 (IntKind.i64.wrap (y_7 + 1))))) (fun k_13 => ((idxB name_1 y_7).bind fun c_16 => (bif (decide (c_16 < 97)) then (k_13 true) else ((idxB name_1 y_7).bind fun c_18 => (k_13 (decide (c_18 > 122)))))))) else (k_4 ()))) N 0)))))
def v_parade_isName (r : Bool) : AV := .bool r
attribute [local simp] v_parade_isName
theorem a_parade_isName (name_1 : ByteArray) : [.str name_1].mapM (ren []) = some [.str name_1] := by simp
theorem b_parade_isName (r : Bool) (n n2 m : Nat) : back n n2 m (v_parade_isName r) = some (v_parade_isName r) := by simp
theorem d_parade_isName (N : Nat) (name_1 : ByteArray) (r : Bool) (h : p_parade_isName N name_1 = some r) : Does Try.prog 131 [.str name_1] [] fun v c => v = v_parade_isName r ∧ c = [] := by
 unfold p_parade_isName at h
 refine Does.ofL comp131 _ _ rfl rfl ?_
 refine Ex.seq (rg 1 [0] (mkS 24 [(0, .str name_1)]) ⟨[], []⟩ ?_)
 refine Ex.seq (Ex.seq ?_)
 obtain ⟨r_2, hr_2, h⟩ := bE h
 refine Ex.reg (rn 2 [0, 5] (mkS 24 [(0, .str name_1), (5, i6 (name_1.size : Int))]) ⟨[], []⟩ ?_)
 refine ExO.callL [] [i6 (name_1.size : Int), i6 1, i6 8] rfl rfl (a_parade_within (name_1.size : Int) 1 8) rfl rfl (d_parade_within N (name_1.size : Int) 1 8 r_2 hr_2) (b_parade_within _ _ _ _) rfl ?_
 refine rn 1 [0, 7] (mkS 24 [(0, .str name_1), (7, .bool (!r_2))]) ⟨[], []⟩ ?_
 refine ExO.nil ?_
 rcases condI h with ⟨hc_3, h⟩ | ⟨hc_3, h⟩
 ·refine Ex.condT _ rfl hc_3 ?_
  refine Ex.seq (rg 1 [2] (mkS 24 [(2, .bool false)]) ⟨[], []⟩ ?_)
  refine Ex.ret ?_
  obtain rfl := sJ h
  exact rt (.bool false)
 ·refine Ex.condF _ rfl hc_3 ?_
  refine Ex.skip ?_
  refine Ex.seq (Ex.seq ?_)
  refine rg 3 [0, 9, 10] (mkS 24 [(0, .str name_1), (9, i6 (name_1.size : Int)), (10, i6 0)]) ⟨[], []⟩ ?_
  obtain ⟨K_5, hK_6, h⟩ := letE h
  refine Ex.blockJ (fun a S => K_5 () = some r ∧ a = mkS 24 [] ∧ S = ⟨[], []⟩) ?_ ?_
  ·obtain ⟨B_9, hB_10, h⟩ := loop1I h
   refine Ex.loopF (fun k a S => ∃ (y_7 : Int), loop1 B_9 k y_7 = some r ∧ a = mkS 24 [(0, .str name_1), (9, i6 (name_1.size : Int)), (10, i6 y_7)] ∧ S = ⟨[], []⟩) N ⟨_, _, Forgets.refl _ _ _, 0, h, rfl, rfl⟩ ?_
   rintro k a S ⟨y_7, h, rfl, rfl⟩
   cases k with
   | zero => exact (loop1Z h).elim
   | succ k =>
    replace h := loop1S h hB_10
    refine Ex.seq (rg 1 [0, 9, 10, 11] (mkS 24 [(0, .str name_1), (9, i6 (name_1.size : Int)), (10, i6 y_7), (11, .bool (decide (y_7 < (name_1.size : Int))))]) ⟨[], []⟩ ?_)
    refine Ex.seq ?_
    rcases condI h with ⟨hc_11, h⟩ | ⟨hc_11, h⟩
    ·refine Ex.condT _ rfl hc_11 ?_
     refine Ex.skip ?_
     refine Ex.seq ?_
     refine Ex.blockK ?_
     refine Ex.seq (rg 2 [0, 3, 9, 10] (mkS 24 [(0, .str name_1), (3, i6 y_7), (9, i6 (name_1.size : Int)), (10, i6 y_7)]) ⟨[], []⟩ ?_)
     obtain ⟨K_14, hK_15, h⟩ := letE h
     refine Ex.seqJ (fun a S => ∃ (y_12 : Bool), K_14 y_12 = some r ∧ a = mkS 24 [(0, .str name_1), (9, i6 (name_1.size : Int)), (10, i6 y_7), (22, .bool y_12)] ∧ S = ⟨[], []⟩) ?_ ?_
     ·obtain ⟨c_16, hc_16, h⟩ := bE h
      rcases condI h with ⟨hc_17, h⟩ | ⟨hc_17, h⟩
      ·refine regH 10 [(2, .ix c_16), (4, .eq (.bool true))] [0, 9, 10, 22] [LIdx name_1 y_7 c_16, AV.bool (decide (c_16 < 97)) = AV.bool true] (mkS 24 [(0, .str name_1), (9, i6 (name_1.size : Int)), (10, i6 y_7), (22, .bool true)]) (⟨[], []⟩) (by kernel_rfl) ⟨idxB.of hc_16, congrArg AV.bool hc_17, trivial⟩ rfl ?_
       (try simp only [reduceCtorEq, AEx.ex.injEq, Nat.reduceEqDiff, if_true, if_false])
       exact ⟨_, _, Forgets.refl _ _ _, true, h, rfl, rfl⟩
      ·obtain ⟨c_18, hc_18, h⟩ := bE h
       refine regH 10 [(2, .ix c_16), (4, .eq (.bool false)), (7, .ix c_18)] [0, 9, 10, 22] [LIdx name_1 y_7 c_16, AV.bool (decide (c_16 < 97)) = AV.bool false, LIdx name_1 y_7 c_18] (mkS 24 [(0, .str name_1), (9, i6 (name_1.size : Int)), (10, i6 y_7), (22, .bool (decide (c_18 > 122)))]) (⟨[], []⟩) (by kernel_rfl) ⟨idxB.of hc_16, congrArg AV.bool hc_17, idxB.of hc_18, trivial⟩ rfl ?_
       (try simp only [reduceCtorEq, AEx.ex.injEq, Nat.reduceEqDiff, if_true, if_false])
       exact ⟨_, _, Forgets.refl _ _ _, (decide (c_18 > 122)), h, rfl, rfl⟩
     ·rintro a S ⟨y_12, h, rfl, rfl⟩
      subst hK_15
      rcases condI h with ⟨hc_19, h⟩ | ⟨hc_19, h⟩
      ·refine Ex.condT _ rfl hc_19 ?_
       refine Ex.seq (rg 1 [2] (mkS 24 [(2, .bool false)]) ⟨[], []⟩ ?_)
       refine Ex.ret ?_
       obtain rfl := sJ h
       exact rt (.bool false)
      ·refine Ex.condF _ rfl hc_19 ?_
       refine Ex.skip ?_
       refine rg 2 [0, 9, 10] (mkS 24 [(0, .str name_1), (9, i6 (name_1.size : Int)), (10, i6 (IntKind.i64.wrap (y_7 + 1)))]) ⟨[], []⟩ ?_
       dsimp only
       exact ⟨_, _, Forgets.refl _ _ _, k, Nat.lt_succ_self k, (IntKind.i64.wrap (y_7 + 1)), h, rfl, rfl⟩
    ·refine Ex.condF _ rfl hc_11 ?_
     refine Ex.exit ?_
     (try simp only [reduceCtorEq, AEx.ex.injEq, Nat.reduceEqDiff, if_true, if_false])
     exact ⟨_, _, forgetK [], h, rfl, rfl⟩
  ·rintro a S ⟨h, rfl, rfl⟩
   subst hK_6
   refine Ex.seq (rg 1 [2] (mkS 24 [(2, .bool true)]) ⟨[], []⟩ ?_)
   refine Ex.ret ?_
   obtain rfl := sJ h
   exact rt (.bool true)
def p_parade_checkWing (N : Nat) (w_1 : T_Wing) (before_2 : (List T_Wing)) : Option (Int) := ((p_parade_isName N w_1.Name).bind fun r_3 => (bif (!r_3) then some 1 else (letJ (fun (_ : Unit) => ((p_parade_within N w_1.Length 1 5000).bind fun r_15 => (bif (!r_15) then some 2 else (letJ (fun (y_17 : Bool) => (bif y_17 then some 2 else (bif (decide (w_1.Pace.Lo > w_1.Pace.Hi)) then some 9 else some 0))) (fun k_18 => ((p_parade_within N w_1.Pace.Lo 1 200).bind fun r_21 => (bif (!r_21) then (k_18 true) else ((p_parade_within N w_1.Pace.Hi 1 200).bind fun r_23 => (k_18 (!r_23)))))))))) (fun k_5 => (loop1 (fun rec_9 (y_8 : Int) => (bif (decide (y_8 < ((before_2.length : Nat) : Int))) then ((getI before_2 y_8).bind fun x_13 => (bif (x_13.Name.toList == w_1.Name.toList) then some 8 else (rec_9 (IntKind.i64.wrap (y_8 + 1))))) else (k_5 ()))) N 0)))))
def v_parade_checkWing (r : Int) : AV := i6 r
attribute [local simp] v_parade_checkWing
theorem a_parade_checkWing (w_1 : T_Wing) (before_2 : (List T_Wing)) : [(A_Wing w_1), .sl (before_2.map A_Wing) none].mapM (ren []) = some [(A_Wing w_1), .sl (before_2.map A_Wing) none] := by simp
theorem b_parade_checkWing (r : Int) (n n2 m : Nat) : back n n2 m (v_parade_checkWing r) = some (v_parade_checkWing r) := by simp
theorem d_parade_checkWing (N : Nat) (w_1 : T_Wing) (before_2 : (List T_Wing)) (r : Int) (h : p_parade_checkWing N w_1 before_2 = some r) : Does Try.prog 120 [(A_Wing w_1), .sl (before_2.map A_Wing) none] [] fun v c => v = v_parade_checkWing r ∧ c = [] := by
 unfold p_parade_checkWing at h
 refine Does.ofL comp120 _ _ rfl rfl ?_
 refine Ex.seq (rg 2 [1, 2] (mkS 49 [(1, .sl (before_2.map A_Wing) none), (2, .ptr 0 0)]) ⟨[(C_Wing w_1)], []⟩ ?_)
 refine Ex.seq (Ex.seq ?_)
 obtain ⟨r_3, hr_3, h⟩ := bE h
 refine Ex.reg (rn 2 [1, 2, 8] (mkS 49 [(1, .sl (before_2.map A_Wing) none), (2, .ptr 0 0), (8, .str w_1.Name)]) ⟨[(C_Wing w_1)], []⟩ ?_)
 refine ExO.callL [] [.str w_1.Name] rfl rfl (a_parade_isName w_1.Name) rfl rfl (d_parade_isName N w_1.Name r_3 hr_3) (b_parade_isName _ _ _ _) rfl ?_
 refine rn 1 [1, 2, 10] (mkS 49 [(1, .sl (before_2.map A_Wing) none), (2, .ptr 0 0), (10, .bool (!r_3))]) ⟨[(C_Wing w_1)], []⟩ ?_
 refine ExO.nil ?_
 rcases condI h with ⟨hc_4, h⟩ | ⟨hc_4, h⟩
 ·refine Ex.condT _ rfl hc_4 ?_
  refine Ex.seq (rg 1 [4] (mkS 49 [(4, i6 1)]) ⟨[(C_Wing w_1)], []⟩ ?_)
  refine Ex.ret ?_
  obtain rfl := sJ h
  exact rt (i6 1)
 ·refine Ex.condF _ rfl hc_4 ?_
  refine Ex.skip ?_
  refine Ex.seq (Ex.seq ?_)
  refine regH 3 [(1, .eq (i6 ((before_2.length : Nat) : Int)))] [2, 11, 12, 13] [AV.int .i64 (((before_2.map A_Wing).length : Nat) : Int) = AV.int .i64 ((before_2.length : Nat) : Int)] (mkS 49 [(2, .ptr 0 0), (11, .sl (before_2.map A_Wing) none), (12, i6 ((before_2.length : Nat) : Int)), (13, i6 0)]) (⟨[(C_Wing w_1)], []⟩) (by kernel_rfl) ⟨lenM _ _, trivial⟩ rfl ?_
  obtain ⟨K_6, hK_7, h⟩ := letE h
  refine Ex.blockJ (fun a S => K_6 () = some r ∧ a = mkS 49 [(2, .ptr 0 0)] ∧ S = ⟨[(C_Wing w_1)], []⟩) ?_ ?_
  ·obtain ⟨B_10, hB_11, h⟩ := loop1I h
   refine Ex.loopF (fun k a S => ∃ (y_8 : Int), loop1 B_10 k y_8 = some r ∧ a = mkS 49 [(2, .ptr 0 0), (11, .sl (before_2.map A_Wing) none), (12, i6 ((before_2.length : Nat) : Int)), (13, i6 y_8)] ∧ S = ⟨[(C_Wing w_1)], []⟩) N ⟨_, _, Forgets.refl _ _ _, 0, h, rfl, rfl⟩ ?_
   rintro k a S ⟨y_8, h, rfl, rfl⟩
   cases k with
   | zero => exact (loop1Z h).elim
   | succ k =>
    replace h := loop1S h hB_11
    refine Ex.seq (rg 1 [2, 11, 12, 13, 14] (mkS 49 [(2, .ptr 0 0), (11, .sl (before_2.map A_Wing) none), (12, i6 ((before_2.length : Nat) : Int)), (13, i6 y_8), (14, .bool (decide (y_8 < ((before_2.length : Nat) : Int))))]) ⟨[(C_Wing w_1)], []⟩ ?_)
    refine Ex.seq ?_
    rcases condI h with ⟨hc_12, h⟩ | ⟨hc_12, h⟩
    ·refine Ex.condT _ rfl hc_12 ?_
     refine Ex.skip ?_
     refine Ex.seq ?_
     refine Ex.blockK ?_
     refine Ex.seq ?_
     obtain ⟨x_13, hx_13, h⟩ := bE h
     refine regH 4 [(0, .rop (C_Wing x_13))] [2, 6, 11, 12, 13] [LGet (before_2.map A_Wing) y_8 4 (C_Wing x_13)] (mkS 49 [(2, .ptr 0 0), (6, .ptr 1 0), (11, .sl (before_2.map A_Wing) none), (12, i6 ((before_2.length : Nat) : Int)), (13, i6 y_8)]) (⟨[(C_Wing w_1), (C_Wing x_13)], []⟩) (by kernel_rfl) ⟨LGet.of hx_13 rfl, trivial⟩ rfl ?_
     refine Ex.seq (rg 5 [2, 11, 12, 13, 21] (mkS 49 [(2, .ptr 0 0), (11, .sl (before_2.map A_Wing) none), (12, i6 ((before_2.length : Nat) : Int)), (13, i6 y_8), (21, .bool (x_13.Name.toList == w_1.Name.toList))]) ⟨[(C_Wing w_1), (C_Wing x_13)], []⟩ ?_)
     rcases condI h with ⟨hc_14, h⟩ | ⟨hc_14, h⟩
     ·refine Ex.condT _ rfl hc_14 ?_
      refine Ex.seq (rg 1 [4] (mkS 49 [(4, i6 8)]) ⟨[(C_Wing w_1), (C_Wing x_13)], []⟩ ?_)
      refine Ex.ret ?_
      obtain rfl := sJ h
      exact rt (i6 8)
     ·refine Ex.condF _ rfl hc_14 ?_
      refine Ex.skip ?_
      refine rg 2 [2, 11, 12, 13] (mkS 49 [(2, .ptr 0 0), (11, .sl (before_2.map A_Wing) none), (12, i6 ((before_2.length : Nat) : Int)), (13, i6 (IntKind.i64.wrap (y_8 + 1)))]) ⟨[(C_Wing w_1), (C_Wing x_13)], []⟩ ?_
      dsimp only
      exact ⟨_, _, forgetA (m := 49) 1 [] [(2, .ptr 0 0), (11, .sl (before_2.map A_Wing) none), (12, i6 ((before_2.length : Nat) : Int)), (13, i6 (IntKind.i64.wrap (y_8 + 1)))] [(C_Wing w_1)] [] (by simp [setAll]) (by simp) ⟨rfl, (reN (KL_Wing _)), rfl, rfl, trivial⟩ (by simp) rfl (by decide), k, Nat.lt_succ_self k, (IntKind.i64.wrap (y_8 + 1)), h, rfl, rfl⟩
    ·refine Ex.condF _ rfl hc_12 ?_
     refine Ex.exit ?_
     (try simp only [reduceCtorEq, AEx.ex.injEq, Nat.reduceEqDiff, if_true, if_false])
     exact ⟨_, _, forgetK [2], h, rfl, rfl⟩
  ·rintro a S ⟨h, rfl, rfl⟩
   subst hK_7
   refine Ex.seq ?_
   refine Ex.blockK ?_
   refine Ex.seq ?_
   obtain ⟨r_15, hr_15, h⟩ := bE h
   refine Ex.reg (rn 2 [2, 25] (mkS 49 [(2, .ptr 0 0), (25, i6 w_1.Length)]) ⟨[(C_Wing w_1)], []⟩ ?_)
   refine ExO.callL [] [i6 w_1.Length, i6 1, i6 5000] rfl rfl (a_parade_within w_1.Length 1 5000) rfl rfl (d_parade_within N w_1.Length 1 5000 r_15 hr_15) (b_parade_within _ _ _ _) rfl ?_
   refine rn 2 [2, 23] (mkS 49 [(2, .ptr 0 0), (23, .bool (!r_15))]) ⟨[(C_Wing w_1)], []⟩ ?_
   refine ExO.nil ?_
   rcases condI h with ⟨hc_16, h⟩ | ⟨hc_16, h⟩
   ·refine Ex.condT _ rfl hc_16 ?_
    refine Ex.seq (rg 1 [4] (mkS 49 [(4, i6 2)]) ⟨[(C_Wing w_1)], []⟩ ?_)
    refine Ex.ret ?_
    obtain rfl := sJ h
    exact rt (i6 2)
   ·refine Ex.condF _ rfl hc_16 ?_
    obtain ⟨K_19, hK_20, h⟩ := letE h
    refine Ex.seqJ (fun a S => ∃ (y_17 : Bool), K_19 y_17 = some r ∧ a = mkS 49 [(2, .ptr 0 0), (28, .bool y_17)] ∧ S = ⟨[(C_Wing w_1)], []⟩) ?_ ?_
    ·obtain ⟨r_21, hr_21, h⟩ := bE h
     refine Ex.reg (rn 3 [2, 31] (mkS 49 [(2, .ptr 0 0), (31, i6 w_1.Pace.Lo)]) ⟨[(C_Wing w_1)], []⟩ ?_)
     refine ExO.callL [] [i6 w_1.Pace.Lo, i6 1, i6 200] rfl rfl (a_parade_within w_1.Pace.Lo 1 200) rfl rfl (d_parade_within N w_1.Pace.Lo 1 200 r_21 hr_21) (b_parade_within _ _ _ _) rfl ?_
     rcases condI h with ⟨hc_22, h⟩ | ⟨hc_22, h⟩
     ·refine runH 9 [(1, .eq (.bool true))] [2, 28] [AV.bool (!r_21) = AV.bool true] (mkS 49 [(2, .ptr 0 0), (28, .bool true)]) (⟨[(C_Wing w_1)], []⟩) (by kernel_rfl) ⟨congrArg AV.bool hc_22, trivial⟩ ?_
      refine ExO.nil ?_
      (try simp only [reduceCtorEq, AEx.ex.injEq, Nat.reduceEqDiff, if_true, if_false])
      exact ⟨_, _, Forgets.refl _ _ _, true, h, rfl, rfl⟩
     ·obtain ⟨r_23, hr_23, h⟩ := bE h
      refine runH 5 [(1, .eq (.bool false))] [2, 34, 37] [AV.bool (!r_21) = AV.bool false] (mkS 49 [(2, .ptr 0 0), (34, .bool false), (37, i6 w_1.Pace.Hi)]) (⟨[(C_Wing w_1)], []⟩) (by kernel_rfl) ⟨congrArg AV.bool hc_22, trivial⟩ ?_
      refine ExO.callL [] [i6 w_1.Pace.Hi, i6 1, i6 200] rfl rfl (a_parade_within w_1.Pace.Hi 1 200) rfl rfl (d_parade_within N w_1.Pace.Hi 1 200 r_23 hr_23) (b_parade_within _ _ _ _) rfl ?_
      refine rn 3 [2, 28] (mkS 49 [(2, .ptr 0 0), (28, .bool (!r_23))]) ⟨[(C_Wing w_1)], []⟩ ?_
      refine ExO.nil ?_
      (try simp only [reduceCtorEq, AEx.ex.injEq, Nat.reduceEqDiff, if_true, if_false])
      exact ⟨_, _, Forgets.refl _ _ _, (!r_23), h, rfl, rfl⟩
    ·rintro a S ⟨y_17, h, rfl, rfl⟩
     subst hK_20
     rcases condI h with ⟨hc_24, h⟩ | ⟨hc_24, h⟩
     ·refine Ex.condT _ rfl hc_24 ?_
      refine Ex.seq (rg 1 [4] (mkS 49 [(4, i6 2)]) ⟨[(C_Wing w_1)], []⟩ ?_)
      refine Ex.ret ?_
      obtain rfl := sJ h
      exact rt (i6 2)
     ·refine Ex.condF _ rfl hc_24 ?_
      refine Ex.seq (rg 8 [41] (mkS 49 [(41, .bool (decide (w_1.Pace.Lo > w_1.Pace.Hi)))]) ⟨[(C_Wing w_1)], []⟩ ?_)
      rcases condI h with ⟨hc_25, h⟩ | ⟨hc_25, h⟩
      ·refine Ex.condT _ rfl hc_25 ?_
       refine Ex.seq (rg 1 [4] (mkS 49 [(4, i6 9)]) ⟨[(C_Wing w_1)], []⟩ ?_)
       refine Ex.ret ?_
       obtain rfl := sJ h
       exact rt (i6 9)
      ·refine Ex.condF _ rfl hc_25 ?_
       refine Ex.skip ?_
       refine Ex.seq (rg 1 [4] (mkS 49 [(4, i6 0)]) ⟨[(C_Wing w_1)], []⟩ ?_)
       refine Ex.ret ?_
       obtain rfl := sJ h
       exact rt (i6 0)
def p_parade_Check (N : Nat) (s_1 : T_School) : Option (Int) := ((p_parade_within N s_1.Route 1 100000).bind fun r_2 => (bif (!r_2) then some 2 else (bif (((s_1.Wings.length : Nat) : Int) == 0) then some 4 else (bif (decide (((s_1.Wings.length : Nat) : Int) > 8)) then some 5 else (letJ (fun (_ : Unit) => some 0) (fun k_6 => (loop1 (fun rec_10 (y_9 : Int) => (bif (decide (y_9 < ((s_1.Wings.length : Nat) : Int))) then ((getI s_1.Wings y_9).bind fun x_14 => ((partI s_1.Wings 0 y_9).bind fun l_15 => ((p_parade_checkWing N x_14 l_15).bind fun r_16 => (bif (r_16 != 0) then some r_16 else (rec_10 (IntKind.i64.wrap (y_9 + 1))))))) else (k_6 ()))) N 0)))))))
def v_parade_Check (r : Int) : AV := i6 r
attribute [local simp] v_parade_Check
theorem a_parade_Check (s_1 : T_School) : [(A_School s_1)].mapM (ren []) = some [(A_School s_1)] := by simp
theorem b_parade_Check (r : Int) (n n2 m : Nat) : back n n2 m (v_parade_Check r) = some (v_parade_Check r) := by simp
theorem d_parade_Check (N : Nat) (s_1 : T_School) (r : Int) (h : p_parade_Check N s_1 = some r) : Does Try.prog 87 [(A_School s_1)] [] fun v c => v = v_parade_Check r ∧ c = [] := by
 unfold p_parade_Check at h
 refine Does.ofL comp87 _ _ rfl rfl ?_
 refine Ex.seq (rg 2 [1] (mkS 39 [(1, .ptr 0 0)]) ⟨[(C_School s_1)], []⟩ ?_)
 refine Ex.seq ?_
 refine Ex.blockK ?_
 refine Ex.seq ?_
 obtain ⟨r_2, hr_2, h⟩ := bE h
 refine Ex.reg (rn 2 [1, 8] (mkS 39 [(1, .ptr 0 0), (8, i6 s_1.Route)]) ⟨[(C_School s_1)], []⟩ ?_)
 refine ExO.callL [] [i6 s_1.Route, i6 1, i6 100000] rfl rfl (a_parade_within s_1.Route 1 100000) rfl rfl (d_parade_within N s_1.Route 1 100000 r_2 hr_2) (b_parade_within _ _ _ _) rfl ?_
 refine rn 2 [1, 6] (mkS 39 [(1, .ptr 0 0), (6, .bool (!r_2))]) ⟨[(C_School s_1)], []⟩ ?_
 refine ExO.nil ?_
 rcases condI h with ⟨hc_3, h⟩ | ⟨hc_3, h⟩
 ·refine Ex.condT _ rfl hc_3 ?_
  refine Ex.seq (rg 1 [2] (mkS 39 [(2, i6 2)]) ⟨[(C_School s_1)], []⟩ ?_)
  refine Ex.ret ?_
  obtain rfl := sJ h
  exact rt (i6 2)
 ·refine Ex.condF _ rfl hc_3 ?_
  refine Ex.seq ?_
  refine regH 5 [(2, .eq (i6 ((s_1.Wings.length : Nat) : Int)))] [1, 11] [AV.int .i64 (((s_1.Wings.map A_Wing).length : Nat) : Int) = AV.int .i64 ((s_1.Wings.length : Nat) : Int)] (mkS 39 [(1, .ptr 0 0), (11, .bool (((s_1.Wings.length : Nat) : Int) == 0))]) (⟨[(C_School s_1)], []⟩) (by kernel_rfl) ⟨lenM _ _, trivial⟩ rfl ?_
  rcases condI h with ⟨hc_4, h⟩ | ⟨hc_4, h⟩
  ·refine Ex.condT _ rfl hc_4 ?_
   refine Ex.seq (rg 1 [2] (mkS 39 [(2, i6 4)]) ⟨[(C_School s_1)], []⟩ ?_)
   refine Ex.ret ?_
   obtain rfl := sJ h
   exact rt (i6 4)
  ·refine Ex.condF _ rfl hc_4 ?_
   refine Ex.seq ?_
   refine regH 5 [(2, .eq (i6 ((s_1.Wings.length : Nat) : Int)))] [1, 16] [AV.int .i64 (((s_1.Wings.map A_Wing).length : Nat) : Int) = AV.int .i64 ((s_1.Wings.length : Nat) : Int)] (mkS 39 [(1, .ptr 0 0), (16, .bool (decide (((s_1.Wings.length : Nat) : Int) > 8)))]) (⟨[(C_School s_1)], []⟩) (by kernel_rfl) ⟨lenM _ _, trivial⟩ rfl ?_
   rcases condI h with ⟨hc_5, h⟩ | ⟨hc_5, h⟩
   ·refine Ex.condT _ rfl hc_5 ?_
    refine Ex.seq (rg 1 [2] (mkS 39 [(2, i6 5)]) ⟨[(C_School s_1)], []⟩ ?_)
    refine Ex.ret ?_
    obtain rfl := sJ h
    exact rt (i6 5)
   ·refine Ex.condF _ rfl hc_5 ?_
    refine Ex.skip ?_
    refine Ex.seq (Ex.seq ?_)
    refine regH 4 [(2, .eq (i6 ((s_1.Wings.length : Nat) : Int)))] [1, 22, 23, 24] [AV.int .i64 (((s_1.Wings.map A_Wing).length : Nat) : Int) = AV.int .i64 ((s_1.Wings.length : Nat) : Int)] (mkS 39 [(1, .ptr 0 0), (22, .sl (s_1.Wings.map A_Wing) none), (23, i6 ((s_1.Wings.length : Nat) : Int)), (24, i6 0)]) (⟨[(C_School s_1)], []⟩) (by kernel_rfl) ⟨lenM _ _, trivial⟩ rfl ?_
    obtain ⟨K_7, hK_8, h⟩ := letE h
    refine Ex.blockJ (fun a S => K_7 () = some r ∧ a = mkS 39 [] ∧ S = ⟨[], []⟩) ?_ ?_
    ·obtain ⟨B_11, hB_12, h⟩ := loop1I h
     refine Ex.loopF (fun k a S => ∃ (y_9 : Int), loop1 B_11 k y_9 = some r ∧ a = mkS 39 [(1, .ptr 0 0), (22, .sl (s_1.Wings.map A_Wing) none), (23, i6 ((s_1.Wings.length : Nat) : Int)), (24, i6 y_9)] ∧ S = ⟨[(C_School s_1)], []⟩) N ⟨_, _, Forgets.refl _ _ _, 0, h, rfl, rfl⟩ ?_
     rintro k a S ⟨y_9, h, rfl, rfl⟩
     cases k with
     | zero => exact (loop1Z h).elim
     | succ k =>
      replace h := loop1S h hB_12
      refine Ex.seq (rg 1 [1, 22, 23, 24, 25] (mkS 39 [(1, .ptr 0 0), (22, .sl (s_1.Wings.map A_Wing) none), (23, i6 ((s_1.Wings.length : Nat) : Int)), (24, i6 y_9), (25, .bool (decide (y_9 < ((s_1.Wings.length : Nat) : Int))))]) ⟨[(C_School s_1)], []⟩ ?_)
      refine Ex.seq ?_
      rcases condI h with ⟨hc_13, h⟩ | ⟨hc_13, h⟩
      ·refine Ex.condT _ rfl hc_13 ?_
       refine Ex.skip ?_
       refine Ex.seq ?_
       refine Ex.blockK ?_
       refine Ex.seq ?_
       obtain ⟨x_14, hx_14, h⟩ := bE h
       refine regH 6 [(1, .rop (C_Wing x_14))] [1, 3, 4, 22, 23, 24] [LGet (s_1.Wings.map A_Wing) y_9 4 (C_Wing x_14)] (mkS 39 [(1, .ptr 0 0), (3, i6 y_9), (4, .ptr 1 0), (22, .sl (s_1.Wings.map A_Wing) none), (23, i6 ((s_1.Wings.length : Nat) : Int)), (24, i6 y_9)]) (⟨[(C_School s_1), (C_Wing x_14)], []⟩) (by kernel_rfl) ⟨LGet.of hx_14 rfl, trivial⟩ rfl ?_
       refine Ex.seq ?_
       obtain ⟨l_15, hl_15, h⟩ := bE h
       refine Ex.drawE (a1 := mkS 39 [(1, .ptr 0 0), (3, i6 y_9), (4, .ptr 1 0), (22, .sl (s_1.Wings.map A_Wing) none), (23, i6 ((s_1.Wings.length : Nat) : Int)), (24, i6 y_9), (29, (A_Wing x_14)), (30, .ptr 0 1), (31, .sl (s_1.Wings.map A_Wing) none), (32, i6 y_9), (33, .sl (l_15.map A_Wing) none)]) (noClr_ok _) [] [] [] ?_ ?_
       ·refine drS [0, 1] 5 [(4, .sc (l_15.map A_Wing))] [LSlc (s_1.Wings.map A_Wing) none (some y_9) 4 (l_15.map A_Wing)] (mkS 39 [(1, .ptr 0 0), (3, i6 y_9), (4, .ptr 1 0), (22, .sl (s_1.Wings.map A_Wing) none), (23, i6 ((s_1.Wings.length : Nat) : Int)), (24, i6 y_9), (29, (A_Wing x_14)), (30, .ptr 0 1), (31, .sl (s_1.Wings.map A_Wing) none), (32, i6 y_9), (33, .sl (l_15.map A_Wing) none)]) (by simp) (by kernel_rfl) ⟨partI.ofR (f := A_Wing) (fun _ => rfl) hl_15, trivial⟩ (by kernel_rfl) ?_
        exact DrO.nil rfl
       ·dsimp only [List.getLastD_cons, List.getLastD_nil]
        obtain ⟨r_16, hr_16, h⟩ := bE h
        refine ExO.callL [] [(A_Wing x_14), .sl (l_15.map A_Wing) none] rfl rfl (a_parade_checkWing x_14 l_15) rfl rfl (d_parade_checkWing N x_14 l_15 r_16 hr_16) (b_parade_checkWing _ _ _ _) rfl ?_
        refine rn 1 [1, 5, 22, 23, 24] (mkS 39 [(1, .ptr 0 0), (5, i6 r_16), (22, .sl (s_1.Wings.map A_Wing) none), (23, i6 ((s_1.Wings.length : Nat) : Int)), (24, i6 y_9)]) ⟨[(C_School s_1), (C_Wing x_14)], []⟩ ?_
        refine ExO.nil ?_
        refine Ex.seq (rg 2 [1, 5, 22, 23, 24, 36] (mkS 39 [(1, .ptr 0 0), (5, i6 r_16), (22, .sl (s_1.Wings.map A_Wing) none), (23, i6 ((s_1.Wings.length : Nat) : Int)), (24, i6 y_9), (36, .bool (r_16 != 0))]) ⟨[(C_School s_1), (C_Wing x_14)], []⟩ ?_)
        rcases condI h with ⟨hc_17, h⟩ | ⟨hc_17, h⟩
        ·refine Ex.condT _ rfl hc_17 ?_
         refine Ex.seq (rg 2 [2] (mkS 39 [(2, i6 r_16)]) ⟨[(C_School s_1), (C_Wing x_14)], []⟩ ?_)
         refine Ex.ret ?_
         obtain rfl := sJ h
         exact rt (i6 r_16)
        ·refine Ex.condF _ rfl hc_17 ?_
         refine Ex.skip ?_
         refine rg 2 [1, 22, 23, 24] (mkS 39 [(1, .ptr 0 0), (22, .sl (s_1.Wings.map A_Wing) none), (23, i6 ((s_1.Wings.length : Nat) : Int)), (24, i6 (IntKind.i64.wrap (y_9 + 1)))]) ⟨[(C_School s_1), (C_Wing x_14)], []⟩ ?_
         dsimp only
         exact ⟨_, _, forgetA (m := 39) 1 [] [(1, .ptr 0 0), (22, .sl (s_1.Wings.map A_Wing) none), (23, i6 ((s_1.Wings.length : Nat) : Int)), (24, i6 (IntKind.i64.wrap (y_9 + 1)))] [(C_School s_1)] [] (by simp [setAll]) (by simp) ⟨rfl, (reN (KL_Wing _)), rfl, rfl, trivial⟩ (by simp) rfl (by decide), k, Nat.lt_succ_self k, (IntKind.i64.wrap (y_9 + 1)), h, rfl, rfl⟩
      ·refine Ex.condF _ rfl hc_13 ?_
       refine Ex.exit ?_
       (try simp only [reduceCtorEq, AEx.ex.injEq, Nat.reduceEqDiff, if_true, if_false])
       exact ⟨_, _, forgetA (m := 39) 0 [] [] [] [] (by simp [setAll]) (by simp) trivial (by simp) rfl (by decide), h, rfl, rfl⟩
    ·rintro a S ⟨h, rfl, rfl⟩
     subst hK_8
     refine Ex.seq (rg 1 [2] (mkS 39 [(2, i6 0)]) ⟨[], []⟩ ?_)
     refine Ex.ret ?_
     obtain rfl := sJ h
     exact rt (i6 0)
structure T_V2_i64 where
 a0 : Int
 a1 : Int
 deriving Inhabited
def C_V2_i64 (x : T_V2_i64) : List AV := [i6 x.a0, i6 x.a1]
attribute [local simp] C_V2_i64
def A_V2_i64 (x : T_V2_i64) : AV := .agg (C_V2_i64 x)
attribute [local simp] A_V2_i64
theorem KC_V2_i64 (x : T_V2_i64) : cleanL (C_V2_i64 x) = true := by simp
theorem KA_V2_i64 (x : T_V2_i64) : (A_V2_i64 x).clean = true := KC_V2_i64 x
theorem KL_V2_i64 (l : List T_V2_i64) : cleanL (l.map A_V2_i64) = true := cleanM KA_V2_i64 l
attribute [local simp] KL_V2_i64
theorem KB_V2_i64 (x : T_V2_i64) (n : Nat) (σ : List Nat) : (C_V2_i64 x).mapM (re n σ) = some (C_V2_i64 x) := by simp
attribute [local simp] KB_V2_i64
def T_V2_i64.l (x : T_V2_i64) : List Int := [x.a0, x.a1]
def T_V2_i64.ofl (l : List Int) : T_V2_i64 := ⟨l[0]?.getD default, l[1]?.getD default⟩
theorem T_V2_i64.l_ofl (l : List Int) (h : l.length = 2) : (T_V2_i64.ofl l).l = l := by
 obtain ⟨a0, l0, rfl, h0⟩ := lenS h
 obtain ⟨a1, l1, rfl, h1⟩ := lenS h0
 obtain rfl := List.eq_nil_of_length_eq_zero h1; rfl
def p_parade_endsOf (N : Nat) (pace_1 : T_Span) : Option (T_V2_i64) := some (⟨pace_1.Lo, pace_1.Hi⟩ : T_V2_i64)
def v_parade_endsOf (r : T_V2_i64) : AV := (A_V2_i64 r)
attribute [local simp] v_parade_endsOf
theorem a_parade_endsOf (pace_1 : T_Span) : [(A_Span pace_1)].mapM (ren []) = some [(A_Span pace_1)] := by simp
theorem b_parade_endsOf (r : T_V2_i64) (n n2 m : Nat) : back n n2 m (v_parade_endsOf r) = some (v_parade_endsOf r) := by simp
theorem d_parade_endsOf (N : Nat) (pace_1 : T_Span) (r : T_V2_i64) (h : p_parade_endsOf N pace_1 = some r) : Does Try.prog 90 [(A_Span pace_1)] [] fun v c => v = v_parade_endsOf r ∧ c = [] := by
 unfold p_parade_endsOf at h
 refine Does.ofL comp90 _ _ rfl rfl ?_
 refine Ex.seq (rg 2 [1, 2] (mkS 8 [(1, .ptr 0 0), (2, .ptr 1 0)]) ⟨[(C_Span pace_1), [i6 0, i6 0]], []⟩ ?_)
 refine Ex.seq (rg 6 [2] (mkS 8 [(2, .ptr 1 0)]) ⟨[(C_Span pace_1), (C_Span pace_1)], []⟩ ?_)
 refine Ex.ret ?_
 obtain rfl := sJ h
 exact rt ((A_Span pace_1))
structure T_V8_i64 where
 a0 : Int
 a1 : Int
 a2 : Int
 a3 : Int
 a4 : Int
 a5 : Int
 a6 : Int
 a7 : Int
 deriving Inhabited
def C_V8_i64 (x : T_V8_i64) : List AV := [i6 x.a0, i6 x.a1, i6 x.a2, i6 x.a3, i6 x.a4, i6 x.a5, i6 x.a6, i6 x.a7]
attribute [local simp] C_V8_i64
def A_V8_i64 (x : T_V8_i64) : AV := .agg (C_V8_i64 x)
attribute [local simp] A_V8_i64
theorem KC_V8_i64 (x : T_V8_i64) : cleanL (C_V8_i64 x) = true := by simp
theorem KA_V8_i64 (x : T_V8_i64) : (A_V8_i64 x).clean = true := KC_V8_i64 x
theorem KL_V8_i64 (l : List T_V8_i64) : cleanL (l.map A_V8_i64) = true := cleanM KA_V8_i64 l
attribute [local simp] KL_V8_i64
theorem KB_V8_i64 (x : T_V8_i64) (n : Nat) (σ : List Nat) : (C_V8_i64 x).mapM (re n σ) = some (C_V8_i64 x) := by simp
attribute [local simp] KB_V8_i64
def T_V8_i64.l (x : T_V8_i64) : List Int := [x.a0, x.a1, x.a2, x.a3, x.a4, x.a5, x.a6, x.a7]
def T_V8_i64.ofl (l : List Int) : T_V8_i64 := ⟨l[0]?.getD default, l[1]?.getD default, l[2]?.getD default, l[3]?.getD default, l[4]?.getD default, l[5]?.getD default, l[6]?.getD default, l[7]?.getD default⟩
theorem T_V8_i64.l_ofl (l : List Int) (h : l.length = 8) : (T_V8_i64.ofl l).l = l := by
 obtain ⟨a0, l0, rfl, h0⟩ := lenS h
 obtain ⟨a1, l1, rfl, h1⟩ := lenS h0
 obtain ⟨a2, l2, rfl, h2⟩ := lenS h1
 obtain ⟨a3, l3, rfl, h3⟩ := lenS h2
 obtain ⟨a4, l4, rfl, h4⟩ := lenS h3
 obtain ⟨a5, l5, rfl, h5⟩ := lenS h4
 obtain ⟨a6, l6, rfl, h6⟩ := lenS h5
 obtain ⟨a7, l7, rfl, h7⟩ := lenS h6
 obtain rfl := List.eq_nil_of_length_eq_zero h7; rfl
structure T_parade_truth where
 wings_ : (List T_Wing)
 starts_ : (List Int)
 paces_ : T_V8_i64
 deriving Inhabited
def C_parade_truth (x : T_parade_truth) : List AV := [.sl (x.wings_.map A_Wing) none, .sl (x.starts_.map (AV.int .i64)) none, i6 x.paces_.a0, i6 x.paces_.a1, i6 x.paces_.a2, i6 x.paces_.a3, i6 x.paces_.a4, i6 x.paces_.a5, i6 x.paces_.a6, i6 x.paces_.a7]
attribute [local simp] C_parade_truth
def A_parade_truth (x : T_parade_truth) : AV := .agg (C_parade_truth x)
attribute [local simp] A_parade_truth
theorem KC_parade_truth (x : T_parade_truth) : cleanL (C_parade_truth x) = true := by simp
theorem KA_parade_truth (x : T_parade_truth) : (A_parade_truth x).clean = true := KC_parade_truth x
theorem KL_parade_truth (l : List T_parade_truth) : cleanL (l.map A_parade_truth) = true := cleanM KA_parade_truth l
attribute [local simp] KL_parade_truth
theorem KB_parade_truth (x : T_parade_truth) (n : Nat) (σ : List Nat) : (C_parade_truth x).mapM (re n σ) = some (C_parade_truth x) := by simp
attribute [local simp] KB_parade_truth
def p_parade_allAt (N : Nat) (s_1 : T_School) (starts_2 : (List Int)) (end_3 : Int) : Option (T_parade_truth) := (letJ (fun (z_4 : T_parade_truth) => some z_4) (fun k_5 => (loop2 (fun rec_10 (y_8 : Int) (z_9 : T_parade_truth) => (bif (decide (y_8 < ((s_1.Wings.length : Nat) : Int))) then ((getI s_1.Wings y_8).bind fun x_14 => ((p_parade_endsOf N x_14.Pace).bind fun r_15 => ((getA r_15.l end_3 2).bind fun x_16 => ((idxI y_8 8).bind fun u_17 => ((some (⟨z_9.wings_, z_9.starts_, (T_V8_i64.ofl (z_9.paces_.l.set (Int.toNat y_8) x_16))⟩ : T_parade_truth)).bind fun z_18 => (rec_10 (IntKind.i64.wrap (y_8 + 1)) z_18)))))) else (k_5 z_9))) N 0 (⟨s_1.Wings, starts_2, (⟨0, 0, 0, 0, 0, 0, 0, 0⟩ : T_V8_i64)⟩ : T_parade_truth))))
def v_parade_allAt (r : T_parade_truth) : AV := (A_parade_truth r)
attribute [local simp] v_parade_allAt
theorem a_parade_allAt (s_1 : T_School) (starts_2 : (List Int)) (end_3 : Int) : [(A_School s_1), .sl (starts_2.map (AV.int .i64)) none, i6 end_3].mapM (ren []) = some [(A_School s_1), .sl (starts_2.map (AV.int .i64)) none, i6 end_3] := by simp
theorem b_parade_allAt (r : T_parade_truth) (n n2 m : Nat) : back n n2 m (v_parade_allAt r) = some (v_parade_allAt r) := by simp
theorem d_parade_allAt (N : Nat) (s_1 : T_School) (starts_2 : (List Int)) (end_3 : Int) (r : T_parade_truth) (h : p_parade_allAt N s_1 starts_2 end_3 = some r) : Does Try.prog 54 [(A_School s_1), .sl (starts_2.map (AV.int .i64)) none, i6 end_3] [] fun v c => v = v_parade_allAt r ∧ c = [] := by
 unfold p_parade_allAt at h
 refine Does.ofL comp54 _ _ rfl rfl ?_
 refine Ex.seq (rg 2 [1, 2, 3, 6] (mkS 32 [(1, .sl (starts_2.map (AV.int .i64)) none), (2, i6 end_3), (3, .ptr 0 0), (6, .ptr 1 0)]) ⟨[(C_School s_1), [.nils, .nils, i6 0, i6 0, i6 0, i6 0, i6 0, i6 0, i6 0, i6 0]], []⟩ ?_)
 refine Ex.seq (rg 6 [2, 3, 6, 7] (mkS 32 [(2, i6 end_3), (3, .ptr 0 0), (6, .ptr 1 0), (7, .ptr 2 0)]) ⟨[(C_School s_1), [.nils, .nils, i6 0, i6 0, i6 0, i6 0, i6 0, i6 0, i6 0, i6 0], [.sl (s_1.Wings.map A_Wing) none, .sl (starts_2.map (AV.int .i64)) none, i6 0, i6 0, i6 0, i6 0, i6 0, i6 0, i6 0, i6 0]], []⟩ ?_)
 refine Ex.seq (Ex.seq ?_)
 refine regH 4 [(2, .eq (i6 ((s_1.Wings.length : Nat) : Int)))] [2, 6, 7, 15, 16, 17] [AV.int .i64 (((s_1.Wings.map A_Wing).length : Nat) : Int) = AV.int .i64 ((s_1.Wings.length : Nat) : Int)] (mkS 32 [(2, i6 end_3), (6, .ptr 1 0), (7, .ptr 2 0), (15, .sl (s_1.Wings.map A_Wing) none), (16, i6 ((s_1.Wings.length : Nat) : Int)), (17, i6 0)]) (⟨[(C_School s_1), [.nils, .nils, i6 0, i6 0, i6 0, i6 0, i6 0, i6 0, i6 0, i6 0], [.sl (s_1.Wings.map A_Wing) none, .sl (starts_2.map (AV.int .i64)) none, i6 0, i6 0, i6 0, i6 0, i6 0, i6 0, i6 0, i6 0]], []⟩) (by kernel_rfl) ⟨lenM _ _, trivial⟩ rfl ?_
 obtain ⟨K_6, hK_7, h⟩ := letE h
 refine Ex.blockJ (fun a S => ∃ (z_4 : T_parade_truth), K_6 z_4 = some r ∧ a = mkS 32 [(6, .ptr 1 0), (7, .ptr 2 0)] ∧ S = ⟨[(C_School s_1), [.nils, .nils, i6 0, i6 0, i6 0, i6 0, i6 0, i6 0, i6 0, i6 0], (C_parade_truth z_4)], []⟩) ?_ ?_
 ·obtain ⟨B_11, hB_12, h⟩ := loop2I h
  refine Ex.loopF (fun k a S => ∃ (y_8 : Int), ∃ (z_9 : T_parade_truth), loop2 B_11 k y_8 z_9 = some r ∧ a = mkS 32 [(2, i6 end_3), (6, .ptr 1 0), (7, .ptr 2 0), (15, .sl (s_1.Wings.map A_Wing) none), (16, i6 ((s_1.Wings.length : Nat) : Int)), (17, i6 y_8)] ∧ S = ⟨[(C_School s_1), [.nils, .nils, i6 0, i6 0, i6 0, i6 0, i6 0, i6 0, i6 0, i6 0], (C_parade_truth z_9)], []⟩) N ⟨_, _, Forgets.refl _ _ _, 0, (⟨s_1.Wings, starts_2, (⟨0, 0, 0, 0, 0, 0, 0, 0⟩ : T_V8_i64)⟩ : T_parade_truth), h, rfl, rfl⟩ ?_
  rintro k a S ⟨y_8, z_9, h, rfl, rfl⟩
  cases k with
  | zero => exact (loop2Z h).elim
  | succ k =>
   replace h := loop2S h hB_12
   refine Ex.seq (rg 1 [2, 6, 7, 15, 16, 17, 18] (mkS 32 [(2, i6 end_3), (6, .ptr 1 0), (7, .ptr 2 0), (15, .sl (s_1.Wings.map A_Wing) none), (16, i6 ((s_1.Wings.length : Nat) : Int)), (17, i6 y_8), (18, .bool (decide (y_8 < ((s_1.Wings.length : Nat) : Int))))]) ⟨[(C_School s_1), [.nils, .nils, i6 0, i6 0, i6 0, i6 0, i6 0, i6 0, i6 0, i6 0], (C_parade_truth z_9)], []⟩ ?_)
   refine Ex.seq ?_
   rcases condI h with ⟨hc_13, h⟩ | ⟨hc_13, h⟩
   ·refine Ex.condT _ rfl hc_13 ?_
    refine Ex.skip ?_
    refine Ex.seq ?_
    refine Ex.blockK ?_
    refine Ex.seq ?_
    obtain ⟨x_14, hx_14, h⟩ := bE h
    refine regH 6 [(1, .rop (C_Wing x_14))] [2, 6, 7, 8, 9, 15, 16, 17] [LGet (s_1.Wings.map A_Wing) y_8 4 (C_Wing x_14)] (mkS 32 [(2, i6 end_3), (6, .ptr 1 0), (7, .ptr 2 0), (8, i6 y_8), (9, .ptr 3 0), (15, .sl (s_1.Wings.map A_Wing) none), (16, i6 ((s_1.Wings.length : Nat) : Int)), (17, i6 y_8)]) (⟨[(C_School s_1), [.nils, .nils, i6 0, i6 0, i6 0, i6 0, i6 0, i6 0, i6 0, i6 0], (C_parade_truth z_9), (C_Wing x_14)], []⟩) (by kernel_rfl) ⟨LGet.of hx_14 rfl, trivial⟩ rfl ?_
    obtain ⟨r_15, hr_15, h⟩ := bE h
    refine Ex.reg (rn 3 [2, 6, 7, 15, 16, 17, 22, 24] (mkS 32 [(2, i6 end_3), (6, .ptr 1 0), (7, .ptr 2 0), (15, .sl (s_1.Wings.map A_Wing) none), (16, i6 ((s_1.Wings.length : Nat) : Int)), (17, i6 y_8), (22, i6 y_8), (24, (A_Span x_14.Pace))]) ⟨[(C_School s_1), [.nils, .nils, i6 0, i6 0, i6 0, i6 0, i6 0, i6 0, i6 0, i6 0], (C_parade_truth z_9), (C_Wing x_14)], []⟩ ?_)
    refine ExO.callL [] [(A_Span x_14.Pace)] rfl rfl (a_parade_endsOf x_14.Pace) rfl rfl (d_parade_endsOf N x_14.Pace r_15 hr_15) (b_parade_endsOf _ _ _ _) rfl ?_
    obtain ⟨x_16, hx_16, h⟩ := bE h
    obtain ⟨u_17, hu_17, h⟩ := bE h
    obtain ⟨z_18, hz_18, h⟩ := bE h
    refine runH 5 [(1, .ax (i6 x_16)), (3, .adr), (4, .st (C_parade_truth z_18))] [2, 6, 7, 15, 16, 17] [(0 ≤ end_3 ∧ end_3 < ((2 : Nat) : Int)) ∧ takeCells (C_V2_i64 r_15) (Int.toNat end_3 * 1) none = some (i6 x_16), 0 ≤ y_8 ∧ y_8 < ((8 : Nat) : Int), 2 + Int.toNat y_8 * 1 + 1 ≤ ((C_parade_truth z_9)).length ∧ layAt (C_parade_truth z_9) (2 + Int.toNat y_8 * 1) [i6 x_16] = (C_parade_truth z_18)] (mkS 32 [(2, i6 end_3), (6, .ptr 1 0), (7, .ptr 2 0), (15, .sl (s_1.Wings.map A_Wing) none), (16, i6 ((s_1.Wings.length : Nat) : Int)), (17, i6 y_8)]) (⟨[(C_School s_1), [.nils, .nils, i6 0, i6 0, i6 0, i6 0, i6 0, i6 0, i6 0, i6 0], (C_parade_truth z_18), (C_Wing x_14)], []⟩) (by kernel_rfl) ⟨⟨idxI.of (getA.of hx_16).1, by simpa using ldArr (f := (AV.int .i64)) r_15.l (C_V2_i64 r_15) 0 0 2 end_3 x_16 (i6 x_16) (fun _ => rfl) (by kernel_rfl) rfl (getA.of hx_16).1 (getA.of hx_16).2 rfl⟩, idxI.of hu_17, (by obtain rfl := Option.some.inj hz_18; exact stArr z_9.paces_.l _ (C_parade_truth z_9) _ 2 8 y_8 x_16 (fun _ => rfl) (by kernel_rfl) (by kernel_rfl) rfl (T_V8_i64.l_ofl _ (by simp [T_V8_i64.l])) hu_17 (by kernel_rfl) (by kernel_rfl)), trivial⟩ ?_
    refine ExO.nil ?_
    refine rg 2 [2, 6, 7, 15, 16, 17] (mkS 32 [(2, i6 end_3), (6, .ptr 1 0), (7, .ptr 2 0), (15, .sl (s_1.Wings.map A_Wing) none), (16, i6 ((s_1.Wings.length : Nat) : Int)), (17, i6 (IntKind.i64.wrap (y_8 + 1)))]) ⟨[(C_School s_1), [.nils, .nils, i6 0, i6 0, i6 0, i6 0, i6 0, i6 0, i6 0, i6 0], (C_parade_truth z_18), (C_Wing x_14)], []⟩ ?_
    dsimp only
    exact ⟨_, _, forgetA (m := 32) 3 [] [(2, i6 end_3), (6, .ptr 1 0), (7, .ptr 2 0), (15, .sl (s_1.Wings.map A_Wing) none), (16, i6 ((s_1.Wings.length : Nat) : Int)), (17, i6 (IntKind.i64.wrap (y_8 + 1)))] [(C_School s_1), [.nils, .nils, i6 0, i6 0, i6 0, i6 0, i6 0, i6 0, i6 0, i6 0], (C_parade_truth z_18)] [] (by simp [setAll]) (by simp) ⟨rfl, rfl, rfl, (reN (KL_Wing _)), rfl, rfl, trivial⟩ (by simp) rfl (by decide), k, Nat.lt_succ_self k, (IntKind.i64.wrap (y_8 + 1)), z_18, h, rfl, rfl⟩
   ·refine Ex.condF _ rfl hc_13 ?_
    refine Ex.exit ?_
    (try simp only [reduceCtorEq, AEx.ex.injEq, Nat.reduceEqDiff, if_true, if_false])
    exact ⟨_, _, forgetK [6, 7], z_9, h, rfl, rfl⟩
 ·rintro a S ⟨z_4, h, rfl, rfl⟩
  subst hK_7
  refine Ex.seq (rg 2 [6] (mkS 32 [(6, .ptr 1 0)]) ⟨[(C_School s_1), (C_parade_truth z_4), (C_parade_truth z_4)], []⟩ ?_)
  refine Ex.ret ?_
  obtain rfl := sJ h
  exact rt ((A_parade_truth z_4))
def p_parade_upTo (N : Nat) (wings_1 : (List T_Wing)) (wing_2 : Int) : Option (Int × (List T_Wing)) := some (wing_2, wings_1)
def v_parade_upTo (r : Int × (List T_Wing)) : AV := .fn 122 [] [.rop [i6 r.1], .rop [.sl (r.2.map A_Wing) none]]
attribute [local simp] v_parade_upTo
theorem a_parade_upTo (wings_1 : (List T_Wing)) (wing_2 : Int) : [.sl (wings_1.map A_Wing) none, i6 wing_2].mapM (ren []) = some [.sl (wings_1.map A_Wing) none, i6 wing_2] := by simp
theorem b_parade_upTo (r : Int × (List T_Wing)) (n n2 m : Nat) : back n n2 m (v_parade_upTo r) = some (v_parade_upTo r) := by simp
theorem d_parade_upTo (N : Nat) (wings_1 : (List T_Wing)) (wing_2 : Int) (r : Int × (List T_Wing)) (h : p_parade_upTo N wings_1 wing_2 = some r) : Does Try.prog 91 [.sl (wings_1.map A_Wing) none, i6 wing_2] [] fun v c => v = v_parade_upTo r ∧ c = [] := by
 unfold p_parade_upTo at h
 refine Does.ofL comp91 _ _ rfl rfl ?_
 refine Ex.seq (rg 3 [2, 3] (mkS 6 [(2, .ptr 0 0), (3, .ptr 1 0)]) ⟨[[.sl (wings_1.map A_Wing) none], [i6 wing_2]], []⟩ ?_)
 refine Ex.seq (rg 2 [4] (mkS 6 [(4, .fn 122 [] [.ptr 1 0, .ptr 0 0])]) ⟨[[.sl (wings_1.map A_Wing) none], [i6 wing_2]], []⟩ ?_)
 refine Ex.forget (forgetK [4]) ?_
 refine Ex.castA (a2 := mkS 6 [(4, .fn 122 [] [.ptr 1 0, .ptr 0 0])]) (S2 := ⟨[[.sl (wings_1.map A_Wing) none], [i6 wing_2]], []⟩) (by kernel_rfl) (by kernel_rfl) ?_
 obtain rfl := sJ h
 refine Ex.forget (chillP 4 1 [i6 wing_2] _ rfl rfl) ?_
 refine Ex.forget (chillP 4 0 [.sl (wings_1.map A_Wing) none] _ rfl rfl) ?_
 refine Ex.castA (a2 := mkS 6 [(4, .fn 122 [] [.rop [i6 wing_2], .rop [.sl (wings_1.map A_Wing) none]])]) (S2 := ⟨[[], []], []⟩) (by kernel_rfl) (by kernel_rfl) ?_
 refine Ex.ret ?_
 exact rt (.fn 122 [] [.rop [i6 wing_2], .rop [.sl (wings_1.map A_Wing) none]])
def p_parade_dividedUp (N : Nat) (n_1 : Int) (by_2 : Int) : Option (Int) := ((nzI by_2).bind fun u_3 => some (IntKind.i64.wrap (Int.tdiv (IntKind.i64.wrap ((IntKind.i64.wrap (n_1 + by_2)) - 1)) by_2)))
def v_parade_dividedUp (r : Int) : AV := i6 r
attribute [local simp] v_parade_dividedUp
theorem b_parade_dividedUp (r : Int) (n n2 m : Nat) : back n n2 m (v_parade_dividedUp r) = some (v_parade_dividedUp r) := by simp
theorem d_parade_dividedUp (N : Nat) (n_1 : Int) (by_2 : Int) (r : Int) (h : p_parade_dividedUp N n_1 by_2 = some r) : Does Try.prog 92 [i6 n_1, i6 by_2] [] fun v c => v = v_parade_dividedUp r ∧ c = [] := by
 unfold p_parade_dividedUp at h
 refine Does.ofL comp92 _ _ rfl rfl ?_
 refine Ex.seq (rg 1 [0, 1] (mkS 11 [(0, i6 n_1), (1, i6 by_2)]) ⟨[], []⟩ ?_)
 refine Ex.seq ?_
 obtain ⟨u_3, hu_3, h⟩ := bE h
 refine regH 7 [(5, .bin (i6 (IntKind.i64.wrap (Int.tdiv (IntKind.i64.wrap ((IntKind.i64.wrap (n_1 + by_2)) - 1)) by_2))))] [4] [binA .quo (i6 (IntKind.i64.wrap ((IntKind.i64.wrap (n_1 + by_2)) - 1))) (i6 by_2) = some (i6 (IntKind.i64.wrap (Int.tdiv (IntKind.i64.wrap ((IntKind.i64.wrap (n_1 + by_2)) - 1)) by_2)))] (mkS 11 [(4, i6 (IntKind.i64.wrap (Int.tdiv (IntKind.i64.wrap ((IntKind.i64.wrap (n_1 + by_2)) - 1)) by_2)))]) (⟨[], []⟩) (by kernel_rfl) ⟨binQ hu_3, trivial⟩ rfl ?_
 refine Ex.ret ?_
 obtain rfl := sJ h
 exact rt (i6 (IntKind.i64.wrap (Int.tdiv (IntKind.i64.wrap ((IntKind.i64.wrap (n_1 + by_2)) - 1)) by_2)))
def p_parade_truth_passes (N : Nat) (t_1 : T_parade_truth) (wing_2 : Int) (place_3 : Int) : Option (Int) := ((getI t_1.starts_ wing_2).bind fun x_4 => ((p_parade_upTo N t_1.wings_ wing_2).bind fun r_5 => (letJ (fun (b_13 : Int) => some b_13) (fun k_14 => (letJ (fun (b_17 : Int) => (k_14 b_17)) (fun k_18 => (loop3 (fun rec_24 (distance_21 : Int) (i_22 : Int) (b_23 : Int) => (bif (decide (i_22 ≥ 0)) then (letJ (fun (distance_28 : Int) => (letJ (fun (b_42 : Int) => (rec_24 distance_28 (IntKind.i64.wrap (i_22 - 1)) b_42)) (fun k_43 => ((getI t_1.starts_ i_22).bind fun x_46 => ((idxI i_22 8).bind fun u_47 => ((t_1.paces_.l[Int.toNat i_22]?).bind fun x_48 => ((p_parade_dividedUp N (IntKind.i64.wrap (place_3 + distance_28)) x_48).bind fun r_49 => (k_43 (if (IntKind.i64.wrap (x_46 + r_49)) > b_23 then (IntKind.i64.wrap (x_46 + r_49)) else b_23))))))))) (fun k_29 => (bif (decide (i_22 < r_5.1)) then ((getI r_5.2 i_22).bind fun x_33 => (k_29 (IntKind.i64.wrap (distance_21 + x_33.Length)))) else (k_29 distance_21)))) else (k_18 b_23))) N 0 r_5.1 x_4)))))))
def v_parade_truth_passes (r : Int) : AV := i6 r
attribute [local simp] v_parade_truth_passes
theorem a_parade_truth_passes (t_1 : T_parade_truth) (wing_2 : Int) (place_3 : Int) : [(A_parade_truth t_1), i6 wing_2, i6 place_3].mapM (ren []) = some [(A_parade_truth t_1), i6 wing_2, i6 place_3] := by simp
theorem b_parade_truth_passes (r : Int) (n n2 m : Nat) : back n n2 m (v_parade_truth_passes r) = some (v_parade_truth_passes r) := by simp
theorem d_parade_truth_passes (N : Nat) (t_1 : T_parade_truth) (wing_2 : Int) (place_3 : Int) (r : Int) (h : p_parade_truth_passes N t_1 wing_2 place_3 = some r) : Does Try.prog 56 [(A_parade_truth t_1), i6 wing_2, i6 place_3] [] fun v c => v = v_parade_truth_passes r ∧ c = [] := by
 unfold p_parade_truth_passes at h
 refine Does.ofL comp56 _ _ rfl rfl ?_
 refine Ex.seq (rg 3 [1, 3, 5, 6] (mkS 38 [(1, i6 wing_2), (3, .ptr 0 0), (5, .ptr 1 0), (6, i6 0)]) ⟨[(C_parade_truth t_1), [i6 place_3]], []⟩ ?_)
 refine Ex.seq ?_
 obtain ⟨x_4, hx_4, h⟩ := bE h
 refine regH 7 [(3, .rop [i6 x_4])] [1, 3, 5, 6, 7] [LGet (t_1.starts_.map (AV.int .i64)) wing_2 1 [i6 x_4]] (mkS 38 [(1, i6 wing_2), (3, .ptr 0 0), (5, .ptr 1 0), (6, i6 0), (7, .ptr 2 0)]) (⟨[(C_parade_truth t_1), [i6 place_3], [i6 x_4]], []⟩) (by kernel_rfl) ⟨LGet.of hx_4 rfl, trivial⟩ rfl ?_
 refine Ex.seq (Ex.seq ?_)
 obtain ⟨r_5, hr_5, h⟩ := bE h
 refine Ex.reg (rn 3 [3, 5, 6, 7, 16, 17] (mkS 38 [(3, .ptr 0 0), (5, .ptr 1 0), (6, i6 0), (7, .ptr 2 0), (16, .sl (t_1.wings_.map A_Wing) none), (17, i6 wing_2)]) ⟨[(C_parade_truth t_1), [i6 place_3], [i6 x_4]], []⟩ ?_)
 refine ExO.callL [] [.sl (t_1.wings_.map A_Wing) none, i6 wing_2] rfl rfl (a_parade_upTo t_1.wings_ wing_2) rfl rfl (d_parade_upTo N t_1.wings_ wing_2 r_5 hr_5) (b_parade_upTo _ _ _ _) rfl ?_
 refine rn 0 [3, 5, 6, 7, 18] (mkS 38 [(3, .ptr 0 0), (5, .ptr 1 0), (6, i6 0), (7, .ptr 2 0), (18, .fn 122 [] [.rop [i6 r_5.1], .rop [.sl (r_5.2.map A_Wing) none]])]) ⟨[(C_parade_truth t_1), [i6 place_3], [i6 x_4]], []⟩ ?_
 refine ExO.nil ?_
 refine Ex.blockK ?_
 obtain ⟨K_15, hK_16, h⟩ := letE h
 refine Ex.rangeJ (fun k S => (k = 0 ∧ ∃ (b_13 : Int), K_15 b_13 = some r ∧ S = ⟨[(C_parade_truth t_1), [i6 place_3], [i6 b_13]], [(0, 0)]⟩)) 122 [.rop [i6 r_5.1], .rop [.sl (r_5.2.map A_Wing) none]] _ rfl comp122 rfl (by simp [setAll]) (by exact trivial) (mkS 26 [(1, .rop [i6 r_5.1]), (2, .rop [.sl (r_5.2.map A_Wing) none]), (3, .tup []), (4, .tup []), (5, .tup []), (6, .tup []), (7, .tup []), (8, .tup []), (9, .tup []), (10, .tup []), (11, .tup []), (12, .tup []), (13, .tup []), (14, .tup []), (15, .tup []), (16, .tup []), (17, .tup []), (18, .tup []), (19, .tup []), (20, .tup []), (21, .tup []), (22, .tup []), (23, .tup []), (24, .tup []), (25, .tup [])]) (⟨[(C_parade_truth t_1), [i6 place_3], [i6 x_4]], [(0, 0)]⟩) (fun _ => by kernel_rfl) (by kernel_rfl) ?_ ?_
 ·intro cx_7 Lp_6 hcn_8 hcm_9 hLt_10 hL_11 hup_12
  refine Ex.castA (a2 := mkS 26 [(0, .yld Lp_6.l 0), (1, .rop [i6 r_5.1]), (2, .rop [.sl (r_5.2.map A_Wing) none]), (3, .tup []), (4, .tup []), (5, .tup []), (6, .tup []), (7, .tup []), (8, .tup []), (9, .tup []), (10, .tup []), (11, .tup []), (12, .tup []), (13, .tup []), (14, .tup []), (15, .tup []), (16, .tup []), (17, .tup []), (18, .tup []), (19, .tup []), (20, .tup []), (21, .tup []), (22, .tup []), (23, .tup []), (24, .tup []), (25, .tup [])]) (S2 := ⟨[(C_parade_truth t_1), [i6 place_3], [i6 x_4]], [(0, 0)]⟩) (by kernel_rfl) rfl ?_
  refine Ex.seq (rg 1 [0, 1, 2, 4] (mkS 26 [(0, .yld Lp_6.l 0), (1, .rop [i6 r_5.1]), (2, .rop [.sl (r_5.2.map A_Wing) none]), (4, i6 0)]) ⟨[(C_parade_truth t_1), [i6 place_3], [i6 x_4]], [(0, 0)]⟩ ?_)
  refine Ex.seq (rg 2 [0, 1, 2, 4, 5] (mkS 26 [(0, .yld Lp_6.l 0), (1, .rop [i6 r_5.1]), (2, .rop [.sl (r_5.2.map A_Wing) none]), (4, i6 0), (5, i6 r_5.1)]) ⟨[(C_parade_truth t_1), [i6 place_3], [i6 x_4]], [(0, 0)]⟩ ?_)
  obtain ⟨K_19, hK_20, h⟩ := letE h
  refine Ex.blockJ (fun a S => ∃ (b_17 : Int), K_19 b_17 = some r ∧ a = mkS 26 [] ∧ S = ⟨[(C_parade_truth t_1), [i6 place_3], [i6 b_17]], [(0, 0)]⟩) ?_ ?_
  ·obtain ⟨B_25, hB_26, h⟩ := loop3I h
   refine Ex.loopF (fun k a S => ∃ (distance_21 : Int), ∃ (i_22 : Int), ∃ (b_23 : Int), loop3 B_25 k distance_21 i_22 b_23 = some r ∧ a = mkS 26 [(0, .yld Lp_6.l 0), (1, .rop [i6 r_5.1]), (2, .rop [.sl (r_5.2.map A_Wing) none]), (4, i6 distance_21), (5, i6 i_22)] ∧ S = ⟨[(C_parade_truth t_1), [i6 place_3], [i6 b_23]], [(0, 0)]⟩) N ⟨_, _, Forgets.refl _ _ _, 0, r_5.1, x_4, h, rfl, rfl⟩ ?_
   rintro k a S ⟨distance_21, i_22, b_23, h, rfl, rfl⟩
   cases k with
   | zero => exact (loop3Z h).elim
   | succ k =>
    replace h := loop3S h hB_26
    refine Ex.seq (Ex.seq ?_)
    refine rg 2 [0, 1, 2, 4, 5, 8] (mkS 26 [(0, .yld Lp_6.l 0), (1, .rop [i6 r_5.1]), (2, .rop [.sl (r_5.2.map A_Wing) none]), (4, i6 distance_21), (5, i6 i_22), (8, .bool (decide (i_22 ≥ 0)))]) ⟨[(C_parade_truth t_1), [i6 place_3], [i6 b_23]], [(0, 0)]⟩ ?_
    rcases condI h with ⟨hc_27, h⟩ | ⟨hc_27, h⟩
    ·refine Ex.condT _ rfl hc_27 ?_
     refine Ex.skip ?_
     refine Ex.seq ?_
     refine Ex.blockK ?_
     obtain ⟨K_30, hK_31, h⟩ := letE h
     refine Ex.seqJ (fun a S => ∃ (distance_28 : Int), K_30 distance_28 = some r ∧ a = mkS 26 [(0, .yld Lp_6.l 0), (1, .rop [i6 r_5.1]), (2, .rop [.sl (r_5.2.map A_Wing) none]), (4, i6 distance_28), (5, i6 i_22)] ∧ S = ⟨[(C_parade_truth t_1), [i6 place_3], [i6 b_23]], [(0, 0)]⟩) ?_ ?_
     ·refine Ex.seq (rg 3 [0, 1, 2, 4, 5, 13] (mkS 26 [(0, .yld Lp_6.l 0), (1, .rop [i6 r_5.1]), (2, .rop [.sl (r_5.2.map A_Wing) none]), (4, i6 distance_21), (5, i6 i_22), (13, .bool (decide (i_22 < r_5.1)))]) ⟨[(C_parade_truth t_1), [i6 place_3], [i6 b_23]], [(0, 0)]⟩ ?_)
      rcases condI h with ⟨hc_32, h⟩ | ⟨hc_32, h⟩
      ·refine Ex.condT _ rfl hc_32 ?_
       obtain ⟨x_33, hx_33, h⟩ := bE h
       refine regH 8 [(3, .rop (C_Wing x_33))] [0, 1, 2, 4, 5] [LGet (r_5.2.map A_Wing) i_22 4 (C_Wing x_33)] (mkS 26 [(0, .yld Lp_6.l 0), (1, .rop [i6 r_5.1]), (2, .rop [.sl (r_5.2.map A_Wing) none]), (4, i6 (IntKind.i64.wrap (distance_21 + x_33.Length))), (5, i6 i_22)]) (⟨[(C_parade_truth t_1), [i6 place_3], [i6 b_23]], [(0, 0)]⟩) (by kernel_rfl) ⟨LGet.of hx_33 rfl, trivial⟩ rfl ?_
       (try simp only [reduceCtorEq, AEx.ex.injEq, Nat.reduceEqDiff, if_true, if_false])
       exact ⟨_, _, Forgets.refl _ _ _, (IntKind.i64.wrap (distance_21 + x_33.Length)), h, rfl, rfl⟩
      ·refine Ex.condF _ rfl hc_32 ?_
       refine Ex.skip ?_
       (try simp only [reduceCtorEq, AEx.ex.injEq, Nat.reduceEqDiff, if_true, if_false])
       exact ⟨_, _, forgetK [0, 1, 2, 4, 5], distance_21, h, rfl, rfl⟩
     ·rintro a S ⟨distance_28, h, rfl, rfl⟩
      subst hK_31
      refine Ex.seq ?_
      refine Ex.regI ?_
      refine runI 3 [] [0, 1, 2, 4, 5, 21, 22, 23] [] (mkS 26 [(0, .yld Lp_6.l 0), (1, .rop [i6 r_5.1]), (2, .rop [.sl (r_5.2.map A_Wing) none]), (4, i6 distance_28), (5, i6 i_22), (21, .yld Lp_6.l 0), (22, i6 i_22), (23, i6 distance_28)]) (⟨[(C_parade_truth t_1), [i6 place_3], [i6 b_23]], [(0, 0)]⟩) (by kernel_rfl) trivial ?_
      obtain ⟨K_44, hK_45, h⟩ := letE h
      refine ExI.yieldT 0 hLt_10 hL_11 [i6 i_22, i6 distance_28] rfl rfl rfl (by kernel_rfl) rfl rfl (leC hcn_8 (by simp [setAll])) ?_
      intro ca_34 cb_35 ha_36 hb_37 hma_38 hmb_39 hup_40 hbz_41
      refine Ex.castA (a2 := mkS 38 [(3, .ptr 0 0), (5, .ptr 1 0), (6, i6 0), (7, .ptr 2 0), (18, .fn 122 [] [.rop [i6 r_5.1], .rop [.sl (r_5.2.map A_Wing) none]]), (19, i6 i_22), (20, i6 distance_28)]) (S2 := ⟨[(C_parade_truth t_1), [i6 place_3], [i6 b_23]], [(0, 0)]⟩) (by kernel_rfl) (by kernel_rfl) ?_
      refine Ex.two (fun z S => (z = AEx.norm ∧ ∃ (b_42 : Int), K_44 b_42 = some r ∧ S = ⟨[(C_parade_truth t_1), [i6 place_3], [i6 b_42]], [(0, 0)]⟩)) ?_ ?_
      ·refine Ex.seq (rg 1 [3, 5, 7, 8, 20] (mkS 38 [(3, .ptr 0 0), (5, .ptr 1 0), (7, .ptr 2 0), (8, i6 i_22), (20, i6 distance_28)]) ⟨[(C_parade_truth t_1), [i6 place_3], [i6 b_23]], [(0, 0)]⟩ ?_)
       refine rg 1 [3, 5, 7, 8, 9] (mkS 38 [(3, .ptr 0 0), (5, .ptr 1 0), (7, .ptr 2 0), (8, i6 i_22), (9, i6 distance_28)]) ⟨[(C_parade_truth t_1), [i6 place_3], [i6 b_23]], [(0, 0)]⟩ ?_
       refine ⟨rfl, rfl, ?_⟩
       refine Ex.blockK ?_
       obtain ⟨x_46, hx_46, h⟩ := bE h
       obtain ⟨u_47, hu_47, h⟩ := bE h
       obtain ⟨x_48, hx_48, h⟩ := bE h
       obtain ⟨r_49, hr_49, h⟩ := bE h
       have hT_50 : DoesA Try.prog [⟨92, [i6 (IntKind.i64.wrap (place_3 + distance_28)), i6 x_48], [], (v_parade_dividedUp r_49), []⟩] ∧ ConsA [⟨92, [i6 (IntKind.i64.wrap (place_3 + distance_28)), i6 x_48], [], (v_parade_dividedUp r_49), []⟩] := ⟨⟨(d_parade_dividedUp N (IntKind.i64.wrap (place_3 + distance_28)) x_48 r_49 hr_49), rfl, trivial⟩, ⟨trivial, trivial⟩⟩
       refine Ex.drawE (a1 := mkS 38 [(3, .ptr 0 0), (5, .ptr 1 0), (7, .ptr 2 0), (8, i6 i_22), (9, i6 distance_28), (21, i6 b_23), (22, .ptr 0 1), (23, .sl (t_1.starts_.map (AV.int .i64)) none), (24, i6 i_22), (25, .rop [i6 x_46]), (26, i6 x_46), (27, i6 place_3), (28, i6 distance_28), (29, i6 (IntKind.i64.wrap (place_3 + distance_28))), (30, i6 i_22), (31, .ptr 0 2), (32, .ptr 0 (2 + Int.toNat i_22 * 1)), (33, i6 x_48), (34, i6 r_49), (35, i6 (IntKind.i64.wrap (x_46 + r_49)))]) (tabO_ok hT_50.1) [] [] [] ?_ ?_
       ·refine drS [0, 1, 2] 13 [(4, .rop [i6 x_46]), (11, .adr), (12, .ld (i6 x_48))] [LGet (t_1.starts_.map (AV.int .i64)) i_22 1 [i6 x_46], 0 ≤ i_22 ∧ i_22 < ((8 : Nat) : Int), takeCells (C_parade_truth t_1) (2 + Int.toNat i_22 * 1) none = some (i6 x_48)] (mkS 38 [(3, .ptr 0 0), (5, .ptr 1 0), (7, .ptr 2 0), (8, i6 i_22), (9, i6 distance_28), (21, i6 b_23), (22, .ptr 0 1), (23, .sl (t_1.starts_.map (AV.int .i64)) none), (24, i6 i_22), (25, .rop [i6 x_46]), (26, i6 x_46), (27, i6 place_3), (28, i6 distance_28), (29, i6 (IntKind.i64.wrap (place_3 + distance_28))), (30, i6 i_22), (31, .ptr 0 2), (32, .ptr 0 (2 + Int.toNat i_22 * 1)), (33, i6 x_48)]) (by simp) (by kernel_rfl) ⟨LGet.of hx_46 rfl, idxI.of hu_47, ldArr (f := (AV.int .i64)) t_1.paces_.l (C_parade_truth t_1) 2 0 8 i_22 x_48 (i6 x_48) (fun _ => rfl) (by kernel_rfl) rfl hu_47 hx_48 rfl, trivial⟩ (by kernel_rfl) ?_
        refine drC hT_50.2 0 _ [i6 (IntKind.i64.wrap (place_3 + distance_28)), i6 x_48] (v_parade_dividedUp r_49) rfl rfl rfl rfl rfl (fun _ => rfl) rfl (by simp; try rfl) (fun _ => b_parade_dividedUp _ _ _ _) ?_
        refine drS [0, 1, 2] 1 [] [] (mkS 38 [(3, .ptr 0 0), (5, .ptr 1 0), (7, .ptr 2 0), (8, i6 i_22), (9, i6 distance_28), (21, i6 b_23), (22, .ptr 0 1), (23, .sl (t_1.starts_.map (AV.int .i64)) none), (24, i6 i_22), (25, .rop [i6 x_46]), (26, i6 x_46), (27, i6 place_3), (28, i6 distance_28), (29, i6 (IntKind.i64.wrap (place_3 + distance_28))), (30, i6 i_22), (31, .ptr 0 2), (32, .ptr 0 (2 + Int.toNat i_22 * 1)), (33, i6 x_48), (34, i6 r_49), (35, i6 (IntKind.i64.wrap (x_46 + r_49)))]) (by simp) (by kernel_rfl) trivial (by kernel_rfl) ?_
        exact DrO.nil rfl
       ·dsimp only [List.getLastD_cons, List.getLastD_nil]
        refine rn 2 [] (mkS 38 []) ⟨[(C_parade_truth t_1), [i6 place_3], [i6 (if (IntKind.i64.wrap (x_46 + r_49)) > b_23 then (IntKind.i64.wrap (x_46 + r_49)) else b_23)]], [(0, 0)]⟩ ?_
        refine ExO.nil ?_
        (try simp only [reduceCtorEq, AEx.ex.injEq, Nat.reduceEqDiff, if_true, if_false])
        exact ⟨_, _, Forgets.refl _ _ _, ⟨by first | rfl | trivial, (if (IntKind.i64.wrap (x_46 + r_49)) > b_23 then (IntKind.i64.wrap (x_46 + r_49)) else b_23), h, rfl⟩⟩
      ·rintro z a2 S (⟨rfl, b_42, h, rfl⟩)
       subst hK_45
       refine runI 1 [] [0, 1, 2, 4, 5, 25] [] (mkS 26 [(0, .yld Lp_6.l 0), (1, .rop [i6 r_5.1]), (2, .rop [.sl (r_5.2.map A_Wing) none]), (4, i6 distance_28), (5, i6 i_22), (25, .bool false)]) (⟨[(C_parade_truth t_1), [i6 place_3], [i6 b_42]], [(0, 0)]⟩) (by kernel_rfl) trivial ?_
       refine ExI.nil ?_
       refine Ex.cond (b := false) rfl ?_
       refine Ex.skip ?_
       refine rg 3 [0, 1, 2, 4, 5] (mkS 26 [(0, .yld Lp_6.l 0), (1, .rop [i6 r_5.1]), (2, .rop [.sl (r_5.2.map A_Wing) none]), (4, i6 distance_28), (5, i6 (IntKind.i64.wrap (i_22 - 1)))]) ⟨[(C_parade_truth t_1), [i6 place_3], [i6 b_42]], [(0, 0)]⟩ ?_
       dsimp only
       exact ⟨_, _, Forgets.refl _ _ _, k, Nat.lt_succ_self k, distance_28, (IntKind.i64.wrap (i_22 - 1)), b_42, h, rfl, rfl⟩
    ·refine Ex.condF _ rfl hc_27 ?_
     refine Ex.exit ?_
     (try simp only [reduceCtorEq, AEx.ex.injEq, Nat.reduceEqDiff, if_true, if_false])
     exact ⟨_, _, forgetK [], b_23, h, rfl, rfl⟩
  ·rintro a S ⟨b_17, h, rfl, rfl⟩
   subst hK_20
   exact ⟨_, _, Forgets.refl _ _ _, .inl rfl, 0, rfl, ⟨by first | rfl | trivial, b_17, h, rfl⟩⟩
 ·rintro k S (⟨rfl, b_13, h, rfl⟩)
  subst hK_16
  refine Ex.seq (rg 2 [6] (mkS 38 [(6, i6 b_13)]) ⟨[(C_parade_truth t_1), [i6 place_3], [i6 b_13]], [(0, 0)]⟩ ?_)
  refine Ex.ret ?_
  obtain rfl := sJ h
  exact rt (i6 b_13)
def p_parade_truth_leaves (N : Nat) (t_1 : T_parade_truth) (wing_2 : Int) (place_3 : Int) : Option (Int) := ((getI t_1.wings_ wing_2).bind fun x_4 => ((p_parade_truth_passes N t_1 wing_2 (IntKind.i64.wrap (place_3 + x_4.Length))).bind fun r_5 => some r_5))
def v_parade_truth_leaves (r : Int) : AV := i6 r
attribute [local simp] v_parade_truth_leaves
theorem a_parade_truth_leaves (t_1 : T_parade_truth) (wing_2 : Int) (place_3 : Int) : [(A_parade_truth t_1), i6 wing_2, i6 place_3].mapM (ren []) = some [(A_parade_truth t_1), i6 wing_2, i6 place_3] := by simp
theorem b_parade_truth_leaves (r : Int) (n n2 m : Nat) : back n n2 m (v_parade_truth_leaves r) = some (v_parade_truth_leaves r) := by simp
theorem d_parade_truth_leaves (N : Nat) (t_1 : T_parade_truth) (wing_2 : Int) (place_3 : Int) (r : Int) (h : p_parade_truth_leaves N t_1 wing_2 place_3 = some r) : Does Try.prog 121 [(A_parade_truth t_1), i6 wing_2, i6 place_3] [] fun v c => v = v_parade_truth_leaves r ∧ c = [] := by
 unfold p_parade_truth_leaves at h
 refine Does.ofL comp121 _ _ rfl rfl ?_
 refine Ex.seq (rg 2 [1, 2, 3] (mkS 18 [(1, i6 wing_2), (2, i6 place_3), (3, .ptr 0 0)]) ⟨[(C_parade_truth t_1)], []⟩ ?_)
 refine Ex.seq ?_
 obtain ⟨x_4, hx_4, h⟩ := bE h
 refine Ex.drawE (a1 := mkS 18 [(1, i6 wing_2), (2, i6 place_3), (3, .ptr 0 0), (7, (A_parade_truth t_1)), (8, i6 wing_2), (9, i6 place_3), (10, .ptr 0 0), (11, .sl (t_1.wings_.map A_Wing) none), (12, i6 wing_2), (13, .rop (C_Wing x_4)), (14, .rop [i6 x_4.Length, i6 x_4.Pace.Lo, i6 x_4.Pace.Hi]), (15, i6 x_4.Length), (16, i6 (IntKind.i64.wrap (place_3 + x_4.Length)))]) (noClr_ok _) [] [] [] ?_ ?_
 ·refine drS [0] 10 [(6, .rop (C_Wing x_4))] [LGet (t_1.wings_.map A_Wing) wing_2 4 (C_Wing x_4)] (mkS 18 [(1, i6 wing_2), (2, i6 place_3), (3, .ptr 0 0), (7, (A_parade_truth t_1)), (8, i6 wing_2), (9, i6 place_3), (10, .ptr 0 0), (11, .sl (t_1.wings_.map A_Wing) none), (12, i6 wing_2), (13, .rop (C_Wing x_4)), (14, .rop [i6 x_4.Length, i6 x_4.Pace.Lo, i6 x_4.Pace.Hi]), (15, i6 x_4.Length), (16, i6 (IntKind.i64.wrap (place_3 + x_4.Length)))]) (by simp) (by kernel_rfl) ⟨LGet.of hx_4 rfl, trivial⟩ (by kernel_rfl) ?_
  exact DrO.nil rfl
 ·dsimp only [List.getLastD_cons, List.getLastD_nil]
  obtain ⟨r_5, hr_5, h⟩ := bE h
  refine ExO.callL [] [(A_parade_truth t_1), i6 wing_2, i6 (IntKind.i64.wrap (place_3 + x_4.Length))] rfl rfl (a_parade_truth_passes t_1 wing_2 (IntKind.i64.wrap (place_3 + x_4.Length))) rfl rfl (d_parade_truth_passes N t_1 wing_2 (IntKind.i64.wrap (place_3 + x_4.Length)) r_5 hr_5) (b_parade_truth_passes _ _ _ _) rfl ?_
  refine rn 1 [6] (mkS 18 [(6, i6 r_5)]) ⟨[(C_parade_truth t_1)], []⟩ ?_
  refine ExO.nil ?_
  refine Ex.ret ?_
  obtain rfl := sJ h
  exact rt (i6 r_5)
def p_parade_leastStart (N : Nat) (s_1 : T_School) (starts_2 : (List Int)) : Option (Int) := (bif (((starts_2.length : Nat) : Int) == 0) then some 0 else ((p_parade_allAt N s_1 starts_2 0).bind fun r_4 => ((p_parade_truth_leaves N r_4 (IntKind.i64.wrap (((starts_2.length : Nat) : Int) - 1)) 0).bind fun r_5 => some r_5)))
def v_parade_leastStart (r : Int) : AV := i6 r
attribute [local simp] v_parade_leastStart
theorem a_parade_leastStart (s_1 : T_School) (starts_2 : (List Int)) : [(A_School s_1), .sl (starts_2.map (AV.int .i64)) none].mapM (ren []) = some [(A_School s_1), .sl (starts_2.map (AV.int .i64)) none] := by simp
theorem b_parade_leastStart (r : Int) (n n2 m : Nat) : back n n2 m (v_parade_leastStart r) = some (v_parade_leastStart r) := by simp
theorem d_parade_leastStart (N : Nat) (s_1 : T_School) (starts_2 : (List Int)) (r : Int) (h : p_parade_leastStart N s_1 starts_2 = some r) : Does Try.prog 89 [(A_School s_1), .sl (starts_2.map (AV.int .i64)) none] [] fun v c => v = v_parade_leastStart r ∧ c = [] := by
 unfold p_parade_leastStart at h
 refine Does.ofL comp89 _ _ rfl rfl ?_
 refine Ex.seq (rg 2 [1, 2] (mkS 15 [(1, .sl (starts_2.map (AV.int .i64)) none), (2, .ptr 0 0)]) ⟨[(C_School s_1)], []⟩ ?_)
 refine Ex.seq (Ex.seq ?_)
 refine regH 3 [(1, .eq (i6 ((starts_2.length : Nat) : Int)))] [1, 2, 7] [AV.int .i64 (((starts_2.map (AV.int .i64)).length : Nat) : Int) = AV.int .i64 ((starts_2.length : Nat) : Int)] (mkS 15 [(1, .sl (starts_2.map (AV.int .i64)) none), (2, .ptr 0 0), (7, .bool (((starts_2.length : Nat) : Int) == 0))]) (⟨[(C_School s_1)], []⟩) (by kernel_rfl) ⟨lenM _ _, trivial⟩ rfl ?_
 rcases condI h with ⟨hc_3, h⟩ | ⟨hc_3, h⟩
 ·refine Ex.condT _ rfl hc_3 ?_
  refine Ex.seq (rg 1 [4] (mkS 15 [(4, i6 0)]) ⟨[(C_School s_1)], []⟩ ?_)
  refine Ex.ret ?_
  obtain rfl := sJ h
  exact rt (i6 0)
 ·refine Ex.condF _ rfl hc_3 ?_
  refine Ex.skip ?_
  refine Ex.seq ?_
  obtain ⟨r_4, hr_4, h⟩ := bE h
  refine Ex.reg (rn 2 [1, 8, 9] (mkS 15 [(1, .sl (starts_2.map (AV.int .i64)) none), (8, (A_School s_1)), (9, .sl (starts_2.map (AV.int .i64)) none)]) ⟨[(C_School s_1)], []⟩ ?_)
  refine ExO.callL [] [(A_School s_1), .sl (starts_2.map (AV.int .i64)) none, i6 0] rfl rfl (a_parade_allAt s_1 starts_2 0) rfl rfl (d_parade_allAt N s_1 starts_2 0 r_4 hr_4) (b_parade_allAt _ _ _ _) rfl ?_
  obtain ⟨r_5, hr_5, h⟩ := bE h
  refine runH 3 [(1, .eq (i6 ((starts_2.length : Nat) : Int)))] [10, 13] [AV.int .i64 (((starts_2.map (AV.int .i64)).length : Nat) : Int) = AV.int .i64 ((starts_2.length : Nat) : Int)] (mkS 15 [(10, (A_parade_truth r_4)), (13, i6 (IntKind.i64.wrap (((starts_2.length : Nat) : Int) - 1)))]) (⟨[(C_School s_1)], []⟩) (by kernel_rfl) ⟨lenM _ _, trivial⟩ ?_
  refine ExO.callL [] [(A_parade_truth r_4), i6 (IntKind.i64.wrap (((starts_2.length : Nat) : Int) - 1)), i6 0] rfl rfl (a_parade_truth_leaves r_4 (IntKind.i64.wrap (((starts_2.length : Nat) : Int) - 1)) 0) rfl rfl (d_parade_truth_leaves N r_4 (IntKind.i64.wrap (((starts_2.length : Nat) : Int) - 1)) 0 r_5 hr_5) (b_parade_truth_leaves _ _ _ _) rfl ?_
  refine rn 1 [4] (mkS 15 [(4, i6 r_5)]) ⟨[(C_School s_1)], []⟩ ?_
  refine ExO.nil ?_
  refine Ex.ret ?_
  obtain rfl := sJ h
  exact rt (i6 r_5)
def p_parade_CheckStarts (N : Nat) (s_1 : T_School) (starts_2 : (List Int)) : Option (Int) := ((p_parade_Check N s_1).bind fun r_3 => (bif (r_3 != 0) then some r_3 else (bif (((starts_2.length : Nat) : Int) != ((s_1.Wings.length : Nat) : Int)) then some 1 else (letJ (fun (_ : Unit) => some 0) (fun k_6 => (loop1 (fun rec_10 (y_9 : Int) => (bif (decide (y_9 < ((starts_2.length : Nat) : Int))) then ((getI starts_2 y_9).bind fun x_14 => ((p_parade_within N x_14 0 20000).bind fun r_15 => (bif (!r_15) then some 2 else ((partI starts_2 0 y_9).bind fun l_17 => ((p_parade_leastStart N s_1 l_17).bind fun r_18 => (bif (decide (x_14 < r_18)) then some 12 else (rec_10 (IntKind.i64.wrap (y_9 + 1))))))))) else (k_6 ()))) N 0))))))
def v_parade_CheckStarts (r : Int) : AV := i6 r
attribute [local simp] v_parade_CheckStarts
theorem a_parade_CheckStarts (s_1 : T_School) (starts_2 : (List Int)) : [(A_School s_1), .sl (starts_2.map (AV.int .i64)) none].mapM (ren []) = some [(A_School s_1), .sl (starts_2.map (AV.int .i64)) none] := by simp
theorem b_parade_CheckStarts (r : Int) (n n2 m : Nat) : back n n2 m (v_parade_CheckStarts r) = some (v_parade_CheckStarts r) := by simp
theorem d_parade_CheckStarts (N : Nat) (s_1 : T_School) (starts_2 : (List Int)) (r : Int) (h : p_parade_CheckStarts N s_1 starts_2 = some r) : Does Try.prog 52 [(A_School s_1), .sl (starts_2.map (AV.int .i64)) none] [] fun v c => v = v_parade_CheckStarts r ∧ c = [] := by
 unfold p_parade_CheckStarts at h
 refine Does.ofL comp52 _ _ rfl rfl ?_
 refine Ex.seq (rg 2 [1, 2] (mkS 37 [(1, .sl (starts_2.map (AV.int .i64)) none), (2, .ptr 0 0)]) ⟨[(C_School s_1)], []⟩ ?_)
 refine Ex.seq (Ex.seq ?_)
 obtain ⟨r_3, hr_3, h⟩ := bE h
 refine Ex.reg (rn 1 [1, 2, 8] (mkS 37 [(1, .sl (starts_2.map (AV.int .i64)) none), (2, .ptr 0 0), (8, (A_School s_1))]) ⟨[(C_School s_1)], []⟩ ?_)
 refine ExO.callL [] [(A_School s_1)] rfl rfl (a_parade_Check s_1) rfl rfl (d_parade_Check N s_1 r_3 hr_3) (b_parade_Check _ _ _ _) rfl ?_
 refine rn 1 [1, 2, 5] (mkS 37 [(1, .sl (starts_2.map (AV.int .i64)) none), (2, .ptr 0 0), (5, i6 r_3)]) ⟨[(C_School s_1)], []⟩ ?_
 refine ExO.nil ?_
 refine Ex.seq (rg 2 [1, 2, 5, 11] (mkS 37 [(1, .sl (starts_2.map (AV.int .i64)) none), (2, .ptr 0 0), (5, i6 r_3), (11, .bool (r_3 != 0))]) ⟨[(C_School s_1)], []⟩ ?_)
 rcases condI h with ⟨hc_4, h⟩ | ⟨hc_4, h⟩
 ·refine Ex.condT _ rfl hc_4 ?_
  refine Ex.seq (rg 2 [4] (mkS 37 [(4, i6 r_3)]) ⟨[(C_School s_1)], []⟩ ?_)
  refine Ex.ret ?_
  obtain rfl := sJ h
  exact rt (i6 r_3)
 ·refine Ex.condF _ rfl hc_4 ?_
  refine Ex.skip ?_
  refine Ex.seq (Ex.seq ?_)
  refine regH 6 [(1, .eq (i6 ((starts_2.length : Nat) : Int))), (4, .eq (i6 ((s_1.Wings.length : Nat) : Int)))] [1, 2, 18] [AV.int .i64 (((starts_2.map (AV.int .i64)).length : Nat) : Int) = AV.int .i64 ((starts_2.length : Nat) : Int), AV.int .i64 (((s_1.Wings.map A_Wing).length : Nat) : Int) = AV.int .i64 ((s_1.Wings.length : Nat) : Int)] (mkS 37 [(1, .sl (starts_2.map (AV.int .i64)) none), (2, .ptr 0 0), (18, .bool (((starts_2.length : Nat) : Int) != ((s_1.Wings.length : Nat) : Int)))]) (⟨[(C_School s_1)], []⟩) (by kernel_rfl) ⟨lenM _ _, lenM _ _, trivial⟩ rfl ?_
  rcases condI h with ⟨hc_5, h⟩ | ⟨hc_5, h⟩
  ·refine Ex.condT _ rfl hc_5 ?_
   refine Ex.seq (rg 1 [4] (mkS 37 [(4, i6 1)]) ⟨[(C_School s_1)], []⟩ ?_)
   refine Ex.ret ?_
   obtain rfl := sJ h
   exact rt (i6 1)
  ·refine Ex.condF _ rfl hc_5 ?_
   refine Ex.skip ?_
   refine Ex.seq (Ex.seq ?_)
   refine regH 3 [(1, .eq (i6 ((starts_2.length : Nat) : Int)))] [1, 2, 19, 20, 21] [AV.int .i64 (((starts_2.map (AV.int .i64)).length : Nat) : Int) = AV.int .i64 ((starts_2.length : Nat) : Int)] (mkS 37 [(1, .sl (starts_2.map (AV.int .i64)) none), (2, .ptr 0 0), (19, .sl (starts_2.map (AV.int .i64)) none), (20, i6 ((starts_2.length : Nat) : Int)), (21, i6 0)]) (⟨[(C_School s_1)], []⟩) (by kernel_rfl) ⟨lenM _ _, trivial⟩ rfl ?_
   obtain ⟨K_7, hK_8, h⟩ := letE h
   refine Ex.blockJ (fun a S => K_7 () = some r ∧ a = mkS 37 [] ∧ S = ⟨[], []⟩) ?_ ?_
   ·obtain ⟨B_11, hB_12, h⟩ := loop1I h
    refine Ex.loopF (fun k a S => ∃ (y_9 : Int), loop1 B_11 k y_9 = some r ∧ a = mkS 37 [(1, .sl (starts_2.map (AV.int .i64)) none), (2, .ptr 0 0), (19, .sl (starts_2.map (AV.int .i64)) none), (20, i6 ((starts_2.length : Nat) : Int)), (21, i6 y_9)] ∧ S = ⟨[(C_School s_1)], []⟩) N ⟨_, _, Forgets.refl _ _ _, 0, h, rfl, rfl⟩ ?_
    rintro k a S ⟨y_9, h, rfl, rfl⟩
    cases k with
    | zero => exact (loop1Z h).elim
    | succ k =>
     replace h := loop1S h hB_12
     refine Ex.seq (rg 1 [1, 2, 19, 20, 21, 22] (mkS 37 [(1, .sl (starts_2.map (AV.int .i64)) none), (2, .ptr 0 0), (19, .sl (starts_2.map (AV.int .i64)) none), (20, i6 ((starts_2.length : Nat) : Int)), (21, i6 y_9), (22, .bool (decide (y_9 < ((starts_2.length : Nat) : Int))))]) ⟨[(C_School s_1)], []⟩ ?_)
     refine Ex.seq ?_
     rcases condI h with ⟨hc_13, h⟩ | ⟨hc_13, h⟩
     ·refine Ex.condT _ rfl hc_13 ?_
      refine Ex.skip ?_
      refine Ex.seq ?_
      refine Ex.blockK ?_
      refine Ex.seq ?_
      obtain ⟨x_14, hx_14, h⟩ := bE h
      refine regH 5 [(1, .rop [i6 x_14])] [1, 2, 6, 7, 19, 20, 21] [LGet (starts_2.map (AV.int .i64)) y_9 1 [i6 x_14]] (mkS 37 [(1, .sl (starts_2.map (AV.int .i64)) none), (2, .ptr 0 0), (6, i6 y_9), (7, i6 x_14), (19, .sl (starts_2.map (AV.int .i64)) none), (20, i6 ((starts_2.length : Nat) : Int)), (21, i6 y_9)]) (⟨[(C_School s_1)], []⟩) (by kernel_rfl) ⟨LGet.of hx_14 rfl, trivial⟩ rfl ?_
      refine Ex.seq (Ex.seq ?_)
      obtain ⟨r_15, hr_15, h⟩ := bE h
      refine Ex.reg (rn 1 [1, 2, 6, 7, 19, 20, 21, 26] (mkS 37 [(1, .sl (starts_2.map (AV.int .i64)) none), (2, .ptr 0 0), (6, i6 y_9), (7, i6 x_14), (19, .sl (starts_2.map (AV.int .i64)) none), (20, i6 ((starts_2.length : Nat) : Int)), (21, i6 y_9), (26, i6 x_14)]) ⟨[(C_School s_1)], []⟩ ?_)
      refine ExO.callL [] [i6 x_14, i6 0, i6 20000] rfl rfl (a_parade_within x_14 0 20000) rfl rfl (d_parade_within N x_14 0 20000 r_15 hr_15) (b_parade_within _ _ _ _) rfl ?_
      refine rn 1 [1, 2, 6, 7, 19, 20, 21, 28] (mkS 37 [(1, .sl (starts_2.map (AV.int .i64)) none), (2, .ptr 0 0), (6, i6 y_9), (7, i6 x_14), (19, .sl (starts_2.map (AV.int .i64)) none), (20, i6 ((starts_2.length : Nat) : Int)), (21, i6 y_9), (28, .bool (!r_15))]) ⟨[(C_School s_1)], []⟩ ?_
      refine ExO.nil ?_
      rcases condI h with ⟨hc_16, h⟩ | ⟨hc_16, h⟩
      ·refine Ex.condT _ rfl hc_16 ?_
       refine Ex.seq (rg 1 [4] (mkS 37 [(4, i6 2)]) ⟨[(C_School s_1)], []⟩ ?_)
       refine Ex.ret ?_
       obtain rfl := sJ h
       exact rt (i6 2)
      ·refine Ex.condF _ rfl hc_16 ?_
       refine Ex.skip ?_
       refine Ex.seq ?_
       obtain ⟨l_17, hl_17, h⟩ := bE h
       obtain ⟨r_18, hr_18, h⟩ := bE h
       have hT_19 : DoesA Try.prog [⟨89, [(A_School s_1), .sl (l_17.map (AV.int .i64)) none], [], (v_parade_leastStart r_18), []⟩] ∧ ConsA [⟨89, [(A_School s_1), .sl (l_17.map (AV.int .i64)) none], [], (v_parade_leastStart r_18), []⟩] := ⟨⟨(d_parade_leastStart N s_1 l_17 r_18 hr_18), rfl, trivial⟩, ⟨trivial, trivial⟩⟩
       refine Ex.drawE (a1 := mkS 37 [(1, .sl (starts_2.map (AV.int .i64)) none), (2, .ptr 0 0), (6, i6 y_9), (7, i6 x_14), (19, .sl (starts_2.map (AV.int .i64)) none), (20, i6 ((starts_2.length : Nat) : Int)), (21, i6 y_9), (28, .bool (!r_15)), (29, i6 x_14), (30, (A_School s_1)), (31, .sl (starts_2.map (AV.int .i64)) none), (32, i6 y_9), (33, .sl (l_17.map (AV.int .i64)) none), (34, i6 r_18)]) (tabO_ok hT_19.1) [] [] [] ?_ ?_
       ·refine drS [0] 5 [(4, .sc (l_17.map (AV.int .i64)))] [LSlc (starts_2.map (AV.int .i64)) none (some y_9) 1 (l_17.map (AV.int .i64))] (mkS 37 [(1, .sl (starts_2.map (AV.int .i64)) none), (2, .ptr 0 0), (6, i6 y_9), (7, i6 x_14), (19, .sl (starts_2.map (AV.int .i64)) none), (20, i6 ((starts_2.length : Nat) : Int)), (21, i6 y_9), (28, .bool (!r_15)), (29, i6 x_14), (30, (A_School s_1)), (31, .sl (starts_2.map (AV.int .i64)) none), (32, i6 y_9), (33, .sl (l_17.map (AV.int .i64)) none)]) (by simp) (by kernel_rfl) ⟨partI.ofR (f := (AV.int .i64)) (fun _ => rfl) hl_17, trivial⟩ (by kernel_rfl) ?_
        refine drC hT_19.2 0 _ [(A_School s_1), .sl (l_17.map (AV.int .i64)) none] (v_parade_leastStart r_18) rfl rfl rfl rfl rfl (fun _ => rfl) rfl (by simp; try rfl) (fun _ => b_parade_leastStart _ _ _ _) ?_
        exact DrO.nil rfl
       ·dsimp only [List.getLastD_cons, List.getLastD_nil]
        refine rn 1 [1, 2, 19, 20, 21, 35] (mkS 37 [(1, .sl (starts_2.map (AV.int .i64)) none), (2, .ptr 0 0), (19, .sl (starts_2.map (AV.int .i64)) none), (20, i6 ((starts_2.length : Nat) : Int)), (21, i6 y_9), (35, .bool (decide (x_14 < r_18)))]) ⟨[(C_School s_1)], []⟩ ?_
        refine ExO.nil ?_
        rcases condI h with ⟨hc_20, h⟩ | ⟨hc_20, h⟩
        ·refine Ex.condT _ rfl hc_20 ?_
         refine Ex.seq (rg 1 [4] (mkS 37 [(4, i6 12)]) ⟨[(C_School s_1)], []⟩ ?_)
         refine Ex.ret ?_
         obtain rfl := sJ h
         exact rt (i6 12)
        ·refine Ex.condF _ rfl hc_20 ?_
         refine Ex.skip ?_
         refine rg 2 [1, 2, 19, 20, 21] (mkS 37 [(1, .sl (starts_2.map (AV.int .i64)) none), (2, .ptr 0 0), (19, .sl (starts_2.map (AV.int .i64)) none), (20, i6 ((starts_2.length : Nat) : Int)), (21, i6 (IntKind.i64.wrap (y_9 + 1)))]) ⟨[(C_School s_1)], []⟩ ?_
         dsimp only
         exact ⟨_, _, Forgets.refl _ _ _, k, Nat.lt_succ_self k, (IntKind.i64.wrap (y_9 + 1)), h, rfl, rfl⟩
     ·refine Ex.condF _ rfl hc_13 ?_
      refine Ex.exit ?_
      (try simp only [reduceCtorEq, AEx.ex.injEq, Nat.reduceEqDiff, if_true, if_false])
      exact ⟨_, _, forgetA (m := 37) 0 [] [] [] [] (by simp [setAll]) (by simp) trivial (by simp) rfl (by decide), h, rfl, rfl⟩
   ·rintro a S ⟨h, rfl, rfl⟩
    subst hK_8
    refine Ex.seq (rg 1 [4] (mkS 37 [(4, i6 0)]) ⟨[], []⟩ ?_)
    refine Ex.ret ?_
    obtain rfl := sJ h
    exact rt (i6 0)
def p_parade_isWing (N : Nat) (s_1 : T_School) (wing_2 : Int) : Option (Bool) := (bif (decide (wing_2 ≥ 0)) then some (decide (wing_2 < ((s_1.Wings.length : Nat) : Int))) else some false)
def v_parade_isWing (r : Bool) : AV := .bool r
attribute [local simp] v_parade_isWing
theorem a_parade_isWing (s_1 : T_School) (wing_2 : Int) : [(A_School s_1), i6 wing_2].mapM (ren []) = some [(A_School s_1), i6 wing_2] := by simp
theorem b_parade_isWing (r : Bool) (n n2 m : Nat) : back n n2 m (v_parade_isWing r) = some (v_parade_isWing r) := by simp
theorem d_parade_isWing (N : Nat) (s_1 : T_School) (wing_2 : Int) (r : Bool) (h : p_parade_isWing N s_1 wing_2 = some r) : Does Try.prog 53 [(A_School s_1), i6 wing_2] [] fun v c => v = v_parade_isWing r ∧ c = [] := by
 unfold p_parade_isWing at h
 refine Does.ofL comp53 _ _ rfl rfl ?_
 refine Ex.seq (rg 2 [1, 2] (mkS 14 [(1, i6 wing_2), (2, .ptr 0 0)]) ⟨[(C_School s_1)], []⟩ ?_)
 refine Ex.seq ?_
 rcases condI h with ⟨hc_3, h⟩ | ⟨hc_3, h⟩
 ·refine regH 10 [(2, .eq (.bool true)), (6, .eq (i6 ((s_1.Wings.length : Nat) : Int)))] [4] [AV.bool (decide (wing_2 ≥ 0)) = AV.bool true, AV.int .i64 (((s_1.Wings.map A_Wing).length : Nat) : Int) = AV.int .i64 ((s_1.Wings.length : Nat) : Int)] (mkS 14 [(4, .bool (decide (wing_2 < ((s_1.Wings.length : Nat) : Int))))]) (⟨[(C_School s_1)], []⟩) (by kernel_rfl) ⟨congrArg AV.bool hc_3, lenM _ _, trivial⟩ rfl ?_
  refine Ex.ret ?_
  obtain rfl := sJ h
  exact rt (.bool (decide (wing_2 < ((s_1.Wings.length : Nat) : Int))))
 ·refine regH 10 [(2, .eq (.bool false))] [4] [AV.bool (decide (wing_2 ≥ 0)) = AV.bool false] (mkS 14 [(4, .bool false)]) (⟨[(C_School s_1)], []⟩) (by kernel_rfl) ⟨congrArg AV.bool hc_3, trivial⟩ rfl ?_
  refine Ex.ret ?_
  obtain rfl := sJ h
  exact rt (.bool false)
def p_parade_between_parade_truth_passes_parade_truth_passes (N : Nat) (a_1 : T_parade_truth) (a_2 : T_parade_truth) (wing_3 : Int) (at_4 : Int) : Option (T_Span) := ((p_parade_truth_passes N a_1 wing_3 at_4).bind fun r_5 => ((p_parade_truth_passes N a_2 wing_3 at_4).bind fun r_6 => some (⟨r_5, r_6⟩ : T_Span)))
def v_parade_between_parade_truth_passes_parade_truth_passes (r : T_Span) : AV := (A_Span r)
attribute [local simp] v_parade_between_parade_truth_passes_parade_truth_passes
theorem b_parade_between_parade_truth_passes_parade_truth_passes (r : T_Span) (n n2 m : Nat) : back n n2 m (v_parade_between_parade_truth_passes_parade_truth_passes r) = some (v_parade_between_parade_truth_passes_parade_truth_passes r) := by simp
theorem d_parade_between_parade_truth_passes_parade_truth_passes (N : Nat) (a_1 : T_parade_truth) (a_2 : T_parade_truth) (wing_3 : Int) (at_4 : Int) (r : T_Span) (h : p_parade_between_parade_truth_passes_parade_truth_passes N a_1 a_2 wing_3 at_4 = some r) : Does Try.prog 55 [.fn 56 [(A_parade_truth a_1)] [], .fn 56 [(A_parade_truth a_2)] [], i6 wing_3, i6 at_4] [] fun v c => v = v_parade_between_parade_truth_passes_parade_truth_passes r ∧ c = [] := by
 unfold p_parade_between_parade_truth_passes_parade_truth_passes at h
 refine Does.ofL comp55 _ _ rfl rfl ?_
 refine Ex.seq (rg 1 [0, 1, 2, 3, 8] (mkS 18 [(0, .fn 56 [(A_parade_truth a_1)] []), (1, .fn 56 [(A_parade_truth a_2)] []), (2, i6 wing_3), (3, i6 at_4), (8, .ptr 0 0)]) ⟨[[i6 0, i6 0]], []⟩ ?_)
 refine Ex.seq ?_
 obtain ⟨r_5, hr_5, h⟩ := bE h
 refine Ex.reg (rn 3 [1, 2, 3, 8, 9, 10, 11] (mkS 18 [(1, .fn 56 [(A_parade_truth a_2)] []), (2, i6 wing_3), (3, i6 at_4), (8, .ptr 0 0), (9, .fn 56 [(A_parade_truth a_1)] []), (10, i6 wing_3), (11, i6 at_4)]) ⟨[[i6 0, i6 0]], []⟩ ?_)
 refine ExO.callL [] [(A_parade_truth a_1), i6 wing_3, i6 at_4] rfl rfl (a_parade_truth_passes a_1 wing_3 at_4) rfl rfl (d_parade_truth_passes N a_1 wing_3 at_4 r_5 hr_5) (b_parade_truth_passes _ _ _ _) rfl ?_
 obtain ⟨r_6, hr_6, h⟩ := bE h
 refine rn 3 [8, 12, 13, 14, 15] (mkS 18 [(8, .ptr 0 0), (12, i6 r_5), (13, .fn 56 [(A_parade_truth a_2)] []), (14, i6 wing_3), (15, i6 at_4)]) ⟨[[i6 0, i6 0]], []⟩ ?_
 refine ExO.callL [] [(A_parade_truth a_2), i6 wing_3, i6 at_4] rfl rfl (a_parade_truth_passes a_2 wing_3 at_4) rfl rfl (d_parade_truth_passes N a_2 wing_3 at_4 r_6 hr_6) (b_parade_truth_passes _ _ _ _) rfl ?_
 refine rn 2 [8] (mkS 18 [(8, .ptr 0 0)]) ⟨[[i6 r_5, i6 r_6]], []⟩ ?_
 refine ExO.nil ?_
 refine Ex.ret ?_
 obtain rfl := sJ h
 exact rt (.agg [i6 r_5, i6 r_6])
theorem IJ_Wing (x y : T_Wing) (h : A_Wing x = A_Wing y) : x = y := by
 have h := AV.agg.inj h
 simp only [C_Wing, List.cons.injEq, AV.int.injEq, AV.bool.injEq, AV.str.injEq, AV.sl.injEq, true_and, and_true] at h
 obtain ⟨h0, h1, h2, h3⟩ := h
 obtain ⟨x0, x1, ⟨x2, x3⟩⟩ := x; obtain ⟨y0, y1, ⟨y2, y3⟩⟩ := y; simp_all
theorem IJ_School (x y : T_School) (h : A_School x = A_School y) : x = y := by
 have h := AV.agg.inj h
 simp only [C_School, List.cons.injEq, AV.int.injEq, AV.bool.injEq, AV.str.injEq, AV.sl.injEq, true_and, and_true] at h
 obtain ⟨h0, h1⟩ := h
 have h1 := mapInj IJ_Wing h1
 obtain ⟨x0, x1⟩ := x; obtain ⟨y0, y1⟩ := y; simp_all
theorem k_parade_allAt (N : Nat) (s_1 : T_School) (starts_2 : (List Int)) (end_3 : Int) (s_1z : T_School) (starts_2z : (List Int)) (end_3z : Int) (r s : T_parade_truth) (hr : p_parade_allAt N s_1 starts_2 end_3 = some r) (hs : p_parade_allAt N s_1z starts_2z end_3z = some s) : ConsR ⟨54, [(A_School s_1), .sl (starts_2.map (AV.int .i64)) none, i6 end_3], [], v_parade_allAt r, []⟩ ⟨54, [(A_School s_1z), .sl (starts_2z.map (AV.int .i64)) none, i6 end_3z], [], v_parade_allAt s, []⟩ := by
 intro _ h1 h2
 have h1 : ([(A_School s_1), .sl (starts_2.map (AV.int .i64)) none, i6 end_3] : List AV) = [(A_School s_1z), .sl (starts_2z.map (AV.int .i64)) none, i6 end_3z] := h1
 have h2 : ([] : List (List AV)) = [] := h2
 obtain rfl : s_1 = s_1z := IJ_School _ _ (List.cons.inj h1).1
 obtain rfl : starts_2 = starts_2z := (slInj (intInj _)) _ _ (List.cons.inj (List.cons.inj h1).2).1
 obtain rfl : end_3 = end_3z := (intInj _) _ _ (List.cons.inj (List.cons.inj (List.cons.inj h1).2).2).1
 rw [hr] at hs; cases hs; exact ⟨rfl, rfl⟩
def p_parade_Passes (N : Nat) (s_1 : T_School) (starts_2 : (List Int)) (wing_3 : Int) (place_4 : Int) : Option (T_Span × Int) := ((p_parade_CheckStarts N s_1 starts_2).bind fun r_5 => (bif (r_5 != 0) then some ((⟨0, 0⟩ : T_Span), r_5) else ((p_parade_isWing N s_1 wing_3).bind fun r_7 => (bif (!r_7) then some ((⟨0, 0⟩ : T_Span), 7) else (letJ (fun (y_9 : Bool) => (bif y_9 then some ((⟨0, 0⟩ : T_Span), 2) else ((p_parade_allAt N s_1 starts_2 0).bind fun r_15 => ((p_parade_allAt N s_1 starts_2 1).bind fun r_16 => ((p_parade_between_parade_truth_passes_parade_truth_passes N r_16 r_15 wing_3 place_4).bind fun r_18 => some (r_18, 0)))))) (fun k_10 => (bif (decide (place_4 < 0)) then (k_10 true) else (k_10 (decide (place_4 > 100000))))))))))
def v_parade_Passes (r : T_Span × Int) : AV := .tup [(A_Span r.1), i6 r.2]
attribute [local simp] v_parade_Passes
theorem b_parade_Passes (r : T_Span × Int) (n n2 m : Nat) : back n n2 m (v_parade_Passes r) = some (v_parade_Passes r) := by simp
theorem d_parade_Passes (N : Nat) (s_1 : T_School) (starts_2 : (List Int)) (wing_3 : Int) (place_4 : Int) (r : T_Span × Int) (h : p_parade_Passes N s_1 starts_2 wing_3 place_4 = some r) : Does Try.prog 24 [(A_School s_1), .sl (starts_2.map (AV.int .i64)) none, i6 wing_3, i6 place_4] [] fun v c => v = v_parade_Passes r ∧ c = [] := by
 unfold p_parade_Passes at h
 refine Does.ofL comp24 _ _ rfl rfl ?_
 refine Ex.seq (rg 3 [1, 2, 3, 4, 8] (mkS 45 [(1, .sl (starts_2.map (AV.int .i64)) none), (2, i6 wing_3), (3, i6 place_4), (4, .ptr 0 0), (8, .ptr 1 0)]) ⟨[(C_School s_1), [i6 0, i6 0]], []⟩ ?_)
 refine Ex.seq (Ex.seq ?_)
 obtain ⟨r_5, hr_5, h⟩ := bE h
 refine Ex.reg (rn 2 [1, 2, 3, 4, 8, 13, 14] (mkS 45 [(1, .sl (starts_2.map (AV.int .i64)) none), (2, i6 wing_3), (3, i6 place_4), (4, .ptr 0 0), (8, .ptr 1 0), (13, (A_School s_1)), (14, .sl (starts_2.map (AV.int .i64)) none)]) ⟨[(C_School s_1), [i6 0, i6 0]], []⟩ ?_)
 refine ExO.callL [] [(A_School s_1), .sl (starts_2.map (AV.int .i64)) none] rfl rfl (a_parade_CheckStarts s_1 starts_2) rfl rfl (d_parade_CheckStarts N s_1 starts_2 r_5 hr_5) (b_parade_CheckStarts _ _ _ _) rfl ?_
 refine rn 1 [1, 2, 3, 4, 8, 10] (mkS 45 [(1, .sl (starts_2.map (AV.int .i64)) none), (2, i6 wing_3), (3, i6 place_4), (4, .ptr 0 0), (8, .ptr 1 0), (10, i6 r_5)]) ⟨[(C_School s_1), [i6 0, i6 0]], []⟩ ?_
 refine ExO.nil ?_
 refine Ex.seq (rg 2 [1, 2, 3, 4, 8, 10, 17] (mkS 45 [(1, .sl (starts_2.map (AV.int .i64)) none), (2, i6 wing_3), (3, i6 place_4), (4, .ptr 0 0), (8, .ptr 1 0), (10, i6 r_5), (17, .bool (r_5 != 0))]) ⟨[(C_School s_1), [i6 0, i6 0]], []⟩ ?_)
 rcases condI h with ⟨hc_6, h⟩ | ⟨hc_6, h⟩
 ·refine Ex.condT _ rfl hc_6 ?_
  refine Ex.seq (rg 4 [8, 9] (mkS 45 [(8, .ptr 1 0), (9, i6 r_5)]) ⟨[(C_School s_1), [i6 0, i6 0]], []⟩ ?_)
  refine Ex.ret ?_
  obtain rfl := sJ h
  exact rt (.tup [.agg [i6 0, i6 0], i6 r_5])
 ·refine Ex.condF _ rfl hc_6 ?_
  refine Ex.skip ?_
  refine Ex.seq (Ex.seq ?_)
  obtain ⟨r_7, hr_7, h⟩ := bE h
  refine Ex.reg (rn 2 [1, 2, 3, 4, 8, 20, 21] (mkS 45 [(1, .sl (starts_2.map (AV.int .i64)) none), (2, i6 wing_3), (3, i6 place_4), (4, .ptr 0 0), (8, .ptr 1 0), (20, (A_School s_1)), (21, i6 wing_3)]) ⟨[(C_School s_1), [i6 0, i6 0]], []⟩ ?_)
  refine ExO.callL [] [(A_School s_1), i6 wing_3] rfl rfl (a_parade_isWing s_1 wing_3) rfl rfl (d_parade_isWing N s_1 wing_3 r_7 hr_7) (b_parade_isWing _ _ _ _) rfl ?_
  refine rn 1 [1, 2, 3, 4, 8, 23] (mkS 45 [(1, .sl (starts_2.map (AV.int .i64)) none), (2, i6 wing_3), (3, i6 place_4), (4, .ptr 0 0), (8, .ptr 1 0), (23, .bool (!r_7))]) ⟨[(C_School s_1), [i6 0, i6 0]], []⟩ ?_
  refine ExO.nil ?_
  rcases condI h with ⟨hc_8, h⟩ | ⟨hc_8, h⟩
  ·refine Ex.condT _ rfl hc_8 ?_
   refine Ex.seq (rg 3 [8, 9] (mkS 45 [(8, .ptr 1 0), (9, i6 7)]) ⟨[(C_School s_1), [i6 0, i6 0]], []⟩ ?_)
   refine Ex.ret ?_
   obtain rfl := sJ h
   exact rt (.tup [.agg [i6 0, i6 0], i6 7])
  ·refine Ex.condF _ rfl hc_8 ?_
   refine Ex.skip ?_
   refine Ex.seq ?_
   obtain ⟨K_11, hK_12, h⟩ := letE h
   refine Ex.seqJ (fun a S => ∃ (y_9 : Bool), K_11 y_9 = some r ∧ a = mkS 45 [(1, .sl (starts_2.map (AV.int .i64)) none), (2, i6 wing_3), (3, i6 place_4), (4, .ptr 0 0), (8, .ptr 1 0), (30, .bool y_9)] ∧ S = ⟨[(C_School s_1), [i6 0, i6 0]], []⟩) ?_ ?_
   ·rcases condI h with ⟨hc_13, h⟩ | ⟨hc_13, h⟩
    ·refine regH 6 [(2, .eq (.bool true))] [1, 2, 3, 4, 8, 30] [AV.bool (decide (place_4 < 0)) = AV.bool true] (mkS 45 [(1, .sl (starts_2.map (AV.int .i64)) none), (2, i6 wing_3), (3, i6 place_4), (4, .ptr 0 0), (8, .ptr 1 0), (30, .bool true)]) (⟨[(C_School s_1), [i6 0, i6 0]], []⟩) (by kernel_rfl) ⟨congrArg AV.bool hc_13, trivial⟩ rfl ?_
     (try simp only [reduceCtorEq, AEx.ex.injEq, Nat.reduceEqDiff, if_true, if_false])
     exact ⟨_, _, Forgets.refl _ _ _, true, h, rfl, rfl⟩
    ·refine regH 6 [(2, .eq (.bool false))] [1, 2, 3, 4, 8, 30] [AV.bool (decide (place_4 < 0)) = AV.bool false] (mkS 45 [(1, .sl (starts_2.map (AV.int .i64)) none), (2, i6 wing_3), (3, i6 place_4), (4, .ptr 0 0), (8, .ptr 1 0), (30, .bool (decide (place_4 > 100000)))]) (⟨[(C_School s_1), [i6 0, i6 0]], []⟩) (by kernel_rfl) ⟨congrArg AV.bool hc_13, trivial⟩ rfl ?_
     (try simp only [reduceCtorEq, AEx.ex.injEq, Nat.reduceEqDiff, if_true, if_false])
     exact ⟨_, _, Forgets.refl _ _ _, (decide (place_4 > 100000)), h, rfl, rfl⟩
   ·rintro a S ⟨y_9, h, rfl, rfl⟩
    subst hK_12
    rcases condI h with ⟨hc_14, h⟩ | ⟨hc_14, h⟩
    ·refine Ex.condT _ rfl hc_14 ?_
     refine Ex.seq (rg 3 [8, 9] (mkS 45 [(8, .ptr 1 0), (9, i6 2)]) ⟨[(C_School s_1), [i6 0, i6 0]], []⟩ ?_)
     refine Ex.ret ?_
     obtain rfl := sJ h
     exact rt (.tup [.agg [i6 0, i6 0], i6 2])
    ·refine Ex.condF _ rfl hc_14 ?_
     refine Ex.skip ?_
     refine Ex.seq ?_
     obtain ⟨r_15, hr_15, h⟩ := bE h
     obtain ⟨r_16, hr_16, h⟩ := bE h
     have hT_17 : DoesA Try.prog [⟨54, [(A_School s_1), .sl (starts_2.map (AV.int .i64)) none, i6 0], [], (v_parade_allAt r_15), []⟩, ⟨54, [(A_School s_1), .sl (starts_2.map (AV.int .i64)) none, i6 1], [], (v_parade_allAt r_16), []⟩] ∧ ConsA [⟨54, [(A_School s_1), .sl (starts_2.map (AV.int .i64)) none, i6 0], [], (v_parade_allAt r_15), []⟩, ⟨54, [(A_School s_1), .sl (starts_2.map (AV.int .i64)) none, i6 1], [], (v_parade_allAt r_16), []⟩] := ⟨⟨(d_parade_allAt N s_1 starts_2 0 r_15 hr_15), rfl, (d_parade_allAt N s_1 starts_2 1 r_16 hr_16), rfl, trivial⟩, ⟨⟨k_parade_allAt N s_1 starts_2 0 s_1 starts_2 1 r_15 r_16 hr_15 hr_16, trivial⟩, trivial, trivial⟩⟩
     refine Ex.drawE (a1 := mkS 45 [(1, .sl (starts_2.map (AV.int .i64)) none), (2, i6 wing_3), (3, i6 place_4), (4, .ptr 0 0), (8, .ptr 1 0), (11, .ptr 2 0), (12, .ptr 3 0), (30, .bool y_9), (32, (A_School s_1)), (33, .sl (starts_2.map (AV.int .i64)) none), (34, (A_parade_truth r_15)), (35, (A_School s_1)), (36, .sl (starts_2.map (AV.int .i64)) none), (37, (A_parade_truth r_16))]) (tabO_ok hT_17.1) [[.nils, .nils, i6 0, i6 0, i6 0, i6 0, i6 0, i6 0, i6 0, i6 0], [.nils, .nils, i6 0, i6 0, i6 0, i6 0, i6 0, i6 0, i6 0, i6 0]] [] [] ?_ ?_
     ·refine drS [0, 1, 2, 3] 2 [] [] (mkS 45 [(1, .sl (starts_2.map (AV.int .i64)) none), (2, i6 wing_3), (3, i6 place_4), (4, .ptr 0 0), (8, .ptr 1 0), (30, .bool y_9), (32, (A_School s_1)), (33, .sl (starts_2.map (AV.int .i64)) none)]) (by simp) (by kernel_rfl) trivial (by kernel_rfl) ?_
      refine drC hT_17.2 0 _ [(A_School s_1), .sl (starts_2.map (AV.int .i64)) none, i6 0] (v_parade_allAt r_15) rfl rfl rfl rfl rfl (fun _ => rfl) rfl (by simp; try rfl) (fun _ => b_parade_allAt _ _ _ _) ?_
      refine drS [0, 1, 2, 3] 2 [] [] (mkS 45 [(1, .sl (starts_2.map (AV.int .i64)) none), (2, i6 wing_3), (3, i6 place_4), (4, .ptr 0 0), (8, .ptr 1 0), (30, .bool y_9), (32, (A_School s_1)), (33, .sl (starts_2.map (AV.int .i64)) none), (34, (A_parade_truth r_15)), (35, (A_School s_1)), (36, .sl (starts_2.map (AV.int .i64)) none)]) (by simp) (by kernel_rfl) trivial (by kernel_rfl) ?_
      refine drC hT_17.2 1 _ [(A_School s_1), .sl (starts_2.map (AV.int .i64)) none, i6 1] (v_parade_allAt r_16) rfl rfl rfl rfl rfl (fun _ => rfl) rfl (by simp; try rfl) (fun _ => b_parade_allAt _ _ _ _) ?_
      refine drX 2 [.nils, .nils, i6 0, i6 0, i6 0, i6 0, i6 0, i6 0, i6 0, i6 0] rfl rfl (fun _ => by kernel_rfl) (by simp) rfl rfl ?_
      refine drX 3 [.nils, .nils, i6 0, i6 0, i6 0, i6 0, i6 0, i6 0, i6 0, i6 0] rfl rfl (fun _ => by kernel_rfl) (by simp) rfl rfl ?_
      exact DrO.nil rfl
     ·dsimp only [List.getLastD_cons, List.getLastD_nil]
      refine rn 2 [2, 3, 8, 11, 12] (mkS 45 [(2, i6 wing_3), (3, i6 place_4), (8, .ptr 1 0), (11, .ptr 2 0), (12, .ptr 3 0)]) ⟨[(C_School s_1), [i6 0, i6 0], (C_parade_truth r_15), (C_parade_truth r_16)], []⟩ ?_
      refine ExO.nil ?_
      refine Ex.seq ?_
      obtain ⟨r_18, hr_18, h⟩ := bE h
      refine Ex.reg (rn 6 [8, 39, 41, 42, 43] (mkS 45 [(8, .ptr 1 0), (39, .fn 56 [(A_parade_truth r_16)] []), (41, .fn 56 [(A_parade_truth r_15)] []), (42, i6 wing_3), (43, i6 place_4)]) ⟨[(C_School s_1), [i6 0, i6 0], (C_parade_truth r_15), (C_parade_truth r_16)], []⟩ ?_)
      refine ExO.callL [] [.fn 56 [(A_parade_truth r_16)] [], .fn 56 [(A_parade_truth r_15)] [], i6 wing_3, i6 place_4] rfl rfl (by simp; try rfl) rfl rfl (d_parade_between_parade_truth_passes_parade_truth_passes N r_16 r_15 wing_3 place_4 r_18 hr_18) (b_parade_between_parade_truth_passes_parade_truth_passes _ _ _ _) rfl ?_
      refine rn 2 [8, 9] (mkS 45 [(8, .ptr 1 0), (9, i6 0)]) ⟨[(C_School s_1), (C_Span r_18), (C_parade_truth r_15), (C_parade_truth r_16)], []⟩ ?_
      refine ExO.nil ?_
      refine Ex.ret ?_
      obtain rfl := sJ h
      exact rt (.tup [(A_Span r_18), i6 0])
def p_parade_Least (N : Nat) (s_1 : T_School) : Option ((List Int) × Int) := ((p_parade_Check N s_1).bind fun r_2 => (bif (r_2 != 0) then some ([], r_2) else ((mkI ((s_1.Wings.length : Nat) : Int)).bind fun k_4 => (letJ (fun (starts_5 : List Int) => some (starts_5, 0)) (fun k_6 => (loop2 (fun rec_11 (starts_9 : List Int) (y_10 : Int) => (bif (decide (y_10 < ((s_1.Wings.length : Nat) : Int))) then ((p_parade_leastStart N s_1 starts_9).bind fun r_15 => (bif (decide (r_15 > 20000)) then some ([], 2) else ((pushI starts_9 ([r_15] : List Int)).bind fun l_17 => (rec_11 l_17 (IntKind.i64.wrap (y_10 + 1)))))) else (k_6 starts_9))) N [] 0))))))
def v_parade_Least (r : (List Int) × Int) : AV := .tup [.sl (r.1.map (AV.int .i64)) none, i6 r.2]
attribute [local simp] v_parade_Least
theorem a_parade_Least (s_1 : T_School) : [(A_School s_1)].mapM (ren []) = some [(A_School s_1)] := by simp
theorem b_parade_Least (r : (List Int) × Int) (n n2 m : Nat) : back n n2 m (v_parade_Least r) = some (v_parade_Least r) := by simp
theorem d_parade_Least (N : Nat) (s_1 : T_School) (r : (List Int) × Int) (h : p_parade_Least N s_1 = some r) : Does Try.prog 57 [(A_School s_1)] [] fun v c => v = v_parade_Least r ∧ c = [] := by
 unfold p_parade_Least at h
 refine Does.ofL comp57 _ _ rfl rfl ?_
 refine Ex.seq (rg 3 [1] (mkS 32 [(1, .ptr 0 0)]) ⟨[(C_School s_1)], []⟩ ?_)
 refine Ex.seq (Ex.seq ?_)
 obtain ⟨r_2, hr_2, h⟩ := bE h
 refine Ex.reg (rn 1 [1, 7] (mkS 32 [(1, .ptr 0 0), (7, (A_School s_1))]) ⟨[(C_School s_1)], []⟩ ?_)
 refine ExO.callL [] [(A_School s_1)] rfl rfl (a_parade_Check s_1) rfl rfl (d_parade_Check N s_1 r_2 hr_2) (b_parade_Check _ _ _ _) rfl ?_
 refine rn 1 [1, 4] (mkS 32 [(1, .ptr 0 0), (4, i6 r_2)]) ⟨[(C_School s_1)], []⟩ ?_
 refine ExO.nil ?_
 refine Ex.seq (rg 2 [1, 4, 10] (mkS 32 [(1, .ptr 0 0), (4, i6 r_2), (10, .bool (r_2 != 0))]) ⟨[(C_School s_1)], []⟩ ?_)
 rcases condI h with ⟨hc_3, h⟩ | ⟨hc_3, h⟩
 ·refine Ex.condT _ rfl hc_3 ?_
  refine Ex.seq (rg 3 [2, 3] (mkS 32 [(2, .nils), (3, i6 r_2)]) ⟨[(C_School s_1)], []⟩ ?_)
  refine Ex.ret ?_
  obtain rfl := sJ h
  exact rt (.tup [.nils, i6 r_2])
 ·refine Ex.condF _ rfl hc_3 ?_
  refine Ex.skip ?_
  refine Ex.seq ?_
  obtain ⟨k_4, hk_4, h⟩ := bE h
  refine regH 5 [(2, .eq (i6 ((s_1.Wings.length : Nat) : Int))), (3, .mk0)] [1, 5] [AV.int .i64 (((s_1.Wings.map A_Wing).length : Nat) : Int) = AV.int .i64 ((s_1.Wings.length : Nat) : Int), 0 ≤ ((s_1.Wings.length : Nat) : Int) ∧ ((s_1.Wings.length : Nat) : Int) ≤ 65536] (mkS 32 [(1, .ptr 0 0), (5, .sl (([] : List Int).map (AV.int .i64)) (some 0))]) (⟨[(C_School s_1)], [(0, 1)]⟩) (by kernel_rfl) ⟨lenM _ _, mk0_of hk_4, trivial⟩ rfl ?_
  refine Ex.seq (Ex.seq ?_)
  refine regH 4 [(2, .eq (i6 ((s_1.Wings.length : Nat) : Int)))] [1, 5, 18, 19] [AV.int .i64 (((s_1.Wings.map A_Wing).length : Nat) : Int) = AV.int .i64 ((s_1.Wings.length : Nat) : Int)] (mkS 32 [(1, .ptr 0 0), (5, .sl (([] : List Int).map (AV.int .i64)) (some 0)), (18, i6 ((s_1.Wings.length : Nat) : Int)), (19, i6 0)]) (⟨[(C_School s_1)], [(0, 1)]⟩) (by kernel_rfl) ⟨lenM _ _, trivial⟩ rfl ?_
  obtain ⟨K_7, hK_8, h⟩ := letE h
  refine Ex.blockJ (fun a S => ∃ (starts_5 : List Int), K_7 starts_5 = some r ∧ a = mkS 32 [(5, .sl (starts_5.map (AV.int .i64)) (some 0))] ∧ S = ⟨[], [(starts_5.length, 1)]⟩) ?_ ?_
  ·obtain ⟨B_12, hB_13, h⟩ := loop2I h
   refine Ex.loopF (fun k a S => ∃ (starts_9 : List Int), ∃ (y_10 : Int), loop2 B_12 k starts_9 y_10 = some r ∧ a = mkS 32 [(1, .ptr 0 0), (5, .sl (starts_9.map (AV.int .i64)) (some 0)), (18, i6 ((s_1.Wings.length : Nat) : Int)), (19, i6 y_10)] ∧ S = ⟨[(C_School s_1)], [(starts_9.length, 1)]⟩) N ⟨_, _, Forgets.refl _ _ _, [], 0, h, rfl, rfl⟩ ?_
   rintro k a S ⟨starts_9, y_10, h, rfl, rfl⟩
   cases k with
   | zero => exact (loop2Z h).elim
   | succ k =>
    replace h := loop2S h hB_13
    refine Ex.seq (rg 1 [1, 5, 18, 19, 20] (mkS 32 [(1, .ptr 0 0), (5, .sl (starts_9.map (AV.int .i64)) (some 0)), (18, i6 ((s_1.Wings.length : Nat) : Int)), (19, i6 y_10), (20, .bool (decide (y_10 < ((s_1.Wings.length : Nat) : Int))))]) ⟨[(C_School s_1)], [(starts_9.length, 1)]⟩ ?_)
    refine Ex.seq ?_
    rcases condI h with ⟨hc_14, h⟩ | ⟨hc_14, h⟩
    ·refine Ex.condT _ rfl hc_14 ?_
     refine Ex.skip ?_
     refine Ex.seq ?_
     refine Ex.blockK ?_
     refine Ex.seq ?_
     obtain ⟨r_15, hr_15, h⟩ := bE h
     refine Ex.reg (rn 2 [1, 5, 18, 19, 21, 22] (mkS 32 [(1, .ptr 0 0), (5, .sl (starts_9.map (AV.int .i64)) (some 0)), (18, i6 ((s_1.Wings.length : Nat) : Int)), (19, i6 y_10), (21, (A_School s_1)), (22, .sl (starts_9.map (AV.int .i64)) (some 0))]) ⟨[(C_School s_1)], [(starts_9.length, 1)]⟩ ?_)
     refine ExO.callL [] [(A_School s_1), .sl (starts_9.map (AV.int .i64)) (some 0)] rfl rfl (a_parade_leastStart s_1 starts_9) rfl rfl (d_parade_leastStart N s_1 starts_9 r_15 hr_15) (b_parade_leastStart _ _ _ _) rfl ?_
     refine rn 1 [1, 5, 6, 18, 19] (mkS 32 [(1, .ptr 0 0), (5, .sl (starts_9.map (AV.int .i64)) (some 0)), (6, i6 r_15), (18, i6 ((s_1.Wings.length : Nat) : Int)), (19, i6 y_10)]) ⟨[(C_School s_1)], [(starts_9.length, 1)]⟩ ?_
     refine ExO.nil ?_
     refine Ex.seq (Ex.seq ?_)
     refine rg 2 [1, 5, 6, 18, 19, 25] (mkS 32 [(1, .ptr 0 0), (5, .sl (starts_9.map (AV.int .i64)) (some 0)), (6, i6 r_15), (18, i6 ((s_1.Wings.length : Nat) : Int)), (19, i6 y_10), (25, .bool (decide (r_15 > 20000)))]) ⟨[(C_School s_1)], [(starts_9.length, 1)]⟩ ?_
     rcases condI h with ⟨hc_16, h⟩ | ⟨hc_16, h⟩
     ·refine Ex.condT _ rfl hc_16 ?_
      refine Ex.seq (rg 2 [2, 3] (mkS 32 [(2, .nils), (3, i6 2)]) ⟨[(C_School s_1)], [(starts_9.length, 1)]⟩ ?_)
      refine Ex.ret ?_
      obtain rfl := sJ h
      exact rt (.tup [.nils, i6 2])
     ·refine Ex.condF _ rfl hc_16 ?_
      refine Ex.skip ?_
      obtain ⟨l_17, hl_17, h⟩ := bE h
      refine regH 5 [(3, .app (l_17.map (AV.int .i64)) l_17.length)] [1, 5, 18, 19] [LApp starts_9.length (starts_9.map (AV.int .i64)) (([r_15] : List Int).map (AV.int .i64)) 1 (l_17.map (AV.int .i64)) l_17.length] (mkS 32 [(1, .ptr 0 0), (5, .sl (l_17.map (AV.int .i64)) (some 0)), (18, i6 ((s_1.Wings.length : Nat) : Int)), (19, i6 y_10)]) (⟨[(C_School s_1)], [(l_17.length, 1), (1, 1)]⟩) (by kernel_rfl) ⟨LApp.of hl_17 (fun _ => rfl), trivial⟩ rfl ?_
      refine rg 2 [1, 5, 18, 19] (mkS 32 [(1, .ptr 0 0), (5, .sl (l_17.map (AV.int .i64)) (some 0)), (18, i6 ((s_1.Wings.length : Nat) : Int)), (19, i6 (IntKind.i64.wrap (y_10 + 1)))]) ⟨[(C_School s_1)], [(l_17.length, 1), (1, 1)]⟩ ?_
      dsimp only
      exact ⟨_, _, forgetA (m := 32) 1 [0] [(1, .ptr 0 0), (5, .sl (l_17.map (AV.int .i64)) (some 0)), (18, i6 ((s_1.Wings.length : Nat) : Int)), (19, i6 (IntKind.i64.wrap (y_10 + 1)))] [(C_School s_1)] [(l_17.length, 1)] (by simp [setAll]) (by simp) ⟨rfl, (reT (cleanI _ _) rfl), rfl, rfl, trivial⟩ (by simp) rfl (by decide), k, Nat.lt_succ_self k, l_17, (IntKind.i64.wrap (y_10 + 1)), h, rfl, rfl⟩
    ·refine Ex.condF _ rfl hc_14 ?_
     refine Ex.exit ?_
     (try simp only [reduceCtorEq, AEx.ex.injEq, Nat.reduceEqDiff, if_true, if_false])
     exact ⟨_, _, forgetA (m := 32) 0 [0] [(5, .sl (starts_9.map (AV.int .i64)) (some 0))] [] [(starts_9.length, 1)] (by simp [setAll]) (by simp) ⟨(reT (cleanI _ _) rfl), trivial⟩ (by simp) rfl (by decide), starts_9, h, rfl, rfl⟩
  ·rintro a S ⟨starts_5, h, rfl, rfl⟩
   subst hK_8
   refine Ex.seq (rg 3 [2, 3] (mkS 32 [(2, .sl (starts_5.map (AV.int .i64)) (some 0)), (3, i6 0)]) ⟨[], [(starts_5.length, 1)]⟩ ?_)
   refine Ex.ret ?_
   obtain rfl := sJ h
   exact rt (.tup [.sl (starts_5.map (AV.int .i64)) (some 0), i6 0])
end Go.Proofs.Ytacoakfppjiomaa
end
section
namespace Go.Proofs.Ytacoakfppjiomaa
open Go.RowKit

def loW (ws : List T_Wing) (k : Nat) : Int := (ws[k]?.map (·.Pace.Lo)).getD 1
def hiW (ws : List T_Wing) (k : Nat) : Int := (ws[k]?.map (·.Pace.Hi)).getD 1
def leastAt (ws : List T_Wing) (st : List Int) : Nat → Int
 | 0 => 0
 | k + 1 => up ws (atI st) (loW ws) (k + 1) (lenW ws k) (atI st k)
theorem loW_bd {ws : List T_Wing} (h : GoodWs ws) (k : Nat) : 1 ≤ loW ws k ∧ loW ws k ≤ hiW ws k ∧ hiW ws k ≤ 80 := by
 unfold loW hiW
 cases hw : ws[k]? with
 | none => simp
 | some w =>
  have := (h.wing k w hw).1
  have := this.p0
  have := (h.wing k w hw).1.p1
  have := (h.wing k w hw).1.p2
  simp
  omega
theorem leastAt_congr {ws : List T_Wing} {st st' : List Int} : ∀ (k : Nat), (∀ j, j < k → atI st j = atI st' j) → leastAt ws st k = leastAt ws st' k
 | 0, _ => rfl
 | k + 1, h => by
  show up ws (atI st) (loW ws) (k + 1) (lenW ws k) (atI st k) = up ws (atI st') (loW ws) (k + 1) (lenW ws k) (atI st' k)
  rw [h k (by omega)]
  exact up_congr (k + 1) _ _ fun j hj => ⟨h j hj, rfl⟩
theorem atI_app {l : List Int} {x : Int} {k : Nat} (hk : k < l.length) : atI (l ++ [x]) k = atI l k := by
 unfold atI
 rw [List.getElem?_append_left hk]
theorem atI_end {l : List Int} {x : Int} : atI (l ++ [x]) l.length = x := by
 unfold atI
 rw [List.getElem?_concat_length]
 rfl
theorem slow_p (N : Nat) (hN : 1000 < N) (s : T_School) (h8 : s.Wings.length ≤ 8) : p_br1_Slow N s = some (s.Wings.map (·.Pace.Lo)) := by
 unfold p_br1_Slow
 simp only [letJ_eq]
 refine invZ' s.Wings (fun x => x = some (s.Wings.map (·.Pace.Lo))) (fun i (b : List Int) => b = (s.Wings.take i).map (·.Pace.Lo)) (by omega) (by simp) (fun rec b hb => ?_) (fun rec i w b hw hi hb ih => ?_)
 ·simp only [ltE, cond_false]
  rw [hb, List.take_length]
 ·simp only [ltD hi, cond_true, getD_at hw, Option.bind_some, nadd1 i (by omega)]
  rw [pushI_ok (by rw [hb]; simp; omega), Option.bind_some]
  refine ih _ ?_
  rw [hb, List.take_add_one, hw, List.map_append]
  rfl
theorem atI_map {ws : List T_Wing} {k : Nat} (hk : k < ws.length) : atI (ws.map (·.Pace.Lo)) k = loW ws k := by
 unfold atI loW
 rw [List.getElem?_map, List.getElem?_eq_getElem hk]
 rfl
theorem leastOf_p (N : Nat) (hN : 1000 < N) (s : T_School) (h : GoodWs s.Wings) (h8 : s.Wings.length ≤ 8) (st : List Int) (hi : st.length < s.Wings.length) (hs : ∀ k, k < st.length → 0 ≤ atI st k ∧ atI st k ≤ 20000) : p_br1_LeastOf N s st ((st.length : Nat) : Int) = some (leastAt s.Wings st st.length) := by
 unfold p_br1_LeastOf
 cases hq : st.length with
 | zero => rfl
 | succ k =>
  have hlb := lenW_bd h k
  have hW : s.Wings[k]? = some s.Wings[k] := List.getElem?_eq_getElem (by omega)
  have hle : lenW s.Wings k = s.Wings[k].Length := by unfold lenW; rw [hW]; rfl
  rw [show ((((k + 1 : Nat) : Int) == 0) : Bool) = false from by simp; omega, cond_false, slow_p N hN s h8, Option.bind_some, w64 (x := ((k + 1 : Nat) : Int) - 1) (by omega) (by omega), show ((k + 1 : Nat) : Int) - 1 = (k : Int) by omega, getD_at hW, Option.bind_some, ← hle]
  rw [passed_p N hN s h st _ k (by omega) h8 (by omega) (by simp; omega) (fun j hj => hs j (by omega)) (fun j hj => by rw [atI_map (by omega)]; have := loW_bd h j; omega) _ hlb.1 (by omega), Option.bind_some]
  congr 1
  exact up_congr (k + 1) _ _ fun j hj => ⟨rfl, atI_map (by omega)⟩
structure GoodSt (ws : List T_Wing) (st : List Int) : Prop where
 ge : ∀ k, k < st.length → leastAt ws st k ≤ atI st k
 bd : ∀ k, k < st.length → 0 ≤ atI st k ∧ atI st k ≤ 1000 * ((k : Int) + 1)
theorem leastAt_bd {ws : List T_Wing} (h : GoodWs ws) {st : List Int} {m : Int} (m0 : 0 ≤ m) : ∀ (k : Nat), k ≤ 8 → (∀ j, j < k → 0 ≤ atI st j ∧ atI st j ≤ m) → 0 ≤ leastAt ws st k ∧ leastAt ws st k ≤ m + 900
 | 0, _, _ => by show 0 ≤ (0 : Int) ∧ (0 : Int) ≤ m + 900; omega
 | k + 1, hk, hs => by
  have hlb := lenW_bd h k
  have h1 := hs k (by omega)
  refine ⟨Int.le_trans h1.1 (up_ge _ _ _), ?_⟩
  exact up_bd (fun j => lenW_bd h j) (k + 1) _ _ hlb.1 (by omega) (fun j hj => ⟨(hs j hj).2, (loW_bd h j).1⟩) (by omega)
theorem startsOf_p (N : Nat) (hN : 1000 < N) (d : T_bk_Drum) (s : T_School) (h : GoodWs s.Wings) (h8 : s.Wings.length ≤ 8) : ∃ (st : List Int) (d' : T_bk_Drum), p_bk_StartsOf N d s = some (st, d') ∧ st.length = s.Wings.length ∧ GoodSt s.Wings st := by
 unfold p_bk_StartsOf
 refine letJ_gen (fun x => ∃ (st : List Int) (d' : T_bk_Drum), x = some (st, d') ∧ st.length = s.Wings.length ∧ GoodSt s.Wings st) _ _ (fun K hK => ?_)
 refine loop3_T (fun x => ∃ (st : List Int) (d' : T_bk_Drum), x = some (st, d') ∧ st.length = s.Wings.length ∧ GoodSt s.Wings st) (fun out i b => i = ((out.length : Nat) : Int) ∧ out.length ≤ s.Wings.length ∧ GoodSt s.Wings out) (fun out i b => 100 - i.toNat) ?_ N [] 0 _ ⟨rfl, Nat.zero_le _, ⟨fun k hk => absurd hk (Nat.not_lt_zero _), fun k hk => absurd hk (Nat.not_lt_zero _)⟩⟩ (by omega)
 rintro rec out i b ⟨rfl, q1, q2⟩ ih
 by_cases hlt : out.length < s.Wings.length
 ·rw [ltD hlt, cond_true]
  have hbm : ∀ j, j < out.length → 0 ≤ atI out j ∧ atI out j ≤ 1000 * (out.length : Int) := fun j hj => by
   have := q2.bd j hj
   omega
  rw [leastOf_p N hN s h h8 out hlt (fun k hk => by have := hbm k hk; omega), Option.bind_some]
  have hle := leastAt_bd h (m := 1000 * (out.length : Int)) (by omega) out.length (by omega) hbm
  obtain ⟨a, d1, e, a0, a1⟩ := roll_le N ⟨b⟩ 4 (by omega) (by omega)
  rw [e, Option.bind_some]; clear e
  dsimp only
  obtain ⟨b2, d2, e, b0, b1⟩ := roll_le N d1 40 (by omega) (by omega)
  rw [e, Option.bind_some]; clear e
  dsimp only
  obtain ⟨z, d3, e, hz⟩ := any_p N d2 [0, a, b2] (by simp) (by simp)
  rw [e, Option.bind_some]; clear e
  have hz : z = 0 ∨ z = a ∨ z = b2 := by simpa using hz
  dsimp only
  rw [w64 (x := leastAt s.Wings out out.length + z) (by omega) (by omega), pushI_ok (by simp; omega), Option.bind_some, nadd1 _ (by omega)]
  refine ih _ _ _ ⟨by simp, by simp; omega, ⟨fun k hk => ?_, fun k hk => ?_⟩⟩ (by omega)
  ·rw [leastAt_congr (st' := out) k (fun j hj => atI_app (by simp at hk; omega))]
   by_cases hk2 : k < out.length
   ·rw [atI_app hk2]; exact q2.ge k hk2
   ·have : k = out.length := by simp at hk; omega
    subst this
    rw [atI_end]
    omega
  ·by_cases hk2 : k < out.length
   ·rw [atI_app hk2]; exact q2.bd k hk2
   ·have : k = out.length := by simp at hk; omega
    subst this
    rw [atI_end]
    omega
 ·rw [show decide (((out.length : Nat) : Int) < ((s.Wings.length : Nat) : Int)) = false from decide_eq_false (by omega), cond_false, hK]
  exact ⟨_, _, rfl, by omega, q2⟩
theorem pacesOf_p (N : Nat) (hN : 1000 < N) (d : T_bk_Drum) (s : T_School) (h : GoodWs s.Wings) (h8 : s.Wings.length ≤ 8) : ∃ (pc : List Int) (d' : T_bk_Drum), p_bk_PacesOf N d s = some (pc, d') ∧ pc.length = s.Wings.length ∧ ∀ k, k < s.Wings.length → loW s.Wings k ≤ atI pc k ∧ atI pc k ≤ hiW s.Wings k := by
 unfold p_bk_PacesOf
 refine letJ_gen (fun x => ∃ (pc : List Int) (d' : T_bk_Drum), x = some (pc, d') ∧ pc.length = s.Wings.length ∧ ∀ k, k < s.Wings.length → loW s.Wings k ≤ atI pc k ∧ atI pc k ≤ hiW s.Wings k) _ _ (fun K hK => ?_)
 refine loop3_T (fun x => ∃ (pc : List Int) (d' : T_bk_Drum), x = some (pc, d') ∧ pc.length = s.Wings.length ∧ ∀ k, k < s.Wings.length → loW s.Wings k ≤ atI pc k ∧ atI pc k ≤ hiW s.Wings k) (fun out i b => i = ((out.length : Nat) : Int) ∧ out.length ≤ s.Wings.length ∧ ∀ k, k < out.length → loW s.Wings k ≤ atI out k ∧ atI out k ≤ hiW s.Wings k) (fun out i b => 100 - i.toNat) ?_ N [] 0 _ ⟨rfl, Nat.zero_le _, fun k hk => absurd hk (Nat.not_lt_zero _)⟩ (by omega)
 rintro rec out i b ⟨rfl, q1, q2⟩ ih
 by_cases hlt : out.length < s.Wings.length
 ·have hW : s.Wings[out.length]? = some s.Wings[out.length] := List.getElem?_eq_getElem hlt
  have hb := loW_bd h out.length
  have e1 : loW s.Wings out.length = s.Wings[out.length].Pace.Lo := by unfold loW; rw [hW]; rfl
  have e2 : hiW s.Wings out.length = s.Wings[out.length].Pace.Hi := by unfold hiW; rw [hW]; rfl
  rw [ltD hlt, cond_true, getD_at hW, Option.bind_some]
  obtain ⟨r, d1, e, r0, r1⟩ := of_p N ⟨b⟩ s.Wings[out.length].Pace (by omega) (by omega) (by omega)
  rw [e, Option.bind_some]; clear e
  dsimp only
  rw [pushI_ok (by simp; omega), Option.bind_some, nadd1 _ (by omega)]
  refine ih _ _ _ ⟨by simp, by simp; omega, fun k hk => ?_⟩ (by omega)
  by_cases hk2 : k < out.length
  ·rw [atI_app hk2]; exact q2 k hk2
  ·have : k = out.length := by simp at hk; omega
   subst this
   rw [atI_end]
   omega
 ·rw [show decide (((out.length : Nat) : Int) < ((s.Wings.length : Nat) : Int)) = false from decide_eq_false (by omega), cond_false, hK]
  exact ⟨_, _, rfl, by omega, fun k hk => q2 k (by omega)⟩

theorem pw_p (N : Nat) (n a b : Int) (h0 : a ≤ n) (h1 : n ≤ b) : p_parade_within N n a b = some true := by
 unfold p_parade_within
 rw [decide_eq_true (show n ≥ a from h0), cond_true, decide_eq_true h1]
theorem names_all : (wn.all fun b => decide (1 ≤ b.size ∧ b.size ≤ 8) && (List.range b.size).all fun i => match b[i]? with | some c => decide (97 ≤ c.toNat ∧ c.toNat ≤ 122) | none => false) = true := by kernel_rfl
theorem isName_p (N : Nat) (hN : 1000 < N) (b : ByteArray) (hb : b ∈ wn) : p_parade_isName N b = some true := by
 have h1 := List.all_eq_true.1 names_all b hb
 simp only [Bool.and_eq_true, decide_eq_true_eq] at h1
 obtain ⟨⟨s0, s1⟩, h2⟩ := h1
 unfold p_parade_isName
 rw [pw_p N _ 1 8 (by omega) (by omega), Option.bind_some]
 simp only [Bool.not_true, cond_false, letJ_eq]
 refine st1 b.size _ (some true) ?_ ?_ N 0 (by omega) (by omega)
 ·intro rec
  rw [show decide (((b.size : Nat) : Int) < (b.size : Int)) = false from decide_eq_false (by omega), cond_false]
 ·intro rec i hi
  have h3 := List.all_eq_true.1 h2 i (by simpa using hi)
  split at h3
  ·rename_i c hc
   simp only [decide_eq_true_eq] at h3
   have e : idxB b (i : Int) = some (c.toNat : Int) := by
    unfold idxB
    rw [if_pos (by omega), Int.toNat_natCast, hc]
    rfl
   rw [show decide ((i : Int) < (b.size : Int)) = true from decide_eq_true (by omega), cond_true, e, Option.bind_some, decide_eq_false (by omega), cond_false, Option.bind_some, decide_eq_false (by omega), cond_false, nadd1 i (by omega)]
  ·cases h3
theorem names_ne : ((List.range 8).all fun i => (List.range i).all fun k => match wn[k]?, wn[i]? with | some a, some b => !(a.toList == b.toList) | _, _ => false) = true := by kernel_rfl
theorem names_p {i k : Nat} (hi : i < 8) (hk : k < i) {a b : ByteArray} (ha : wn[k]? = some a) (hb : wn[i]? = some b) : (a.toList == b.toList) = false := by
 have h1 := List.all_eq_true.1 (List.all_eq_true.1 names_ne i (by simpa using hi)) k (by simpa using hk)
 simp only [ha, hb] at h1
 simpa using h1
theorem pcheck_p (N : Nat) (hN : 1000 < N) (s : T_School) (h : GoodWs s.Wings) (h8 : s.Wings.length ≤ 8) (h1 : 1 ≤ s.Wings.length) (r0 : 1 ≤ s.Route) (r1 : s.Route ≤ 100000) : p_parade_Check N s = some 0 := by
 unfold p_parade_Check
 rw [pw_p N _ _ _ r0 r1, Option.bind_some]
 simp only [Bool.not_true, cond_false, letJ_eq]
 rw [show ((((s.Wings.length : Nat) : Int) == 0) : Bool) = false from by simp; intro q; simp [q] at h1, cond_false, show decide (((s.Wings.length : Nat) : Int) > 8) = false from decide_eq_false (by omega), cond_false]
 refine st1 s.Wings.length _ (some 0) ?_ ?_ N 0 (by omega) (by omega)
 ·intro rec; simp only [ltE, cond_false]
 ·intro rec i hi
  have hW : s.Wings[i]? = some s.Wings[i] := List.getElem?_eq_getElem hi
  obtain ⟨g, hn⟩ := h.wing i _ hW
  have g1 := g.l0; have g2 := g.l1; have g3 := g.p0; have g4 := g.p1; have g5 := g.p2
  have hpart : partI s.Wings 0 (i : Int) = some (s.Wings.take i) := by
   unfold partI
   rw [if_pos (by omega)]
   simp
  have hcw : p_parade_checkWing N s.Wings[i] (s.Wings.take i) = some 0 := by
   unfold p_parade_checkWing
   rw [isName_p N hN _ (List.mem_of_getElem? hn), Option.bind_some]
   simp only [Bool.not_true, cond_false, letJ_eq]
   refine st1 (s.Wings.take i).length _ (some 0) ?_ ?_ N 0 (by simp) (by simp; omega)
   ·intro rec
    simp only [ltE, cond_false, pw_p N _ 1 5000 g1 (by omega), Option.bind_some, Bool.not_true, pw_p N _ 1 200 g3 (by omega), pw_p N _ 1 200 (show 1 ≤ s.Wings[i].Pace.Hi by omega) (by omega)]
    rw [decide_eq_false (by omega), cond_false]
   ·intro rec k hk
    have hki : k < i := by simp at hk; omega
    have hWk : s.Wings[k]? = some s.Wings[k] := List.getElem?_eq_getElem (by omega)
    have hWk2 : (s.Wings.take i)[k]? = some s.Wings[k] := by rw [List.getElem?_take, if_pos hki, hWk]
    obtain ⟨_, hnk⟩ := h.wing k _ hWk
    simp only [ltD hk, cond_true, getD_at hWk2, Option.bind_some, names_p (by omega) hki hnk hn, cond_false, nadd1 k (by omega)]
  simp only [ltD hi, cond_true, getD_at hW, Option.bind_some, hpart, hcw, bne_self_eq_false, cond_false, nadd1 i (by omega)]
structure TrP (ws : List T_Wing) (st : List Int) (pc : Nat → Int) (t : T_parade_truth) : Prop where
 w : t.wings_ = ws
 s : t.starts_ = st
 p : ∀ k, k < ws.length → t.paces_.l[k]? = some (pc k)
theorem allAt_p (N : Nat) (hN : 1000 < N) (s : T_School) (h8 : s.Wings.length ≤ 8) (st : List Int) (e : Int) (pc : Nat → Int) (hpc : ∀ (k : Nat) w, s.Wings[k]? = some w → getA [w.Pace.Lo, w.Pace.Hi] e 2 = some (pc k)) : ∃ t, p_parade_allAt N s st e = some t ∧ TrP s.Wings st pc t := by
 unfold p_parade_allAt
 simp only [letJ_eq]
 refine invZ s.Wings (fun x => ∃ t, x = some t ∧ TrP s.Wings st pc t) (fun i (z : T_parade_truth) => z.wings_ = s.Wings ∧ z.starts_ = st ∧ ∀ k, k < i → z.paces_.l[k]? = some (pc k)) (by omega) ⟨rfl, rfl, fun k hk => absurd hk (Nat.not_lt_zero _)⟩ (fun rec z hz => ?_) (fun rec i w z hw hi hz ih => ?_)
 ·simp only [ltE, cond_false]
  exact ⟨z, rfl, hz.1, hz.2.1, hz.2.2⟩
 ·have e1 : p_parade_endsOf N w.Pace = some (⟨w.Pace.Lo, w.Pace.Hi⟩ : T_V2_i64) := rfl
  have e2 : (⟨w.Pace.Lo, w.Pace.Hi⟩ : T_V2_i64).l = [w.Pace.Lo, w.Pace.Hi] := rfl
  simp only [ltD hi, cond_true, getD_at hw, Option.bind_some, e1, e2, hpc i w hw, nadd1 i (by omega), show idxI (i : Int) 8 = some () from by unfold idxI; rw [if_pos (by omega)], Int.toNat_natCast]
  refine ih _ ⟨hz.1, hz.2.1, fun k hk => ?_⟩
  dsimp only
  rw [T_V8_i64.l_ofl _ (by rw [List.length_set]; rfl), List.getElem?_set]
  by_cases hki : i = k
  ·subst hki
   rw [if_pos rfl, if_pos (by show i < 8; omega)]
  ·rw [if_neg hki]
   exact hz.2.2 k (by omega)
theorem tpasses_p (N : Nat) (hN : 1000 < N) (ws : List T_Wing) (h : GoodWs ws) (h8 : ws.length ≤ 8) (st : List Int) (pc : Nat → Int) (t : T_parade_truth) (ht : TrP ws st pc t) (i : Nat) (hi : i < ws.length) (hst : i < st.length) (hs : ∀ k, k ≤ i → 0 ≤ atI st k ∧ atI st k ≤ 20000) (hp : ∀ k, k ≤ i → 1 ≤ pc k ∧ pc k ≤ 200) (pl : Int) (p0 : 0 ≤ pl) (p1 : pl ≤ 100000) : p_parade_truth_passes N t (i : Int) pl = some (up ws (atI st) pc (i + 1) pl (atI st i)) := by
 have hget : ∀ (l : List Int) k, k < l.length → getI l (k : Int) = some (atI l k) := fun l k hk => by
  rw [getI_nat]
  unfold atI
  rw [List.getElem?_eq_getElem hk]
  rfl
 unfold p_parade_truth_passes
 rw [ht.s, ht.w, hget st i hst, Option.bind_some, show p_parade_upTo N ws (i : Int) = some ((i : Int), ws) from rfl, Option.bind_some]
 simp only [letJ_eq]
 refine loop3_T (fun x => x = some (up ws (atI st) pc (i + 1) pl (atI st i))) (fun dist k second => ∃ j : Nat, k = (j : Int) - 1 ∧ j ≤ i + 1 ∧ 0 ≤ dist ∧ pl + dist + 100 * (j : Int) ≤ 200000 ∧ 0 ≤ second ∧ second ≤ 400000 ∧ up ws (atI st) pc j (if j ≤ i then pl + dist + lenW ws (j - 1) else pl + dist) second = up ws (atI st) pc (i + 1) pl (atI st i)) (fun _ k _ => (k + 1).toNat) ?_ N _ _ _ ⟨i + 1, by omega, Nat.le_refl _, Int.le_refl _, by omega, (hs i (Nat.le_refl _)).1, by have := (hs i (Nat.le_refl _)).2; omega, by rw [if_neg (by omega), Int.add_zero]⟩ (by omega)
 rintro rec dist k second ⟨j, rfl, hj, q0, q1, q2, q3, q4⟩ ih
 by_cases hj0 : j = 0
 ·subst hj0
  rw [show decide (((0 : Nat) : Int) - 1 ≥ 0) = false from rfl, cond_false]
  rw [← q4]
  rfl
 ·obtain ⟨m, rfl⟩ : ∃ m, j = m + 1 := ⟨j - 1, by omega⟩
  have hm : ((m + 1 : Nat) : Int) - 1 = (m : Int) := by omega
  rw [hm, show decide ((m : Int) ≥ 0) = true from decide_eq_true (by omega), cond_true]
  have hlb := lenW_bd h m
  have hsm := hs m (by omega)
  have hpm := hp m (by omega)
  have hgo : ∀ dist2 : Int, dist2 = (if m + 1 ≤ i then dist + lenW ws m else dist) → ((getI st (m : Int)).bind fun x_46 => ((idxI (m : Int) 8).bind fun u_47 => ((t.paces_.l[Int.toNat (m : Int)]?).bind fun x_48 => ((p_parade_dividedUp N (IntKind.i64.wrap (pl + dist2)) x_48).bind fun r_49 => (rec dist2 (IntKind.i64.wrap ((m : Int) - 1)) (if (IntKind.i64.wrap (x_46 + r_49)) > second then (IntKind.i64.wrap (x_46 + r_49)) else second)))))) = some (up ws (atI st) pc (i + 1) pl (atI st i)) := by
   intro dist2 hp2
   have hpb : 0 ≤ dist2 ∧ pl + dist2 + 100 * (m : Int) ≤ 200000 := by rw [hp2]; split <;> omega
   have hc0 := cdiv_nonneg (n := pl + dist2) (by omega) hpm.1
   have hc1 := cdiv_self (n := pl + dist2) (by omega) hpm.1
   have hdu : p_parade_dividedUp N (pl + dist2) (pc m) = some (cdiv (pl + dist2) (pc m)) := by
    unfold p_parade_dividedUp
    rw [show nzI (pc m) = some () from by unfold nzI; rw [if_neg (by omega)], Option.bind_some, w64 (x := pl + dist2 + pc m) (by omega) (by omega), w64 (x := pl + dist2 + pc m - 1) (by omega) (by omega)]
    rw [show Int.tdiv (pl + dist2 + pc m - 1) (pc m) = cdiv (pl + dist2) (pc m) from rfl, w64 (by omega) (by omega)]
   rw [hget st m (by omega), Option.bind_some, show idxI (m : Int) 8 = some () from by unfold idxI; rw [if_pos (by omega)], Option.bind_some, Int.toNat_natCast, ht.p m (by omega), Option.bind_some, w64 (x := pl + dist2) (by omega) (by omega), hdu, Option.bind_some, w64 (x := atI st m + cdiv (pl + dist2) (pc m)) (by omega) (by omega), w64 (x := (m : Int) - 1) (by omega) (by omega)]
   refine ih _ _ _ ⟨m, rfl, by omega, hpb.1, hpb.2, ?_, ?_, ?_⟩ (by omega)
   ·split <;> omega
   ·split <;> omega
   ·rw [if_pos (by omega), ← q4]
    have : (if m + 1 ≤ i then pl + dist + lenW ws (m + 1 - 1) else pl + dist) = pl + dist2 := by
     rw [hp2]
     show (if m + 1 ≤ i then pl + dist + lenW ws m else pl + dist) = _
     split <;> omega
    rw [this]
    rfl
  have hW : ws[m]? = some ws[m] := List.getElem?_eq_getElem (by omega)
  by_cases hlt : m < i
  ·rw [show decide ((m : Int) < (i : Int)) = true from decide_eq_true (by omega), cond_true, getD_at hW, Option.bind_some]
   have hle : lenW ws m = ws[m].Length := by unfold lenW; rw [hW]; rfl
   rw [w64 (x := dist + ws[m].Length) (by omega) (by omega)]
   exact hgo _ (by rw [if_pos (by omega), hle])
  ·rw [show decide ((m : Int) < (i : Int)) = false from decide_eq_false (by omega), cond_false]
   exact hgo _ (by rw [if_neg (by omega)])
theorem lo_ok {ws : List T_Wing} (k : Nat) (w : T_Wing) (h : ws[k]? = some w) : getA [w.Pace.Lo, w.Pace.Hi] 0 2 = some (loW ws k) := by
 unfold getA loW
 rw [h]
 rfl
theorem hi_ok {ws : List T_Wing} (k : Nat) (w : T_Wing) (h : ws[k]? = some w) : getA [w.Pace.Lo, w.Pace.Hi] 1 2 = some (hiW ws k) := by
 unfold getA hiW
 rw [h]
 rfl
theorem leastStart_p (N : Nat) (hN : 1000 < N) (s : T_School) (h : GoodWs s.Wings) (h8 : s.Wings.length ≤ 8) (st : List Int) (hi : st.length ≤ s.Wings.length) (hs : ∀ k, k < st.length → 0 ≤ atI st k ∧ atI st k ≤ 20000) : p_parade_leastStart N s st = some (leastAt s.Wings st st.length) := by
 unfold p_parade_leastStart
 cases hq : st.length with
 | zero => rfl
 | succ k =>
  obtain ⟨t, e, ht⟩ := allAt_p N hN s h8 st 0 (loW s.Wings) (fun k w => lo_ok k w)
  have hlb := lenW_bd h k
  have hW : s.Wings[k]? = some s.Wings[k] := List.getElem?_eq_getElem (by omega)
  have hle : lenW s.Wings k = s.Wings[k].Length := by unfold lenW; rw [hW]; rfl
  rw [show ((((k + 1 : Nat) : Int) == 0) : Bool) = false from by simp; omega, cond_false, e, Option.bind_some, w64 (x := ((k + 1 : Nat) : Int) - 1) (by omega) (by omega), show ((k + 1 : Nat) : Int) - 1 = (k : Int) by omega]
  unfold p_parade_truth_leaves
  rw [ht.w, getD_at hW, Option.bind_some, ← hle, Int.zero_add, w64 (x := lenW s.Wings k) (by omega) (by omega)]
  rw [tpasses_p N hN s.Wings h h8 st _ t ht k (by omega) (by omega) (fun j hj => hs j (by omega)) (fun j hj => by have := loW_bd h j; omega) _ hlb.1 (by omega)]
  rfl
theorem checkStarts_p (N : Nat) (hN : 1000 < N) (s : T_School) (h : GoodWs s.Wings) (h8 : s.Wings.length ≤ 8) (h1 : 1 ≤ s.Wings.length) (r0 : 1 ≤ s.Route) (r1 : s.Route ≤ 100000) (st : List Int) (hl : st.length = s.Wings.length) (hs : ∀ k, k < st.length → 0 ≤ atI st k ∧ atI st k ≤ 20000) (hge : ∀ k, k < st.length → leastAt s.Wings st k ≤ atI st k) : p_parade_CheckStarts N s st = some 0 := by
 unfold p_parade_CheckStarts
 rw [pcheck_p N hN s h h8 h1 r0 r1, Option.bind_some]
 simp only [bne_self_eq_false, cond_false, letJ_eq]
 rw [show ((((st.length : Nat) : Int) != ((s.Wings.length : Nat) : Int)) : Bool) = false from by simp; omega, cond_false]
 refine st1 st.length _ (some 0) ?_ ?_ N 0 (by omega) (by omega)
 ·intro rec; simp only [ltE, cond_false]
 ·intro rec i hi
  have hx : getI st (i : Int) = some (atI st i) := by
   rw [getI_nat]
   unfold atI
   rw [List.getElem?_eq_getElem hi]
   rfl
  have hpart : partI st 0 (i : Int) = some (st.take i) := by
   unfold partI
   rw [if_pos (by omega)]
   simp
  have htk : ∀ k, k < i → atI (st.take i) k = atI st k := fun k hk => by
   unfold atI
   rw [List.getElem?_take, if_pos hk]
  have htl : (st.take i).length = i := by simp; omega
  have hsi := hs i hi
  rw [ltD hi, cond_true, hx, Option.bind_some, pw_p N _ 0 20000 hsi.1 hsi.2, Option.bind_some]
  simp only [Bool.not_true, cond_false]
  rw [hpart, Option.bind_some, leastStart_p N hN s h h8 (st.take i) (by omega) (fun k hk => by rw [htk k (by omega)]; exact hs k (by omega)), Option.bind_some, htl, leastAt_congr (st' := st) i htk, decide_eq_false (by have := hge i hi; omega), cond_false, nadd1 i (by omega)]
theorem passes_p (N : Nat) (hN : 1000 < N) (s : T_School) (h : GoodWs s.Wings) (h8 : s.Wings.length ≤ 8) (h1 : 1 ≤ s.Wings.length) (r0 : 1 ≤ s.Route) (r1 : s.Route ≤ 100000) (st : List Int) (hl : st.length = s.Wings.length) (hs : ∀ k, k < st.length → 0 ≤ atI st k ∧ atI st k ≤ 20000) (hge : ∀ k, k < st.length → leastAt s.Wings st k ≤ atI st k) (i : Nat) (hi : i < st.length) (pl : Int) (p0 : 0 ≤ pl) (p1 : pl ≤ 100000) :
  p_parade_Passes N s st (i : Int) pl = some (⟨up s.Wings (atI st) (hiW s.Wings) (i + 1) pl (atI st i), up s.Wings (atI st) (loW s.Wings) (i + 1) pl (atI st i)⟩, 0) := by
 obtain ⟨t0, e0, ht0⟩ := allAt_p N hN s h8 st 0 (loW s.Wings) (fun k w => lo_ok k w)
 obtain ⟨t1, e1, ht1⟩ := allAt_p N hN s h8 st 1 (hiW s.Wings) (fun k w => hi_ok k w)
 unfold p_parade_Passes
 rw [checkStarts_p N hN s h h8 h1 r0 r1 st hl hs hge, Option.bind_some]
 simp only [bne_self_eq_false, cond_false, letJ_eq]
 rw [show p_parade_isWing N s (i : Int) = some true from by
  unfold p_parade_isWing
  rw [decide_eq_true (show (i : Int) ≥ 0 by omega), cond_true, decide_eq_true (by omega)], Option.bind_some]
 simp only [Bool.not_true, cond_false]
 rw [decide_eq_false (show ¬ pl < 0 by omega), cond_false, decide_eq_false (show ¬ pl > 100000 by omega), cond_false, e0, Option.bind_some, e1, Option.bind_some]
 unfold p_parade_between_parade_truth_passes_parade_truth_passes
 rw [tpasses_p N hN s.Wings h h8 st _ t1 ht1 i (by omega) hi (fun j hj => hs j (by omega)) (fun j hj => by have := loW_bd h j; omega) _ p0 p1, Option.bind_some, tpasses_p N hN s.Wings h h8 st _ t0 ht0 i (by omega) hi (fun j hj => hs j (by omega)) (fun j hj => by have := loW_bd h j; omega) _ p0 p1]
 rfl
end Go.Proofs.Ytacoakfppjiomaa
end
section
namespace Go.Proofs.Ytacoakfppjiomaa
open Go.RowKit
attribute [local simp] ren ren1 AV.plain AV.plain1 AV.clean cleanL cleanI cleanBo cleanSt cleanII KL_bk_Drum KL_Span KL_Wing KL_School KL_V2_i64 KL_V8_i64 KL_parade_truth A_bk_Drum C_bk_Drum A_Span C_Span A_Wing C_Wing A_School C_School A_V2_i64 C_V2_i64 A_V8_i64 C_V8_i64 A_parade_truth C_parade_truth back back1 re re1 List.idxOf? List.findIdx? List.findIdx?.go KB_bk_Drum KB_Span KB_Wing KB_School KB_V2_i64 KB_V8_i64 KB_parade_truth fadeS fadeV
def p_costume_checkCount (N : Nat) (many_1 : Int) (most_2 : Int) : Option (Int) := (bif (many_1 == 0) then some 4 else (bif (decide (many_1 > most_2)) then some 5 else some 0))
def v_costume_checkCount (r : Int) : AV := i6 r
attribute [local simp] v_costume_checkCount
theorem a_costume_checkCount (many_1 : Int) (most_2 : Int) : [i6 many_1, i6 most_2].mapM (ren []) = some [i6 many_1, i6 most_2] := by simp
theorem b_costume_checkCount (r : Int) (n n2 m : Nat) : back n n2 m (v_costume_checkCount r) = some (v_costume_checkCount r) := by simp
theorem d_costume_checkCount (N : Nat) (many_1 : Int) (most_2 : Int) (r : Int) (h : p_costume_checkCount N many_1 most_2 = some r) : Does Try.prog 98 [i6 many_1, i6 most_2] [] fun v c => v = v_costume_checkCount r ∧ c = [] := by
 unfold p_costume_checkCount at h
 refine Does.ofL comp98 _ _ rfl rfl ?_
 refine Ex.seq (rg 1 [0, 1] (mkS 12 [(0, i6 many_1), (1, i6 most_2)]) ⟨[], []⟩ ?_)
 refine Ex.seq ?_
 refine Ex.blockK ?_
 refine Ex.seq (rg 3 [0, 1, 5] (mkS 12 [(0, i6 many_1), (1, i6 most_2), (5, .bool (many_1 == 0))]) ⟨[], []⟩ ?_)
 rcases condI h with ⟨hc_3, h⟩ | ⟨hc_3, h⟩
 ·refine Ex.condT _ rfl hc_3 ?_
  refine Ex.seq (rg 1 [4] (mkS 12 [(4, i6 4)]) ⟨[], []⟩ ?_)
  refine Ex.ret ?_
  obtain rfl := sJ h
  exact rt (i6 4)
 ·refine Ex.condF _ rfl hc_3 ?_
  refine Ex.seq (rg 4 [8] (mkS 12 [(8, .bool (decide (many_1 > most_2)))]) ⟨[], []⟩ ?_)
  rcases condI h with ⟨hc_4, h⟩ | ⟨hc_4, h⟩
  ·refine Ex.condT _ rfl hc_4 ?_
   refine Ex.seq (rg 1 [4] (mkS 12 [(4, i6 5)]) ⟨[], []⟩ ?_)
   refine Ex.ret ?_
   obtain rfl := sJ h
   exact rt (i6 5)
  ·refine Ex.condF _ rfl hc_4 ?_
   refine Ex.skip ?_
   refine Ex.seq (rg 1 [4] (mkS 12 [(4, i6 0)]) ⟨[], []⟩ ?_)
   refine Ex.ret ?_
   obtain rfl := sJ h
   exact rt (i6 0)
def p_costume_within (N : Nat) (n_1 : Int) (least_2 : Int) (most_3 : Int) : Option (Bool) := (bif (decide (n_1 ≥ least_2)) then some (decide (n_1 ≤ most_3)) else some false)
def v_costume_within (r : Bool) : AV := .bool r
attribute [local simp] v_costume_within
theorem a_costume_within (n_1 : Int) (least_2 : Int) (most_3 : Int) : [i6 n_1, i6 least_2, i6 most_3].mapM (ren []) = some [i6 n_1, i6 least_2, i6 most_3] := by simp
theorem b_costume_within (r : Bool) (n n2 m : Nat) : back n n2 m (v_costume_within r) = some (v_costume_within r) := by simp
theorem d_costume_within (N : Nat) (n_1 : Int) (least_2 : Int) (most_3 : Int) (r : Bool) (h : p_costume_within N n_1 least_2 most_3 = some r) : Does Try.prog 94 [i6 n_1, i6 least_2, i6 most_3] [] fun v c => v = v_costume_within r ∧ c = [] := by
 unfold p_costume_within at h
 refine Does.ofL comp94 _ _ rfl rfl ?_
 refine Ex.seq (rg 1 [0, 1, 2] (mkS 15 [(0, i6 n_1), (1, i6 least_2), (2, i6 most_3)]) ⟨[], []⟩ ?_)
 refine Ex.seq ?_
 rcases condI h with ⟨hc_4, h⟩ | ⟨hc_4, h⟩
 ·refine regH 9 [(3, .eq (.bool true))] [6] [AV.bool (decide (n_1 ≥ least_2)) = AV.bool true] (mkS 15 [(6, .bool (decide (n_1 ≤ most_3)))]) (⟨[], []⟩) (by kernel_rfl) ⟨congrArg AV.bool hc_4, trivial⟩ rfl ?_
  refine Ex.ret ?_
  obtain rfl := sJ h
  exact rt (.bool (decide (n_1 ≤ most_3)))
 ·refine regH 9 [(3, .eq (.bool false))] [6] [AV.bool (decide (n_1 ≥ least_2)) = AV.bool false] (mkS 15 [(6, .bool false)]) (⟨[], []⟩) (by kernel_rfl) ⟨congrArg AV.bool hc_4, trivial⟩ rfl ?_
  refine Ex.ret ?_
  obtain rfl := sJ h
  exact rt (.bool false)
def p_costume_checkFigures (N : Nat) (s_1 : T_Span) : Option (Int) := (letJ (fun (y_2 : Bool) => (bif y_2 then some 2 else (bif (decide (s_1.Lo > s_1.Hi)) then some 9 else some 0))) (fun k_3 => ((p_costume_within N s_1.Lo 1 300).bind fun r_6 => (bif (!r_6) then (k_3 true) else ((p_costume_within N s_1.Hi 1 300).bind fun r_8 => (k_3 (!r_8)))))))
def v_costume_checkFigures (r : Int) : AV := i6 r
attribute [local simp] v_costume_checkFigures
theorem a_costume_checkFigures (s_1 : T_Span) : [(A_Span s_1)].mapM (ren []) = some [(A_Span s_1)] := by simp
theorem b_costume_checkFigures (r : Int) (n n2 m : Nat) : back n n2 m (v_costume_checkFigures r) = some (v_costume_checkFigures r) := by simp
theorem d_costume_checkFigures (N : Nat) (s_1 : T_Span) (r : Int) (h : p_costume_checkFigures N s_1 = some r) : Does Try.prog 99 [(A_Span s_1)] [] fun v c => v = v_costume_checkFigures r ∧ c = [] := by
 unfold p_costume_checkFigures at h
 refine Does.ofL comp99 _ _ rfl rfl ?_
 refine Ex.seq (rg 2 [1] (mkS 20 [(1, .ptr 0 0)]) ⟨[(C_Span s_1)], []⟩ ?_)
 refine Ex.seq ?_
 refine Ex.blockK ?_
 obtain ⟨K_4, hK_5, h⟩ := letE h
 refine Ex.seqJ (fun a S => ∃ (y_2 : Bool), K_4 y_2 = some r ∧ a = mkS 20 [(1, .ptr 0 0), (3, .bool y_2)] ∧ S = ⟨[(C_Span s_1)], []⟩) ?_ ?_
 ·obtain ⟨r_6, hr_6, h⟩ := bE h
  refine Ex.reg (rn 2 [1, 5] (mkS 20 [(1, .ptr 0 0), (5, i6 s_1.Lo)]) ⟨[(C_Span s_1)], []⟩ ?_)
  refine ExO.callL [] [i6 s_1.Lo, i6 1, i6 300] rfl rfl (a_costume_within s_1.Lo 1 300) rfl rfl (d_costume_within N s_1.Lo 1 300 r_6 hr_6) (b_costume_within _ _ _ _) rfl ?_
  rcases condI h with ⟨hc_7, h⟩ | ⟨hc_7, h⟩
  ·refine runH 8 [(1, .eq (.bool true))] [1, 3] [AV.bool (!r_6) = AV.bool true] (mkS 20 [(1, .ptr 0 0), (3, .bool true)]) (⟨[(C_Span s_1)], []⟩) (by kernel_rfl) ⟨congrArg AV.bool hc_7, trivial⟩ ?_
   refine ExO.nil ?_
   (try simp only [reduceCtorEq, AEx.ex.injEq, Nat.reduceEqDiff, if_true, if_false])
   exact ⟨_, _, Forgets.refl _ _ _, true, h, rfl, rfl⟩
  ·obtain ⟨r_8, hr_8, h⟩ := bE h
   refine runH 4 [(1, .eq (.bool false))] [1, 8, 10] [AV.bool (!r_6) = AV.bool false] (mkS 20 [(1, .ptr 0 0), (8, .bool false), (10, i6 s_1.Hi)]) (⟨[(C_Span s_1)], []⟩) (by kernel_rfl) ⟨congrArg AV.bool hc_7, trivial⟩ ?_
   refine ExO.callL [] [i6 s_1.Hi, i6 1, i6 300] rfl rfl (a_costume_within s_1.Hi 1 300) rfl rfl (d_costume_within N s_1.Hi 1 300 r_8 hr_8) (b_costume_within _ _ _ _) rfl ?_
   refine rn 3 [1, 3] (mkS 20 [(1, .ptr 0 0), (3, .bool (!r_8))]) ⟨[(C_Span s_1)], []⟩ ?_
   refine ExO.nil ?_
   (try simp only [reduceCtorEq, AEx.ex.injEq, Nat.reduceEqDiff, if_true, if_false])
   exact ⟨_, _, Forgets.refl _ _ _, (!r_8), h, rfl, rfl⟩
 ·rintro a S ⟨y_2, h, rfl, rfl⟩
  subst hK_5
  rcases condI h with ⟨hc_9, h⟩ | ⟨hc_9, h⟩
  ·refine Ex.condT _ rfl hc_9 ?_
   refine Ex.seq (rg 1 [2] (mkS 20 [(2, i6 2)]) ⟨[(C_Span s_1)], []⟩ ?_)
   refine Ex.ret ?_
   obtain rfl := sJ h
   exact rt (i6 2)
  ·refine Ex.condF _ rfl hc_9 ?_
   refine Ex.seq (rg 6 [14] (mkS 20 [(14, .bool (decide (s_1.Lo > s_1.Hi)))]) ⟨[(C_Span s_1)], []⟩ ?_)
   rcases condI h with ⟨hc_10, h⟩ | ⟨hc_10, h⟩
   ·refine Ex.condT _ rfl hc_10 ?_
    refine Ex.seq (rg 1 [2] (mkS 20 [(2, i6 9)]) ⟨[(C_Span s_1)], []⟩ ?_)
    refine Ex.ret ?_
    obtain rfl := sJ h
    exact rt (i6 9)
   ·refine Ex.condF _ rfl hc_10 ?_
    refine Ex.skip ?_
    refine Ex.seq (rg 1 [2] (mkS 20 [(2, i6 0)]) ⟨[(C_Span s_1)], []⟩ ?_)
    refine Ex.ret ?_
    obtain rfl := sJ h
    exact rt (i6 0)
def p_costume_checkPersons (N : Nat) (sizes_1 : (List T_Span)) : Option (Int) := ((p_costume_checkCount N ((sizes_1.length : Nat) : Int) 12).bind fun r_2 => (bif (r_2 != 0) then some r_2 else (letJ (fun (_ : Unit) => some 0) (fun k_4 => (loop1 (fun rec_8 (y_7 : Int) => (bif (decide (y_7 < ((sizes_1.length : Nat) : Int))) then ((getI sizes_1 y_7).bind fun x_12 => ((p_costume_checkFigures N x_12).bind fun r_13 => (bif (r_13 != 0) then some r_13 else (rec_8 (IntKind.i64.wrap (y_7 + 1)))))) else (k_4 ()))) N 0)))))
def v_costume_checkPersons (r : Int) : AV := i6 r
attribute [local simp] v_costume_checkPersons
theorem a_costume_checkPersons (sizes_1 : (List T_Span)) : [.sl (sizes_1.map A_Span) none].mapM (ren []) = some [.sl (sizes_1.map A_Span) none] := by simp
theorem b_costume_checkPersons (r : Int) (n n2 m : Nat) : back n n2 m (v_costume_checkPersons r) = some (v_costume_checkPersons r) := by simp
theorem d_costume_checkPersons (N : Nat) (sizes_1 : (List T_Span)) (r : Int) (h : p_costume_checkPersons N sizes_1 = some r) : Does Try.prog 59 [.sl (sizes_1.map A_Span) none] [] fun v c => v = v_costume_checkPersons r ∧ c = [] := by
 unfold p_costume_checkPersons at h
 refine Does.ofL comp59 _ _ rfl rfl ?_
 refine Ex.seq (rg 1 [0] (mkS 25 [(0, .sl (sizes_1.map A_Span) none)]) ⟨[], []⟩ ?_)
 refine Ex.seq (Ex.seq ?_)
 obtain ⟨r_2, hr_2, h⟩ := bE h
 refine Ex.reg ?_
 refine runH 2 [(1, .eq (i6 ((sizes_1.length : Nat) : Int)))] [0, 8] [AV.int .i64 (((sizes_1.map A_Span).length : Nat) : Int) = AV.int .i64 ((sizes_1.length : Nat) : Int)] (mkS 25 [(0, .sl (sizes_1.map A_Span) none), (8, i6 ((sizes_1.length : Nat) : Int))]) (⟨[], []⟩) (by kernel_rfl) ⟨lenM _ _, trivial⟩ ?_
 refine ExO.callL [] [i6 ((sizes_1.length : Nat) : Int), i6 12] rfl rfl (a_costume_checkCount ((sizes_1.length : Nat) : Int) 12) rfl rfl (d_costume_checkCount N ((sizes_1.length : Nat) : Int) 12 r_2 hr_2) (b_costume_checkCount _ _ _ _) rfl ?_
 refine rn 1 [0, 3] (mkS 25 [(0, .sl (sizes_1.map A_Span) none), (3, i6 r_2)]) ⟨[], []⟩ ?_
 refine ExO.nil ?_
 refine Ex.seq (rg 2 [0, 3, 11] (mkS 25 [(0, .sl (sizes_1.map A_Span) none), (3, i6 r_2), (11, .bool (r_2 != 0))]) ⟨[], []⟩ ?_)
 rcases condI h with ⟨hc_3, h⟩ | ⟨hc_3, h⟩
 ·refine Ex.condT _ rfl hc_3 ?_
  refine Ex.seq (rg 2 [2] (mkS 25 [(2, i6 r_2)]) ⟨[], []⟩ ?_)
  refine Ex.ret ?_
  obtain rfl := sJ h
  exact rt (i6 r_2)
 ·refine Ex.condF _ rfl hc_3 ?_
  refine Ex.skip ?_
  refine Ex.seq (Ex.seq ?_)
  refine regH 3 [(1, .eq (i6 ((sizes_1.length : Nat) : Int)))] [13, 14, 15] [AV.int .i64 (((sizes_1.map A_Span).length : Nat) : Int) = AV.int .i64 ((sizes_1.length : Nat) : Int)] (mkS 25 [(13, .sl (sizes_1.map A_Span) none), (14, i6 ((sizes_1.length : Nat) : Int)), (15, i6 0)]) (⟨[], []⟩) (by kernel_rfl) ⟨lenM _ _, trivial⟩ rfl ?_
  obtain ⟨K_5, hK_6, h⟩ := letE h
  refine Ex.blockJ (fun a S => K_5 () = some r ∧ a = mkS 25 [] ∧ S = ⟨[], []⟩) ?_ ?_
  ·obtain ⟨B_9, hB_10, h⟩ := loop1I h
   refine Ex.loopF (fun k a S => ∃ (y_7 : Int), loop1 B_9 k y_7 = some r ∧ a = mkS 25 [(13, .sl (sizes_1.map A_Span) none), (14, i6 ((sizes_1.length : Nat) : Int)), (15, i6 y_7)] ∧ S = ⟨[], []⟩) N ⟨_, _, Forgets.refl _ _ _, 0, h, rfl, rfl⟩ ?_
   rintro k a S ⟨y_7, h, rfl, rfl⟩
   cases k with
   | zero => exact (loop1Z h).elim
   | succ k =>
    replace h := loop1S h hB_10
    refine Ex.seq (rg 1 [13, 14, 15, 16] (mkS 25 [(13, .sl (sizes_1.map A_Span) none), (14, i6 ((sizes_1.length : Nat) : Int)), (15, i6 y_7), (16, .bool (decide (y_7 < ((sizes_1.length : Nat) : Int))))]) ⟨[], []⟩ ?_)
    refine Ex.seq ?_
    rcases condI h with ⟨hc_11, h⟩ | ⟨hc_11, h⟩
    ·refine Ex.condT _ rfl hc_11 ?_
     refine Ex.skip ?_
     refine Ex.seq ?_
     refine Ex.blockK ?_
     refine Ex.seq ?_
     obtain ⟨x_12, hx_12, h⟩ := bE h
     refine regH 4 [(0, .rop (C_Span x_12))] [5, 13, 14, 15] [LGet (sizes_1.map A_Span) y_7 2 (C_Span x_12)] (mkS 25 [(5, .ptr 0 0), (13, .sl (sizes_1.map A_Span) none), (14, i6 ((sizes_1.length : Nat) : Int)), (15, i6 y_7)]) (⟨[(C_Span x_12)], []⟩) (by kernel_rfl) ⟨LGet.of hx_12 rfl, trivial⟩ rfl ?_
     refine Ex.seq ?_
     obtain ⟨r_13, hr_13, h⟩ := bE h
     refine Ex.reg (rn 1 [13, 14, 15, 19] (mkS 25 [(13, .sl (sizes_1.map A_Span) none), (14, i6 ((sizes_1.length : Nat) : Int)), (15, i6 y_7), (19, (A_Span x_12))]) ⟨[(C_Span x_12)], []⟩ ?_)
     refine ExO.callL [] [(A_Span x_12)] rfl rfl (a_costume_checkFigures x_12) rfl rfl (d_costume_checkFigures N x_12 r_13 hr_13) (b_costume_checkFigures _ _ _ _) rfl ?_
     refine rn 1 [6, 13, 14, 15] (mkS 25 [(6, i6 r_13), (13, .sl (sizes_1.map A_Span) none), (14, i6 ((sizes_1.length : Nat) : Int)), (15, i6 y_7)]) ⟨[(C_Span x_12)], []⟩ ?_
     refine ExO.nil ?_
     refine Ex.seq (rg 2 [6, 13, 14, 15, 22] (mkS 25 [(6, i6 r_13), (13, .sl (sizes_1.map A_Span) none), (14, i6 ((sizes_1.length : Nat) : Int)), (15, i6 y_7), (22, .bool (r_13 != 0))]) ⟨[(C_Span x_12)], []⟩ ?_)
     rcases condI h with ⟨hc_14, h⟩ | ⟨hc_14, h⟩
     ·refine Ex.condT _ rfl hc_14 ?_
      refine Ex.seq (rg 2 [2] (mkS 25 [(2, i6 r_13)]) ⟨[(C_Span x_12)], []⟩ ?_)
      refine Ex.ret ?_
      obtain rfl := sJ h
      exact rt (i6 r_13)
     ·refine Ex.condF _ rfl hc_14 ?_
      refine Ex.skip ?_
      refine rg 2 [13, 14, 15] (mkS 25 [(13, .sl (sizes_1.map A_Span) none), (14, i6 ((sizes_1.length : Nat) : Int)), (15, i6 (IntKind.i64.wrap (y_7 + 1)))]) ⟨[(C_Span x_12)], []⟩ ?_
      dsimp only
      exact ⟨_, _, forgetA (m := 25) 0 [] [(13, .sl (sizes_1.map A_Span) none), (14, i6 ((sizes_1.length : Nat) : Int)), (15, i6 (IntKind.i64.wrap (y_7 + 1)))] [] [] (by simp [setAll]) (by simp) ⟨(reN (KL_Span _)), rfl, rfl, trivial⟩ (by simp) rfl (by decide), k, Nat.lt_succ_self k, (IntKind.i64.wrap (y_7 + 1)), h, rfl, rfl⟩
    ·refine Ex.condF _ rfl hc_11 ?_
     refine Ex.exit ?_
     (try simp only [reduceCtorEq, AEx.ex.injEq, Nat.reduceEqDiff, if_true, if_false])
     exact ⟨_, _, forgetK [], h, rfl, rfl⟩
  ·rintro a S ⟨h, rfl, rfl⟩
   subst hK_6
   refine Ex.seq (rg 1 [2] (mkS 25 [(2, i6 0)]) ⟨[], []⟩ ?_)
   refine Ex.ret ?_
   obtain rfl := sJ h
   exact rt (i6 0)
def p_costume_checkWalk (N : Nat) (walk_1 : (List (List Int))) : Option (Int) := ((p_costume_checkCount N ((walk_1.length : Nat) : Int) 8).bind fun r_2 => (bif (r_2 != 0) then some r_2 else (letJ (fun (_ : Unit) => some 0) (fun k_4 => (loop1 (fun rec_8 (y_7 : Int) => (bif (decide (y_7 < ((walk_1.length : Nat) : Int))) then ((getI walk_1 y_7).bind fun x_12 => (bif (((x_12.length : Nat) : Int) != ((walk_1.length : Nat) : Int)) then some 1 else (letJ (fun (_ : Unit) => (rec_8 (IntKind.i64.wrap (y_7 + 1)))) (fun k_14 => (loop1 (fun rec_18 (y_17 : Int) => (bif (decide (y_17 < ((x_12.length : Nat) : Int))) then ((getI x_12 y_17).bind fun x_22 => ((p_costume_within N x_22 0 1440).bind fun r_23 => (bif (!r_23) then some 2 else (letJ (fun (y_25 : Bool) => (bif y_25 then some 1 else (rec_18 (IntKind.i64.wrap (y_17 + 1))))) (fun k_26 => (bif (y_7 == y_17) then (k_26 (x_22 != 0)) else (k_26 false))))))) else (k_14 ()))) N 0))))) else (k_4 ()))) N 0)))))
def v_costume_checkWalk (r : Int) : AV := i6 r
attribute [local simp] v_costume_checkWalk
theorem a_costume_checkWalk (walk_1 : (List (List Int))) : [.sl (walk_1.map (SV (AV.int .i64))) none].mapM (ren []) = some [.sl (walk_1.map (SV (AV.int .i64))) none] := by simp
theorem b_costume_checkWalk (r : Int) (n n2 m : Nat) : back n n2 m (v_costume_checkWalk r) = some (v_costume_checkWalk r) := by simp
theorem d_costume_checkWalk (N : Nat) (walk_1 : (List (List Int))) (r : Int) (h : p_costume_checkWalk N walk_1 = some r) : Does Try.prog 60 [.sl (walk_1.map (SV (AV.int .i64))) none] [] fun v c => v = v_costume_checkWalk r ∧ c = [] := by
 unfold p_costume_checkWalk at h
 refine Does.ofL comp60 _ _ rfl rfl ?_
 refine Ex.seq (rg 1 [0] (mkS 47 [(0, .sl (walk_1.map (SV (AV.int .i64))) none)]) ⟨[], []⟩ ?_)
 refine Ex.seq (Ex.seq ?_)
 obtain ⟨r_2, hr_2, h⟩ := bE h
 refine Ex.reg ?_
 refine runH 2 [(1, .eq (i6 ((walk_1.length : Nat) : Int)))] [0, 9] [AV.int .i64 (((walk_1.map (SV (AV.int .i64))).length : Nat) : Int) = AV.int .i64 ((walk_1.length : Nat) : Int)] (mkS 47 [(0, .sl (walk_1.map (SV (AV.int .i64))) none), (9, i6 ((walk_1.length : Nat) : Int))]) (⟨[], []⟩) (by kernel_rfl) ⟨lenM _ _, trivial⟩ ?_
 refine ExO.callL [] [i6 ((walk_1.length : Nat) : Int), i6 8] rfl rfl (a_costume_checkCount ((walk_1.length : Nat) : Int) 8) rfl rfl (d_costume_checkCount N ((walk_1.length : Nat) : Int) 8 r_2 hr_2) (b_costume_checkCount _ _ _ _) rfl ?_
 refine rn 1 [0, 3] (mkS 47 [(0, .sl (walk_1.map (SV (AV.int .i64))) none), (3, i6 r_2)]) ⟨[], []⟩ ?_
 refine ExO.nil ?_
 refine Ex.seq (rg 2 [0, 3, 12] (mkS 47 [(0, .sl (walk_1.map (SV (AV.int .i64))) none), (3, i6 r_2), (12, .bool (r_2 != 0))]) ⟨[], []⟩ ?_)
 rcases condI h with ⟨hc_3, h⟩ | ⟨hc_3, h⟩
 ·refine Ex.condT _ rfl hc_3 ?_
  refine Ex.seq (rg 2 [2] (mkS 47 [(2, i6 r_2)]) ⟨[], []⟩ ?_)
  refine Ex.ret ?_
  obtain rfl := sJ h
  exact rt (i6 r_2)
 ·refine Ex.condF _ rfl hc_3 ?_
  refine Ex.skip ?_
  refine Ex.seq (Ex.seq ?_)
  refine regH 3 [(1, .eq (i6 ((walk_1.length : Nat) : Int)))] [0, 14, 15, 16] [AV.int .i64 (((walk_1.map (SV (AV.int .i64))).length : Nat) : Int) = AV.int .i64 ((walk_1.length : Nat) : Int)] (mkS 47 [(0, .sl (walk_1.map (SV (AV.int .i64))) none), (14, .sl (walk_1.map (SV (AV.int .i64))) none), (15, i6 ((walk_1.length : Nat) : Int)), (16, i6 0)]) (⟨[], []⟩) (by kernel_rfl) ⟨lenM _ _, trivial⟩ rfl ?_
  obtain ⟨K_5, hK_6, h⟩ := letE h
  refine Ex.blockJ (fun a S => K_5 () = some r ∧ a = mkS 47 [] ∧ S = ⟨[], []⟩) ?_ ?_
  ·obtain ⟨B_9, hB_10, h⟩ := loop1I h
   refine Ex.loopF (fun k a S => ∃ (y_7 : Int), loop1 B_9 k y_7 = some r ∧ a = mkS 47 [(0, .sl (walk_1.map (SV (AV.int .i64))) none), (14, .sl (walk_1.map (SV (AV.int .i64))) none), (15, i6 ((walk_1.length : Nat) : Int)), (16, i6 y_7)] ∧ S = ⟨[], []⟩) N ⟨_, _, Forgets.refl _ _ _, 0, h, rfl, rfl⟩ ?_
   rintro k a S ⟨y_7, h, rfl, rfl⟩
   cases k with
   | zero => exact (loop1Z h).elim
   | succ k =>
    replace h := loop1S h hB_10
    refine Ex.seq (rg 1 [0, 14, 15, 16, 17] (mkS 47 [(0, .sl (walk_1.map (SV (AV.int .i64))) none), (14, .sl (walk_1.map (SV (AV.int .i64))) none), (15, i6 ((walk_1.length : Nat) : Int)), (16, i6 y_7), (17, .bool (decide (y_7 < ((walk_1.length : Nat) : Int))))]) ⟨[], []⟩ ?_)
    refine Ex.seq ?_
    rcases condI h with ⟨hc_11, h⟩ | ⟨hc_11, h⟩
    ·refine Ex.condT _ rfl hc_11 ?_
     refine Ex.skip ?_
     refine Ex.seq ?_
     refine Ex.blockK ?_
     refine Ex.seq ?_
     obtain ⟨x_12, hx_12, h⟩ := bE h
     refine regH 5 [(1, .rop [.sl (x_12.map (AV.int .i64)) none])] [0, 4, 5, 14, 15, 16] [LGet (walk_1.map (SV (AV.int .i64))) y_7 1 [.sl (x_12.map (AV.int .i64)) none]] (mkS 47 [(0, .sl (walk_1.map (SV (AV.int .i64))) none), (4, i6 y_7), (5, .sl (x_12.map (AV.int .i64)) none), (14, .sl (walk_1.map (SV (AV.int .i64))) none), (15, i6 ((walk_1.length : Nat) : Int)), (16, i6 y_7)]) (⟨[], []⟩) (by kernel_rfl) ⟨LGet.of hx_12 rfl, trivial⟩ rfl ?_
     refine Ex.seq (Ex.seq ?_)
     refine regH 5 [(1, .eq (i6 ((x_12.length : Nat) : Int))), (3, .eq (i6 ((walk_1.length : Nat) : Int)))] [0, 4, 5, 14, 15, 16, 25] [AV.int .i64 (((x_12.map (AV.int .i64)).length : Nat) : Int) = AV.int .i64 ((x_12.length : Nat) : Int), AV.int .i64 (((walk_1.map (SV (AV.int .i64))).length : Nat) : Int) = AV.int .i64 ((walk_1.length : Nat) : Int)] (mkS 47 [(0, .sl (walk_1.map (SV (AV.int .i64))) none), (4, i6 y_7), (5, .sl (x_12.map (AV.int .i64)) none), (14, .sl (walk_1.map (SV (AV.int .i64))) none), (15, i6 ((walk_1.length : Nat) : Int)), (16, i6 y_7), (25, .bool (((x_12.length : Nat) : Int) != ((walk_1.length : Nat) : Int)))]) (⟨[], []⟩) (by kernel_rfl) ⟨lenM _ _, lenM _ _, trivial⟩ rfl ?_
     rcases condI h with ⟨hc_13, h⟩ | ⟨hc_13, h⟩
     ·refine Ex.condT _ rfl hc_13 ?_
      refine Ex.seq (rg 1 [2] (mkS 47 [(2, i6 1)]) ⟨[], []⟩ ?_)
      refine Ex.ret ?_
      obtain rfl := sJ h
      exact rt (i6 1)
     ·refine Ex.condF _ rfl hc_13 ?_
      refine Ex.skip ?_
      refine Ex.seq ?_
      refine regH 3 [(1, .eq (i6 ((x_12.length : Nat) : Int)))] [0, 4, 14, 15, 16, 26, 27, 28] [AV.int .i64 (((x_12.map (AV.int .i64)).length : Nat) : Int) = AV.int .i64 ((x_12.length : Nat) : Int)] (mkS 47 [(0, .sl (walk_1.map (SV (AV.int .i64))) none), (4, i6 y_7), (14, .sl (walk_1.map (SV (AV.int .i64))) none), (15, i6 ((walk_1.length : Nat) : Int)), (16, i6 y_7), (26, .sl (x_12.map (AV.int .i64)) none), (27, i6 ((x_12.length : Nat) : Int)), (28, i6 0)]) (⟨[], []⟩) (by kernel_rfl) ⟨lenM _ _, trivial⟩ rfl ?_
      obtain ⟨K_15, hK_16, h⟩ := letE h
      refine Ex.blockJ (fun a S => K_15 () = some r ∧ a = mkS 47 [(0, .sl (walk_1.map (SV (AV.int .i64))) none), (14, .sl (walk_1.map (SV (AV.int .i64))) none), (15, i6 ((walk_1.length : Nat) : Int)), (16, i6 y_7)] ∧ S = ⟨[], []⟩) ?_ ?_
      ·obtain ⟨B_19, hB_20, h⟩ := loop1I h
       refine Ex.loopF (fun k a S => ∃ (y_17 : Int), loop1 B_19 k y_17 = some r ∧ a = mkS 47 [(0, .sl (walk_1.map (SV (AV.int .i64))) none), (4, i6 y_7), (14, .sl (walk_1.map (SV (AV.int .i64))) none), (15, i6 ((walk_1.length : Nat) : Int)), (16, i6 y_7), (26, .sl (x_12.map (AV.int .i64)) none), (27, i6 ((x_12.length : Nat) : Int)), (28, i6 y_17)] ∧ S = ⟨[], []⟩) N ⟨_, _, Forgets.refl _ _ _, 0, h, rfl, rfl⟩ ?_
       rintro k a S ⟨y_17, h, rfl, rfl⟩
       cases k with
       | zero => exact (loop1Z h).elim
       | succ k =>
        replace h := loop1S h hB_20
        refine Ex.seq (rg 1 [0, 4, 14, 15, 16, 26, 27, 28, 29] (mkS 47 [(0, .sl (walk_1.map (SV (AV.int .i64))) none), (4, i6 y_7), (14, .sl (walk_1.map (SV (AV.int .i64))) none), (15, i6 ((walk_1.length : Nat) : Int)), (16, i6 y_7), (26, .sl (x_12.map (AV.int .i64)) none), (27, i6 ((x_12.length : Nat) : Int)), (28, i6 y_17), (29, .bool (decide (y_17 < ((x_12.length : Nat) : Int))))]) ⟨[], []⟩ ?_)
        refine Ex.seq ?_
        rcases condI h with ⟨hc_21, h⟩ | ⟨hc_21, h⟩
        ·refine Ex.condT _ rfl hc_21 ?_
         refine Ex.skip ?_
         refine Ex.seq ?_
         refine Ex.blockK ?_
         refine Ex.seq ?_
         obtain ⟨x_22, hx_22, h⟩ := bE h
         refine regH 5 [(1, .rop [i6 x_22])] [0, 4, 6, 7, 14, 15, 16, 26, 27, 28] [LGet (x_12.map (AV.int .i64)) y_17 1 [i6 x_22]] (mkS 47 [(0, .sl (walk_1.map (SV (AV.int .i64))) none), (4, i6 y_7), (6, i6 y_17), (7, i6 x_22), (14, .sl (walk_1.map (SV (AV.int .i64))) none), (15, i6 ((walk_1.length : Nat) : Int)), (16, i6 y_7), (26, .sl (x_12.map (AV.int .i64)) none), (27, i6 ((x_12.length : Nat) : Int)), (28, i6 y_17)]) (⟨[], []⟩) (by kernel_rfl) ⟨LGet.of hx_22 rfl, trivial⟩ rfl ?_
         refine Ex.blockK ?_
         refine Ex.seq ?_
         obtain ⟨r_23, hr_23, h⟩ := bE h
         refine Ex.reg (rn 1 [0, 4, 6, 7, 14, 15, 16, 26, 27, 28, 34] (mkS 47 [(0, .sl (walk_1.map (SV (AV.int .i64))) none), (4, i6 y_7), (6, i6 y_17), (7, i6 x_22), (14, .sl (walk_1.map (SV (AV.int .i64))) none), (15, i6 ((walk_1.length : Nat) : Int)), (16, i6 y_7), (26, .sl (x_12.map (AV.int .i64)) none), (27, i6 ((x_12.length : Nat) : Int)), (28, i6 y_17), (34, i6 x_22)]) ⟨[], []⟩ ?_)
         refine ExO.callL [] [i6 x_22, i6 0, i6 1440] rfl rfl (a_costume_within x_22 0 1440) rfl rfl (d_costume_within N x_22 0 1440 r_23 hr_23) (b_costume_within _ _ _ _) rfl ?_
         refine rn 2 [0, 4, 6, 7, 14, 15, 16, 26, 27, 28, 33] (mkS 47 [(0, .sl (walk_1.map (SV (AV.int .i64))) none), (4, i6 y_7), (6, i6 y_17), (7, i6 x_22), (14, .sl (walk_1.map (SV (AV.int .i64))) none), (15, i6 ((walk_1.length : Nat) : Int)), (16, i6 y_7), (26, .sl (x_12.map (AV.int .i64)) none), (27, i6 ((x_12.length : Nat) : Int)), (28, i6 y_17), (33, .bool (!r_23))]) ⟨[], []⟩ ?_
         refine ExO.nil ?_
         rcases condI h with ⟨hc_24, h⟩ | ⟨hc_24, h⟩
         ·refine Ex.condT _ rfl hc_24 ?_
          refine Ex.seq (rg 1 [2] (mkS 47 [(2, i6 2)]) ⟨[], []⟩ ?_)
          refine Ex.ret ?_
          obtain rfl := sJ h
          exact rt (i6 2)
         ·refine Ex.condF _ rfl hc_24 ?_
          obtain ⟨K_27, hK_28, h⟩ := letE h
          refine Ex.seqJ (fun a S => ∃ (y_25 : Bool), K_27 y_25 = some r ∧ a = mkS 47 [(0, .sl (walk_1.map (SV (AV.int .i64))) none), (4, i6 y_7), (14, .sl (walk_1.map (SV (AV.int .i64))) none), (15, i6 ((walk_1.length : Nat) : Int)), (16, i6 y_7), (26, .sl (x_12.map (AV.int .i64)) none), (27, i6 ((x_12.length : Nat) : Int)), (28, i6 y_17), (37, .bool y_25)] ∧ S = ⟨[], []⟩) ?_ ?_
          ·rcases condI h with ⟨hc_29, h⟩ | ⟨hc_29, h⟩
           ·refine regH 8 [(3, .eq (.bool true))] [0, 4, 14, 15, 16, 26, 27, 28, 37] [AV.bool (y_7 == y_17) = AV.bool true] (mkS 47 [(0, .sl (walk_1.map (SV (AV.int .i64))) none), (4, i6 y_7), (14, .sl (walk_1.map (SV (AV.int .i64))) none), (15, i6 ((walk_1.length : Nat) : Int)), (16, i6 y_7), (26, .sl (x_12.map (AV.int .i64)) none), (27, i6 ((x_12.length : Nat) : Int)), (28, i6 y_17), (37, .bool (x_22 != 0))]) (⟨[], []⟩) (by kernel_rfl) ⟨congrArg AV.bool hc_29, trivial⟩ rfl ?_
            (try simp only [reduceCtorEq, AEx.ex.injEq, Nat.reduceEqDiff, if_true, if_false])
            exact ⟨_, _, Forgets.refl _ _ _, (x_22 != 0), h, rfl, rfl⟩
           ·refine regH 8 [(3, .eq (.bool false))] [0, 4, 14, 15, 16, 26, 27, 28, 37] [AV.bool (y_7 == y_17) = AV.bool false] (mkS 47 [(0, .sl (walk_1.map (SV (AV.int .i64))) none), (4, i6 y_7), (14, .sl (walk_1.map (SV (AV.int .i64))) none), (15, i6 ((walk_1.length : Nat) : Int)), (16, i6 y_7), (26, .sl (x_12.map (AV.int .i64)) none), (27, i6 ((x_12.length : Nat) : Int)), (28, i6 y_17), (37, .bool false)]) (⟨[], []⟩) (by kernel_rfl) ⟨congrArg AV.bool hc_29, trivial⟩ rfl ?_
            (try simp only [reduceCtorEq, AEx.ex.injEq, Nat.reduceEqDiff, if_true, if_false])
            exact ⟨_, _, Forgets.refl _ _ _, false, h, rfl, rfl⟩
          ·rintro a S ⟨y_25, h, rfl, rfl⟩
           subst hK_28
           rcases condI h with ⟨hc_30, h⟩ | ⟨hc_30, h⟩
           ·refine Ex.condT _ rfl hc_30 ?_
            refine Ex.seq (rg 1 [2] (mkS 47 [(2, i6 1)]) ⟨[], []⟩ ?_)
            refine Ex.ret ?_
            obtain rfl := sJ h
            exact rt (i6 1)
           ·refine Ex.condF _ rfl hc_30 ?_
            refine Ex.skip ?_
            refine rg 2 [0, 4, 14, 15, 16, 26, 27, 28] (mkS 47 [(0, .sl (walk_1.map (SV (AV.int .i64))) none), (4, i6 y_7), (14, .sl (walk_1.map (SV (AV.int .i64))) none), (15, i6 ((walk_1.length : Nat) : Int)), (16, i6 y_7), (26, .sl (x_12.map (AV.int .i64)) none), (27, i6 ((x_12.length : Nat) : Int)), (28, i6 (IntKind.i64.wrap (y_17 + 1)))]) ⟨[], []⟩ ?_
            dsimp only
            exact ⟨_, _, Forgets.refl _ _ _, k, Nat.lt_succ_self k, (IntKind.i64.wrap (y_17 + 1)), h, rfl, rfl⟩
        ·refine Ex.condF _ rfl hc_21 ?_
         refine Ex.exit ?_
         (try simp only [reduceCtorEq, AEx.ex.injEq, Nat.reduceEqDiff, if_true, if_false])
         exact ⟨_, _, forgetK [0, 14, 15, 16], h, rfl, rfl⟩
      ·rintro a S ⟨h, rfl, rfl⟩
       subst hK_16
       refine rg 2 [0, 14, 15, 16] (mkS 47 [(0, .sl (walk_1.map (SV (AV.int .i64))) none), (14, .sl (walk_1.map (SV (AV.int .i64))) none), (15, i6 ((walk_1.length : Nat) : Int)), (16, i6 (IntKind.i64.wrap (y_7 + 1)))]) ⟨[], []⟩ ?_
       dsimp only
       exact ⟨_, _, Forgets.refl _ _ _, k, Nat.lt_succ_self k, (IntKind.i64.wrap (y_7 + 1)), h, rfl, rfl⟩
    ·refine Ex.condF _ rfl hc_11 ?_
     refine Ex.exit ?_
     (try simp only [reduceCtorEq, AEx.ex.injEq, Nat.reduceEqDiff, if_true, if_false])
     exact ⟨_, _, forgetK [], h, rfl, rfl⟩
  ·rintro a S ⟨h, rfl, rfl⟩
   subst hK_6
   refine Ex.seq (rg 1 [2] (mkS 47 [(2, i6 0)]) ⟨[], []⟩ ?_)
   refine Ex.ret ?_
   obtain rfl := sJ h
   exact rt (i6 0)
def p_costume_checkDress (N : Nat) (dress_1 : (List Int)) : Option (Int) := ((p_costume_checkCount N ((dress_1.length : Nat) : Int) 8).bind fun r_2 => (bif (r_2 != 0) then some r_2 else (letJ (fun (_ : Unit) => some 0) (fun k_4 => (loop1 (fun rec_8 (y_7 : Int) => (bif (decide (y_7 < ((dress_1.length : Nat) : Int))) then ((getI dress_1 y_7).bind fun x_12 => ((p_costume_within N x_12 0 1440).bind fun r_13 => (bif (!r_13) then some 2 else (rec_8 (IntKind.i64.wrap (y_7 + 1)))))) else (k_4 ()))) N 0)))))
def v_costume_checkDress (r : Int) : AV := i6 r
attribute [local simp] v_costume_checkDress
theorem a_costume_checkDress (dress_1 : (List Int)) : [.sl (dress_1.map (AV.int .i64)) none].mapM (ren []) = some [.sl (dress_1.map (AV.int .i64)) none] := by simp
theorem b_costume_checkDress (r : Int) (n n2 m : Nat) : back n n2 m (v_costume_checkDress r) = some (v_costume_checkDress r) := by simp
theorem d_costume_checkDress (N : Nat) (dress_1 : (List Int)) (r : Int) (h : p_costume_checkDress N dress_1 = some r) : Does Try.prog 61 [.sl (dress_1.map (AV.int .i64)) none] [] fun v c => v = v_costume_checkDress r ∧ c = [] := by
 unfold p_costume_checkDress at h
 refine Does.ofL comp61 _ _ rfl rfl ?_
 refine Ex.seq (rg 1 [0] (mkS 22 [(0, .sl (dress_1.map (AV.int .i64)) none)]) ⟨[], []⟩ ?_)
 refine Ex.seq (Ex.seq ?_)
 obtain ⟨r_2, hr_2, h⟩ := bE h
 refine Ex.reg ?_
 refine runH 2 [(1, .eq (i6 ((dress_1.length : Nat) : Int)))] [0, 7] [AV.int .i64 (((dress_1.map (AV.int .i64)).length : Nat) : Int) = AV.int .i64 ((dress_1.length : Nat) : Int)] (mkS 22 [(0, .sl (dress_1.map (AV.int .i64)) none), (7, i6 ((dress_1.length : Nat) : Int))]) (⟨[], []⟩) (by kernel_rfl) ⟨lenM _ _, trivial⟩ ?_
 refine ExO.callL [] [i6 ((dress_1.length : Nat) : Int), i6 8] rfl rfl (a_costume_checkCount ((dress_1.length : Nat) : Int) 8) rfl rfl (d_costume_checkCount N ((dress_1.length : Nat) : Int) 8 r_2 hr_2) (b_costume_checkCount _ _ _ _) rfl ?_
 refine rn 1 [0, 3] (mkS 22 [(0, .sl (dress_1.map (AV.int .i64)) none), (3, i6 r_2)]) ⟨[], []⟩ ?_
 refine ExO.nil ?_
 refine Ex.seq (rg 2 [0, 3, 10] (mkS 22 [(0, .sl (dress_1.map (AV.int .i64)) none), (3, i6 r_2), (10, .bool (r_2 != 0))]) ⟨[], []⟩ ?_)
 rcases condI h with ⟨hc_3, h⟩ | ⟨hc_3, h⟩
 ·refine Ex.condT _ rfl hc_3 ?_
  refine Ex.seq (rg 2 [2] (mkS 22 [(2, i6 r_2)]) ⟨[], []⟩ ?_)
  refine Ex.ret ?_
  obtain rfl := sJ h
  exact rt (i6 r_2)
 ·refine Ex.condF _ rfl hc_3 ?_
  refine Ex.skip ?_
  refine Ex.seq (Ex.seq ?_)
  refine regH 3 [(1, .eq (i6 ((dress_1.length : Nat) : Int)))] [12, 13, 14] [AV.int .i64 (((dress_1.map (AV.int .i64)).length : Nat) : Int) = AV.int .i64 ((dress_1.length : Nat) : Int)] (mkS 22 [(12, .sl (dress_1.map (AV.int .i64)) none), (13, i6 ((dress_1.length : Nat) : Int)), (14, i6 0)]) (⟨[], []⟩) (by kernel_rfl) ⟨lenM _ _, trivial⟩ rfl ?_
  obtain ⟨K_5, hK_6, h⟩ := letE h
  refine Ex.blockJ (fun a S => K_5 () = some r ∧ a = mkS 22 [] ∧ S = ⟨[], []⟩) ?_ ?_
  ·obtain ⟨B_9, hB_10, h⟩ := loop1I h
   refine Ex.loopF (fun k a S => ∃ (y_7 : Int), loop1 B_9 k y_7 = some r ∧ a = mkS 22 [(12, .sl (dress_1.map (AV.int .i64)) none), (13, i6 ((dress_1.length : Nat) : Int)), (14, i6 y_7)] ∧ S = ⟨[], []⟩) N ⟨_, _, Forgets.refl _ _ _, 0, h, rfl, rfl⟩ ?_
   rintro k a S ⟨y_7, h, rfl, rfl⟩
   cases k with
   | zero => exact (loop1Z h).elim
   | succ k =>
    replace h := loop1S h hB_10
    refine Ex.seq (rg 1 [12, 13, 14, 15] (mkS 22 [(12, .sl (dress_1.map (AV.int .i64)) none), (13, i6 ((dress_1.length : Nat) : Int)), (14, i6 y_7), (15, .bool (decide (y_7 < ((dress_1.length : Nat) : Int))))]) ⟨[], []⟩ ?_)
    refine Ex.seq ?_
    rcases condI h with ⟨hc_11, h⟩ | ⟨hc_11, h⟩
    ·refine Ex.condT _ rfl hc_11 ?_
     refine Ex.skip ?_
     refine Ex.seq ?_
     refine Ex.blockK ?_
     refine Ex.seq ?_
     obtain ⟨x_12, hx_12, h⟩ := bE h
     refine regH 3 [(0, .rop [i6 x_12])] [5, 12, 13, 14] [LGet (dress_1.map (AV.int .i64)) y_7 1 [i6 x_12]] (mkS 22 [(5, i6 x_12), (12, .sl (dress_1.map (AV.int .i64)) none), (13, i6 ((dress_1.length : Nat) : Int)), (14, i6 y_7)]) (⟨[], []⟩) (by kernel_rfl) ⟨LGet.of hx_12 rfl, trivial⟩ rfl ?_
     refine Ex.seq ?_
     obtain ⟨r_13, hr_13, h⟩ := bE h
     refine Ex.reg (rn 1 [12, 13, 14, 18] (mkS 22 [(12, .sl (dress_1.map (AV.int .i64)) none), (13, i6 ((dress_1.length : Nat) : Int)), (14, i6 y_7), (18, i6 x_12)]) ⟨[], []⟩ ?_)
     refine ExO.callL [] [i6 x_12, i6 0, i6 1440] rfl rfl (a_costume_within x_12 0 1440) rfl rfl (d_costume_within N x_12 0 1440 r_13 hr_13) (b_costume_within _ _ _ _) rfl ?_
     refine rn 1 [12, 13, 14, 20] (mkS 22 [(12, .sl (dress_1.map (AV.int .i64)) none), (13, i6 ((dress_1.length : Nat) : Int)), (14, i6 y_7), (20, .bool (!r_13))]) ⟨[], []⟩ ?_
     refine ExO.nil ?_
     rcases condI h with ⟨hc_14, h⟩ | ⟨hc_14, h⟩
     ·refine Ex.condT _ rfl hc_14 ?_
      refine Ex.seq (rg 1 [2] (mkS 22 [(2, i6 2)]) ⟨[], []⟩ ?_)
      refine Ex.ret ?_
      obtain rfl := sJ h
      exact rt (i6 2)
     ·refine Ex.condF _ rfl hc_14 ?_
      refine Ex.skip ?_
      refine rg 2 [12, 13, 14] (mkS 22 [(12, .sl (dress_1.map (AV.int .i64)) none), (13, i6 ((dress_1.length : Nat) : Int)), (14, i6 (IntKind.i64.wrap (y_7 + 1)))]) ⟨[], []⟩ ?_
      dsimp only
      exact ⟨_, _, Forgets.refl _ _ _, k, Nat.lt_succ_self k, (IntKind.i64.wrap (y_7 + 1)), h, rfl, rfl⟩
    ·refine Ex.condF _ rfl hc_11 ?_
     refine Ex.exit ?_
     (try simp only [reduceCtorEq, AEx.ex.injEq, Nat.reduceEqDiff, if_true, if_false])
     exact ⟨_, _, forgetK [], h, rfl, rfl⟩
  ·rintro a S ⟨h, rfl, rfl⟩
   subst hK_6
   refine Ex.seq (rg 1 [2] (mkS 22 [(2, i6 0)]) ⟨[], []⟩ ?_)
   refine Ex.ret ?_
   obtain rfl := sJ h
   exact rt (i6 0)
def p_costume_isNumber (N : Nat) (n_1 : Int) (many_2 : Int) : Option (Bool) := ((p_costume_within N n_1 0 (IntKind.i64.wrap (many_2 - 1))).bind fun r_3 => some r_3)
def v_costume_isNumber (r : Bool) : AV := .bool r
attribute [local simp] v_costume_isNumber
theorem a_costume_isNumber (n_1 : Int) (many_2 : Int) : [i6 n_1, i6 many_2].mapM (ren []) = some [i6 n_1, i6 many_2] := by simp
theorem b_costume_isNumber (r : Bool) (n n2 m : Nat) : back n n2 m (v_costume_isNumber r) = some (v_costume_isNumber r) := by simp
theorem d_costume_isNumber (N : Nat) (n_1 : Int) (many_2 : Int) (r : Bool) (h : p_costume_isNumber N n_1 many_2 = some r) : Does Try.prog 123 [i6 n_1, i6 many_2] [] fun v c => v = v_costume_isNumber r ∧ c = [] := by
 unfold p_costume_isNumber at h
 refine Does.ofL comp123 _ _ rfl rfl ?_
 refine Ex.seq (rg 1 [0, 1] (mkS 9 [(0, i6 n_1), (1, i6 many_2)]) ⟨[], []⟩ ?_)
 refine Ex.seq ?_
 obtain ⟨r_3, hr_3, h⟩ := bE h
 refine Ex.reg (rn 3 [5, 7] (mkS 9 [(5, i6 n_1), (7, i6 (IntKind.i64.wrap (many_2 - 1)))]) ⟨[], []⟩ ?_)
 refine ExO.callL [] [i6 n_1, i6 0, i6 (IntKind.i64.wrap (many_2 - 1))] rfl rfl (a_costume_within n_1 0 (IntKind.i64.wrap (many_2 - 1))) rfl rfl (d_costume_within N n_1 0 (IntKind.i64.wrap (many_2 - 1)) r_3 hr_3) (b_costume_within _ _ _ _) rfl ?_
 refine rn 1 [4] (mkS 9 [(4, .bool r_3)]) ⟨[], []⟩ ?_
 refine ExO.nil ?_
 refine Ex.ret ?_
 obtain rfl := sJ h
 exact rt (.bool r_3)
structure T_Part where
 Person : Int
 Place : Int
 Kind : Int
 From : Int
 To : Int
 deriving Inhabited
def C_Part (x : T_Part) : List AV := [i6 x.Person, i6 x.Place, i6 x.Kind, i6 x.From, i6 x.To]
attribute [local simp] C_Part
def A_Part (x : T_Part) : AV := .agg (C_Part x)
attribute [local simp] A_Part
theorem KC_Part (x : T_Part) : cleanL (C_Part x) = true := by simp
theorem KA_Part (x : T_Part) : (A_Part x).clean = true := KC_Part x
theorem KL_Part (l : List T_Part) : cleanL (l.map A_Part) = true := cleanM KA_Part l
attribute [local simp] KL_Part
theorem KB_Part (x : T_Part) (n : Nat) (σ : List Nat) : (C_Part x).mapM (re n σ) = some (C_Part x) := by simp
attribute [local simp] KB_Part
structure T_Plot where
 Persons : (List T_Span)
 Walk : (List (List Int))
 Dress : (List Int)
 Parts : (List T_Part)
 deriving Inhabited
def C_Plot (x : T_Plot) : List AV := [.sl (x.Persons.map A_Span) none, .sl (x.Walk.map (SV (AV.int .i64))) none, .sl (x.Dress.map (AV.int .i64)) none, .sl (x.Parts.map A_Part) none]
attribute [local simp] C_Plot
def A_Plot (x : T_Plot) : AV := .agg (C_Plot x)
attribute [local simp] A_Plot
theorem KC_Plot (x : T_Plot) : cleanL (C_Plot x) = true := by simp
theorem KA_Plot (x : T_Plot) : (A_Plot x).clean = true := KC_Plot x
theorem KL_Plot (l : List T_Plot) : cleanL (l.map A_Plot) = true := cleanM KA_Plot l
attribute [local simp] KL_Plot
theorem KB_Plot (x : T_Plot) (n : Nat) (σ : List Nat) : (C_Plot x).mapM (re n σ) = some (C_Plot x) := by simp
attribute [local simp] KB_Plot
def p_costume_checkPart (N : Nat) (p_1 : T_Plot) (x_2 : T_Part) : Option (Int) := (letJ (fun (y_3 : Bool) => (bif y_3 then some 7 else (letJ (fun (y_13 : Bool) => (bif y_13 then some 2 else (bif (decide (x_2.From ≥ x_2.To)) then some 9 else some 0))) (fun k_14 => ((p_costume_within N x_2.From 0 1440).bind fun r_17 => (bif (!r_17) then (k_14 true) else ((p_costume_within N x_2.To 0 1440).bind fun r_19 => (k_14 (!r_19))))))))) (fun k_4 => ((p_costume_isNumber N x_2.Person ((p_1.Persons.length : Nat) : Int)).bind fun r_7 => (bif (!r_7) then (k_4 true) else ((p_costume_isNumber N x_2.Place ((p_1.Walk.length : Nat) : Int)).bind fun r_9 => (bif (!r_9) then (k_4 true) else ((p_costume_isNumber N x_2.Kind ((p_1.Dress.length : Nat) : Int)).bind fun r_11 => (k_4 (!r_11)))))))))
def v_costume_checkPart (r : Int) : AV := i6 r
attribute [local simp] v_costume_checkPart
theorem a_costume_checkPart (p_1 : T_Plot) (x_2 : T_Part) : [(A_Plot p_1), (A_Part x_2)].mapM (ren []) = some [(A_Plot p_1), (A_Part x_2)] := by simp
theorem b_costume_checkPart (r : Int) (n n2 m : Nat) : back n n2 m (v_costume_checkPart r) = some (v_costume_checkPart r) := by simp
theorem d_costume_checkPart (N : Nat) (p_1 : T_Plot) (x_2 : T_Part) (r : Int) (h : p_costume_checkPart N p_1 x_2 = some r) : Does Try.prog 100 [(A_Plot p_1), (A_Part x_2)] [] fun v c => v = v_costume_checkPart r ∧ c = [] := by
 unfold p_costume_checkPart at h
 refine Does.ofL comp100 _ _ rfl rfl ?_
 refine Ex.seq (rg 3 [2, 3] (mkS 48 [(2, .ptr 0 0), (3, .ptr 1 0)]) ⟨[(C_Plot p_1), (C_Part x_2)], []⟩ ?_)
 refine Ex.seq ?_
 refine Ex.blockK ?_
 obtain ⟨K_5, hK_6, h⟩ := letE h
 refine Ex.seqJ (fun a S => ∃ (y_3 : Bool), K_5 y_3 = some r ∧ a = mkS 48 [(3, .ptr 1 0), (5, .bool y_3)] ∧ S = ⟨[(C_Plot p_1), (C_Part x_2)], []⟩) ?_ ?_
 ·obtain ⟨r_7, hr_7, h⟩ := bE h
  refine Ex.reg ?_
  refine runH 5 [(4, .eq (i6 ((p_1.Persons.length : Nat) : Int)))] [2, 3, 7, 10] [AV.int .i64 (((p_1.Persons.map A_Span).length : Nat) : Int) = AV.int .i64 ((p_1.Persons.length : Nat) : Int)] (mkS 48 [(2, .ptr 0 0), (3, .ptr 1 0), (7, i6 x_2.Person), (10, i6 ((p_1.Persons.length : Nat) : Int))]) (⟨[(C_Plot p_1), (C_Part x_2)], []⟩) (by kernel_rfl) ⟨lenM _ _, trivial⟩ ?_
  refine ExO.callL [] [i6 x_2.Person, i6 ((p_1.Persons.length : Nat) : Int)] rfl rfl (a_costume_isNumber x_2.Person ((p_1.Persons.length : Nat) : Int)) rfl rfl (d_costume_isNumber N x_2.Person ((p_1.Persons.length : Nat) : Int) r_7 hr_7) (b_costume_isNumber _ _ _ _) rfl ?_
  rcases condI h with ⟨hc_8, h⟩ | ⟨hc_8, h⟩
  ·refine runH 20 [(1, .eq (.bool true))] [3, 5] [AV.bool (!r_7) = AV.bool true] (mkS 48 [(3, .ptr 1 0), (5, .bool true)]) (⟨[(C_Plot p_1), (C_Part x_2)], []⟩) (by kernel_rfl) ⟨congrArg AV.bool hc_8, trivial⟩ ?_
   refine ExO.nil ?_
   (try simp only [reduceCtorEq, AEx.ex.injEq, Nat.reduceEqDiff, if_true, if_false])
   exact ⟨_, _, Forgets.refl _ _ _, true, h, rfl, rfl⟩
  ·obtain ⟨r_9, hr_9, h⟩ := bE h
   refine runH 7 [(1, .eq (.bool false)), (6, .eq (i6 ((p_1.Walk.length : Nat) : Int)))] [2, 3, 13, 15, 18] [AV.bool (!r_7) = AV.bool false, AV.int .i64 (((p_1.Walk.map (SV (AV.int .i64))).length : Nat) : Int) = AV.int .i64 ((p_1.Walk.length : Nat) : Int)] (mkS 48 [(2, .ptr 0 0), (3, .ptr 1 0), (13, .bool false), (15, i6 x_2.Place), (18, i6 ((p_1.Walk.length : Nat) : Int))]) (⟨[(C_Plot p_1), (C_Part x_2)], []⟩) (by kernel_rfl) ⟨congrArg AV.bool hc_8, lenM _ _, trivial⟩ ?_
   refine ExO.callL [] [i6 x_2.Place, i6 ((p_1.Walk.length : Nat) : Int)] rfl rfl (a_costume_isNumber x_2.Place ((p_1.Walk.length : Nat) : Int)) rfl rfl (d_costume_isNumber N x_2.Place ((p_1.Walk.length : Nat) : Int) r_9 hr_9) (b_costume_isNumber _ _ _ _) rfl ?_
   rcases condI h with ⟨hc_10, h⟩ | ⟨hc_10, h⟩
   ·refine runH 12 [(2, .eq (.bool true))] [3, 5] [AV.bool (!r_9) = AV.bool true] (mkS 48 [(3, .ptr 1 0), (5, .bool true)]) (⟨[(C_Plot p_1), (C_Part x_2)], []⟩) (by kernel_rfl) ⟨congrArg AV.bool hc_10, trivial⟩ ?_
    refine ExO.nil ?_
    (try simp only [reduceCtorEq, AEx.ex.injEq, Nat.reduceEqDiff, if_true, if_false])
    exact ⟨_, _, Forgets.refl _ _ _, true, h, rfl, rfl⟩
   ·obtain ⟨r_11, hr_11, h⟩ := bE h
    refine runH 8 [(2, .eq (.bool false)), (7, .eq (i6 ((p_1.Dress.length : Nat) : Int)))] [3, 22, 24, 27] [AV.bool (!r_9) = AV.bool false, AV.int .i64 (((p_1.Dress.map (AV.int .i64)).length : Nat) : Int) = AV.int .i64 ((p_1.Dress.length : Nat) : Int)] (mkS 48 [(3, .ptr 1 0), (22, .bool false), (24, i6 x_2.Kind), (27, i6 ((p_1.Dress.length : Nat) : Int))]) (⟨[(C_Plot p_1), (C_Part x_2)], []⟩) (by kernel_rfl) ⟨congrArg AV.bool hc_10, lenM _ _, trivial⟩ ?_
    refine ExO.callL [] [i6 x_2.Kind, i6 ((p_1.Dress.length : Nat) : Int)] rfl rfl (a_costume_isNumber x_2.Kind ((p_1.Dress.length : Nat) : Int)) rfl rfl (d_costume_isNumber N x_2.Kind ((p_1.Dress.length : Nat) : Int) r_11 hr_11) (b_costume_isNumber _ _ _ _) rfl ?_
    refine rn 3 [3, 5] (mkS 48 [(3, .ptr 1 0), (5, .bool (!r_11))]) ⟨[(C_Plot p_1), (C_Part x_2)], []⟩ ?_
    refine ExO.nil ?_
    (try simp only [reduceCtorEq, AEx.ex.injEq, Nat.reduceEqDiff, if_true, if_false])
    exact ⟨_, _, Forgets.refl _ _ _, (!r_11), h, rfl, rfl⟩
 ·rintro a S ⟨y_3, h, rfl, rfl⟩
  subst hK_6
  rcases condI h with ⟨hc_12, h⟩ | ⟨hc_12, h⟩
  ·refine Ex.condT _ rfl hc_12 ?_
   refine Ex.seq (rg 1 [4] (mkS 48 [(4, i6 7)]) ⟨[(C_Plot p_1), (C_Part x_2)], []⟩ ?_)
   refine Ex.ret ?_
   obtain rfl := sJ h
   exact rt (i6 7)
  ·refine Ex.condF _ rfl hc_12 ?_
   obtain ⟨K_15, hK_16, h⟩ := letE h
   refine Ex.seqJ (fun a S => ∃ (y_13 : Bool), K_15 y_13 = some r ∧ a = mkS 48 [(3, .ptr 1 0), (31, .bool y_13)] ∧ S = ⟨[(C_Plot p_1), (C_Part x_2)], []⟩) ?_ ?_
   ·obtain ⟨r_17, hr_17, h⟩ := bE h
    refine Ex.reg (rn 2 [3, 33] (mkS 48 [(3, .ptr 1 0), (33, i6 x_2.From)]) ⟨[(C_Plot p_1), (C_Part x_2)], []⟩ ?_)
    refine ExO.callL [] [i6 x_2.From, i6 0, i6 1440] rfl rfl (a_costume_within x_2.From 0 1440) rfl rfl (d_costume_within N x_2.From 0 1440 r_17 hr_17) (b_costume_within _ _ _ _) rfl ?_
    rcases condI h with ⟨hc_18, h⟩ | ⟨hc_18, h⟩
    ·refine runH 8 [(1, .eq (.bool true))] [3, 31] [AV.bool (!r_17) = AV.bool true] (mkS 48 [(3, .ptr 1 0), (31, .bool true)]) (⟨[(C_Plot p_1), (C_Part x_2)], []⟩) (by kernel_rfl) ⟨congrArg AV.bool hc_18, trivial⟩ ?_
     refine ExO.nil ?_
     (try simp only [reduceCtorEq, AEx.ex.injEq, Nat.reduceEqDiff, if_true, if_false])
     exact ⟨_, _, Forgets.refl _ _ _, true, h, rfl, rfl⟩
    ·obtain ⟨r_19, hr_19, h⟩ := bE h
     refine runH 4 [(1, .eq (.bool false))] [3, 36, 38] [AV.bool (!r_17) = AV.bool false] (mkS 48 [(3, .ptr 1 0), (36, .bool false), (38, i6 x_2.To)]) (⟨[(C_Plot p_1), (C_Part x_2)], []⟩) (by kernel_rfl) ⟨congrArg AV.bool hc_18, trivial⟩ ?_
     refine ExO.callL [] [i6 x_2.To, i6 0, i6 1440] rfl rfl (a_costume_within x_2.To 0 1440) rfl rfl (d_costume_within N x_2.To 0 1440 r_19 hr_19) (b_costume_within _ _ _ _) rfl ?_
     refine rn 3 [3, 31] (mkS 48 [(3, .ptr 1 0), (31, .bool (!r_19))]) ⟨[(C_Plot p_1), (C_Part x_2)], []⟩ ?_
     refine ExO.nil ?_
     (try simp only [reduceCtorEq, AEx.ex.injEq, Nat.reduceEqDiff, if_true, if_false])
     exact ⟨_, _, Forgets.refl _ _ _, (!r_19), h, rfl, rfl⟩
   ·rintro a S ⟨y_13, h, rfl, rfl⟩
    subst hK_16
    rcases condI h with ⟨hc_20, h⟩ | ⟨hc_20, h⟩
    ·refine Ex.condT _ rfl hc_20 ?_
     refine Ex.seq (rg 1 [4] (mkS 48 [(4, i6 2)]) ⟨[(C_Plot p_1), (C_Part x_2)], []⟩ ?_)
     refine Ex.ret ?_
     obtain rfl := sJ h
     exact rt (i6 2)
    ·refine Ex.condF _ rfl hc_20 ?_
     refine Ex.seq (rg 6 [42] (mkS 48 [(42, .bool (decide (x_2.From ≥ x_2.To)))]) ⟨[(C_Plot p_1), (C_Part x_2)], []⟩ ?_)
     rcases condI h with ⟨hc_21, h⟩ | ⟨hc_21, h⟩
     ·refine Ex.condT _ rfl hc_21 ?_
      refine Ex.seq (rg 1 [4] (mkS 48 [(4, i6 9)]) ⟨[(C_Plot p_1), (C_Part x_2)], []⟩ ?_)
      refine Ex.ret ?_
      obtain rfl := sJ h
      exact rt (i6 9)
     ·refine Ex.condF _ rfl hc_21 ?_
      refine Ex.skip ?_
      refine Ex.seq (rg 1 [4] (mkS 48 [(4, i6 0)]) ⟨[(C_Plot p_1), (C_Part x_2)], []⟩ ?_)
      refine Ex.ret ?_
      obtain rfl := sJ h
      exact rt (i6 0)
def p_costume_inTime (N : Nat) (a_1 : T_Part) (b_2 : T_Part) : Option (T_Part × T_Part) := (bif (decide (b_2.From < a_1.From)) then some (b_2, a_1) else some (a_1, b_2))
def v_costume_inTime (r : T_Part × T_Part) : AV := .tup [(A_Part r.1), (A_Part r.2)]
attribute [local simp] v_costume_inTime
theorem a_costume_inTime (a_1 : T_Part) (b_2 : T_Part) : [(A_Part a_1), (A_Part b_2)].mapM (ren []) = some [(A_Part a_1), (A_Part b_2)] := by simp
theorem b_costume_inTime (r : T_Part × T_Part) (n n2 m : Nat) : back n n2 m (v_costume_inTime r) = some (v_costume_inTime r) := by simp
theorem d_costume_inTime (N : Nat) (a_1 : T_Part) (b_2 : T_Part) (r : T_Part × T_Part) (h : p_costume_inTime N a_1 b_2 = some r) : Does Try.prog 124 [(A_Part a_1), (A_Part b_2)] [] fun v c => v = v_costume_inTime r ∧ c = [] := by
 unfold p_costume_inTime at h
 refine Does.ofL comp124 _ _ rfl rfl ?_
 refine Ex.seq (rg 4 [2, 3, 4, 5] (mkS 15 [(2, .ptr 0 0), (3, .ptr 1 0), (4, .ptr 2 0), (5, .ptr 3 0)]) ⟨[(C_Part a_1), (C_Part b_2), [i6 0, i6 0, i6 0, i6 0, i6 0], [i6 0, i6 0, i6 0, i6 0, i6 0]], []⟩ ?_)
 refine Ex.seq (Ex.seq ?_)
 refine rg 5 [2, 3, 4, 5, 10] (mkS 15 [(2, .ptr 0 0), (3, .ptr 1 0), (4, .ptr 2 0), (5, .ptr 3 0), (10, .bool (decide (b_2.From < a_1.From)))]) ⟨[(C_Part a_1), (C_Part b_2), [i6 0, i6 0, i6 0, i6 0, i6 0], [i6 0, i6 0, i6 0, i6 0, i6 0]], []⟩ ?_
 rcases condI h with ⟨hc_3, h⟩ | ⟨hc_3, h⟩
 ·refine Ex.condT _ rfl hc_3 ?_
  refine Ex.seq ?_
  refine Ex.drawE (a1 := mkS 15 [(2, .ptr 0 0), (3, .ptr 1 0), (4, .ptr 2 0), (5, .ptr 3 0), (10, .bool (decide (b_2.From < a_1.From))), (11, (A_Part b_2)), (12, (A_Part a_1))]) (noClr_ok _) [] [] [⟨[(C_Part a_1), (C_Part b_2), (C_Part b_2), [i6 0, i6 0, i6 0, i6 0, i6 0]], []⟩] ?_ ?_
  ·refine drS [0, 1, 3] 2 [] [] (mkS 15 [(2, .ptr 0 0), (3, .ptr 1 0), (4, .ptr 2 0), (5, .ptr 3 0), (10, .bool (decide (b_2.From < a_1.From))), (11, (A_Part b_2)), (12, (A_Part a_1))]) (by simp) (by kernel_rfl) trivial (by kernel_rfl) ?_
   refine drE none none (.tup []) _ _ rfl rfl rfl rfl rfl (by kernel_rfl) trivial ?_
   exact DrO.nil rfl
  ·dsimp only [List.getLastD_cons, List.getLastD_nil]
   refine rn 1 [4, 5] (mkS 15 [(4, .ptr 2 0), (5, .ptr 3 0)]) ⟨[(C_Part a_1), (C_Part b_2), (C_Part b_2), (C_Part a_1)], []⟩ ?_
   refine ExO.nil ?_
   refine Ex.ret ?_
   obtain rfl := sJ h
   exact rt (.tup [(A_Part b_2), (A_Part a_1)])
 ·refine Ex.condF _ rfl hc_3 ?_
  refine Ex.skip ?_
  refine Ex.seq ?_
  refine Ex.drawE (a1 := mkS 15 [(2, .ptr 0 0), (3, .ptr 1 0), (4, .ptr 2 0), (5, .ptr 3 0), (10, .bool (decide (b_2.From < a_1.From))), (13, (A_Part a_1)), (14, (A_Part b_2))]) (noClr_ok _) [] [] [⟨[(C_Part a_1), (C_Part b_2), (C_Part a_1), [i6 0, i6 0, i6 0, i6 0, i6 0]], []⟩] ?_ ?_
  ·refine drS [0, 1, 3] 2 [] [] (mkS 15 [(2, .ptr 0 0), (3, .ptr 1 0), (4, .ptr 2 0), (5, .ptr 3 0), (10, .bool (decide (b_2.From < a_1.From))), (13, (A_Part a_1)), (14, (A_Part b_2))]) (by simp) (by kernel_rfl) trivial (by kernel_rfl) ?_
   refine drE none none (.tup []) _ _ rfl rfl rfl rfl rfl (by kernel_rfl) trivial ?_
   exact DrO.nil rfl
  ·dsimp only [List.getLastD_cons, List.getLastD_nil]
   refine rn 1 [4, 5] (mkS 15 [(4, .ptr 2 0), (5, .ptr 3 0)]) ⟨[(C_Part a_1), (C_Part b_2), (C_Part a_1), (C_Part b_2)], []⟩ ?_
   refine ExO.nil ?_
   refine Ex.ret ?_
   obtain rfl := sJ h
   exact rt (.tup [(A_Part a_1), (A_Part b_2)])
def p_costume_way (N : Nat) (p_1 : T_Plot) (from_2 : T_Part) (to_3 : T_Part) : Option (Int) := ((getI p_1.Walk from_2.Place).bind fun x_4 => ((getI x_4 to_3.Place).bind fun x_5 => some x_5))
def v_costume_way (r : Int) : AV := i6 r
attribute [local simp] v_costume_way
theorem a_costume_way (p_1 : T_Plot) (from_2 : T_Part) (to_3 : T_Part) : [(A_Plot p_1), (A_Part from_2), (A_Part to_3)].mapM (ren []) = some [(A_Plot p_1), (A_Part from_2), (A_Part to_3)] := by simp
theorem b_costume_way (r : Int) (n n2 m : Nat) : back n n2 m (v_costume_way r) = some (v_costume_way r) := by simp
theorem d_costume_way (N : Nat) (p_1 : T_Plot) (from_2 : T_Part) (to_3 : T_Part) (r : Int) (h : p_costume_way N p_1 from_2 to_3 = some r) : Does Try.prog 125 [(A_Plot p_1), (A_Part from_2), (A_Part to_3)] [] fun v c => v = v_costume_way r ∧ c = [] := by
 unfold p_costume_way at h
 refine Does.ofL comp125 _ _ rfl rfl ?_
 refine Ex.seq (rg 4 [3, 4, 5] (mkS 17 [(3, .ptr 0 0), (4, .ptr 1 0), (5, .ptr 2 0)]) ⟨[(C_Plot p_1), (C_Part from_2), (C_Part to_3)], []⟩ ?_)
 refine Ex.seq ?_
 obtain ⟨x_4, hx_4, h⟩ := bE h
 refine Ex.drawE (a1 := mkS 17 [(3, .ptr 0 0), (4, .ptr 1 0), (5, .ptr 2 0), (7, .ptr 0 1), (8, .sl (p_1.Walk.map (SV (AV.int .i64))) none), (9, .ptr 1 1), (10, i6 from_2.Place), (11, .rop [.sl (x_4.map (AV.int .i64)) none]), (12, .sl (x_4.map (AV.int .i64)) none), (13, .ptr 2 1), (14, i6 to_3.Place)]) (noClr_ok _) [] [] [] ?_ ?_
 ·refine drS [0, 1, 2] 8 [(4, .rop [.sl (x_4.map (AV.int .i64)) none])] [LGet (p_1.Walk.map (SV (AV.int .i64))) from_2.Place 1 [.sl (x_4.map (AV.int .i64)) none]] (mkS 17 [(3, .ptr 0 0), (4, .ptr 1 0), (5, .ptr 2 0), (7, .ptr 0 1), (8, .sl (p_1.Walk.map (SV (AV.int .i64))) none), (9, .ptr 1 1), (10, i6 from_2.Place), (11, .rop [.sl (x_4.map (AV.int .i64)) none]), (12, .sl (x_4.map (AV.int .i64)) none), (13, .ptr 2 1), (14, i6 to_3.Place)]) (by simp) (by kernel_rfl) ⟨LGet.of hx_4 rfl, trivial⟩ (by kernel_rfl) ?_
  exact DrO.nil rfl
 ·dsimp only [List.getLastD_cons, List.getLastD_nil]
  obtain ⟨x_5, hx_5, h⟩ := bE h
  refine runH 3 [(0, .rop [i6 x_5])] [6] [LGet (x_4.map (AV.int .i64)) to_3.Place 1 [i6 x_5]] (mkS 17 [(6, i6 x_5)]) (⟨[(C_Plot p_1), (C_Part from_2), (C_Part to_3)], []⟩) (by kernel_rfl) ⟨LGet.of hx_5 rfl, trivial⟩ ?_
  refine ExO.nil ?_
  refine Ex.ret ?_
  obtain rfl := sJ h
  exact rt (i6 x_5)
def p_costume_pause (N : Nat) (first_1 : T_Part) (then_2 : T_Part) : Option (Int) := some (IntKind.i64.wrap (then_2.From - first_1.To))
def v_costume_pause (r : Int) : AV := i6 r
attribute [local simp] v_costume_pause
theorem a_costume_pause (first_1 : T_Part) (then_2 : T_Part) : [(A_Part first_1), (A_Part then_2)].mapM (ren []) = some [(A_Part first_1), (A_Part then_2)] := by simp
theorem b_costume_pause (r : Int) (n n2 m : Nat) : back n n2 m (v_costume_pause r) = some (v_costume_pause r) := by simp
theorem d_costume_pause (N : Nat) (first_1 : T_Part) (then_2 : T_Part) (r : Int) (h : p_costume_pause N first_1 then_2 = some r) : Does Try.prog 126 [(A_Part first_1), (A_Part then_2)] [] fun v c => v = v_costume_pause r ∧ c = [] := by
 unfold p_costume_pause at h
 refine Does.ofL comp126 _ _ rfl rfl ?_
 refine Ex.seq (rg 3 [2, 3] (mkS 10 [(2, .ptr 0 0), (3, .ptr 1 0)]) ⟨[(C_Part first_1), (C_Part then_2)], []⟩ ?_)
 refine Ex.seq (rg 6 [4] (mkS 10 [(4, i6 (IntKind.i64.wrap (then_2.From - first_1.To)))]) ⟨[(C_Part first_1), (C_Part then_2)], []⟩ ?_)
 refine Ex.ret ?_
 obtain rfl := sJ h
 exact rt (i6 (IntKind.i64.wrap (then_2.From - first_1.To)))
def p_costume_checkBoth (N : Nat) (p_1 : T_Plot) (a_2 : T_Part) (b_3 : T_Part) : Option (Int) := (bif (a_2.Person != b_3.Person) then some 0 else ((p_costume_inTime N a_2 b_3).bind fun r_5 => ((p_costume_way N p_1 r_5.1 r_5.2).bind fun r_6 => (letJ (fun (needed_7 : Int) => ((p_costume_pause N r_5.1 r_5.2).bind fun r_13 => (bif (decide (r_13 < 0)) then some 10 else ((p_costume_pause N r_5.1 r_5.2).bind fun r_15 => (bif (decide (r_15 < needed_7)) then some 12 else some 0))))) (fun k_8 => (bif (r_5.1.Kind != r_5.2.Kind) then ((getI p_1.Dress r_5.2.Kind).bind fun x_12 => (k_8 (IntKind.i64.wrap (r_6 + x_12)))) else (k_8 r_6)))))))
def v_costume_checkBoth (r : Int) : AV := i6 r
attribute [local simp] v_costume_checkBoth
theorem a_costume_checkBoth (p_1 : T_Plot) (a_2 : T_Part) (b_3 : T_Part) : [(A_Plot p_1), (A_Part a_2), (A_Part b_3)].mapM (ren []) = some [(A_Plot p_1), (A_Part a_2), (A_Part b_3)] := by simp
theorem b_costume_checkBoth (r : Int) (n n2 m : Nat) : back n n2 m (v_costume_checkBoth r) = some (v_costume_checkBoth r) := by simp
theorem d_costume_checkBoth (N : Nat) (p_1 : T_Plot) (a_2 : T_Part) (b_3 : T_Part) (r : Int) (h : p_costume_checkBoth N p_1 a_2 b_3 = some r) : Does Try.prog 101 [(A_Plot p_1), (A_Part a_2), (A_Part b_3)] [] fun v c => v = v_costume_checkBoth r ∧ c = [] := by
 unfold p_costume_checkBoth at h
 refine Does.ofL comp101 _ _ rfl rfl ?_
 refine Ex.seq (rg 4 [3, 4, 5] (mkS 49 [(3, .ptr 0 0), (4, .ptr 1 0), (5, .ptr 2 0)]) ⟨[(C_Plot p_1), (C_Part a_2), (C_Part b_3)], []⟩ ?_)
 refine Ex.seq (Ex.seq ?_)
 refine rg 5 [3, 4, 5, 14] (mkS 49 [(3, .ptr 0 0), (4, .ptr 1 0), (5, .ptr 2 0), (14, .bool (a_2.Person != b_3.Person))]) ⟨[(C_Plot p_1), (C_Part a_2), (C_Part b_3)], []⟩ ?_
 rcases condI h with ⟨hc_4, h⟩ | ⟨hc_4, h⟩
 ·refine Ex.condT _ rfl hc_4 ?_
  refine Ex.seq (rg 1 [6] (mkS 49 [(6, i6 0)]) ⟨[(C_Plot p_1), (C_Part a_2), (C_Part b_3)], []⟩ ?_)
  refine Ex.ret ?_
  obtain rfl := sJ h
  exact rt (i6 0)
 ·refine Ex.condF _ rfl hc_4 ?_
  refine Ex.skip ?_
  refine Ex.seq ?_
  obtain ⟨r_5, hr_5, h⟩ := bE h
  refine Ex.reg (rn 2 [3, 16, 17] (mkS 49 [(3, .ptr 0 0), (16, (A_Part a_2)), (17, (A_Part b_3))]) ⟨[(C_Plot p_1), (C_Part a_2), (C_Part b_3)], []⟩ ?_)
  refine ExO.callL [] [(A_Part a_2), (A_Part b_3)] rfl rfl (a_costume_inTime a_2 b_3) rfl rfl (d_costume_inTime N a_2 b_3 r_5 hr_5) (b_costume_inTime _ _ _ _) rfl ?_
  refine rn 7 [3, 7, 8] (mkS 49 [(3, .ptr 0 0), (7, .ptr 3 0), (8, .ptr 4 0)]) ⟨[(C_Plot p_1), (C_Part a_2), (C_Part b_3), (C_Part r_5.1), (C_Part r_5.2)], []⟩ ?_
  refine ExO.nil ?_
  refine Ex.seq ?_
  obtain ⟨r_6, hr_6, h⟩ := bE h
  refine Ex.reg (rn 3 [3, 7, 8, 21, 22, 23] (mkS 49 [(3, .ptr 0 0), (7, .ptr 3 0), (8, .ptr 4 0), (21, (A_Plot p_1)), (22, (A_Part r_5.1)), (23, (A_Part r_5.2))]) ⟨[(C_Plot p_1), (C_Part a_2), (C_Part b_3), (C_Part r_5.1), (C_Part r_5.2)], []⟩ ?_)
  refine ExO.callL [] [(A_Plot p_1), (A_Part r_5.1), (A_Part r_5.2)] rfl rfl (a_costume_way p_1 r_5.1 r_5.2) rfl rfl (d_costume_way N p_1 r_5.1 r_5.2 r_6 hr_6) (b_costume_way _ _ _ _) rfl ?_
  refine rn 1 [3, 7, 8, 9] (mkS 49 [(3, .ptr 0 0), (7, .ptr 3 0), (8, .ptr 4 0), (9, i6 r_6)]) ⟨[(C_Plot p_1), (C_Part a_2), (C_Part b_3), (C_Part r_5.1), (C_Part r_5.2)], []⟩ ?_
  refine ExO.nil ?_
  obtain ⟨K_9, hK_10, h⟩ := letE h
  refine Ex.seqJ (fun a S => ∃ (needed_7 : Int), K_9 needed_7 = some r ∧ a = mkS 49 [(7, .ptr 3 0), (8, .ptr 4 0), (9, i6 needed_7)] ∧ S = ⟨[(C_Plot p_1), (C_Part a_2), (C_Part b_3), (C_Part r_5.1), (C_Part r_5.2)], []⟩) ?_ ?_
  ·refine Ex.seq (rg 5 [3, 7, 8, 9, 29] (mkS 49 [(3, .ptr 0 0), (7, .ptr 3 0), (8, .ptr 4 0), (9, i6 r_6), (29, .bool (r_5.1.Kind != r_5.2.Kind))]) ⟨[(C_Plot p_1), (C_Part a_2), (C_Part b_3), (C_Part r_5.1), (C_Part r_5.2)], []⟩ ?_)
   rcases condI h with ⟨hc_11, h⟩ | ⟨hc_11, h⟩
   ·refine Ex.condT _ rfl hc_11 ?_
    obtain ⟨x_12, hx_12, h⟩ := bE h
    refine regH 9 [(5, .rop [i6 x_12])] [7, 8, 9] [LGet (p_1.Dress.map (AV.int .i64)) r_5.2.Kind 1 [i6 x_12]] (mkS 49 [(7, .ptr 3 0), (8, .ptr 4 0), (9, i6 (IntKind.i64.wrap (r_6 + x_12)))]) (⟨[(C_Plot p_1), (C_Part a_2), (C_Part b_3), (C_Part r_5.1), (C_Part r_5.2)], []⟩) (by kernel_rfl) ⟨LGet.of hx_12 rfl, trivial⟩ rfl ?_
    (try simp only [reduceCtorEq, AEx.ex.injEq, Nat.reduceEqDiff, if_true, if_false])
    exact ⟨_, _, Forgets.refl _ _ _, (IntKind.i64.wrap (r_6 + x_12)), h, rfl, rfl⟩
   ·refine Ex.condF _ rfl hc_11 ?_
    refine Ex.skip ?_
    (try simp only [reduceCtorEq, AEx.ex.injEq, Nat.reduceEqDiff, if_true, if_false])
    exact ⟨_, _, forgetK [7, 8, 9], r_6, h, rfl, rfl⟩
  ·rintro a S ⟨needed_7, h, rfl, rfl⟩
   subst hK_10
   refine Ex.seq ?_
   refine Ex.blockK ?_
   refine Ex.seq ?_
   obtain ⟨r_13, hr_13, h⟩ := bE h
   refine Ex.reg (rn 2 [7, 8, 9, 39, 40] (mkS 49 [(7, .ptr 3 0), (8, .ptr 4 0), (9, i6 needed_7), (39, (A_Part r_5.1)), (40, (A_Part r_5.2))]) ⟨[(C_Plot p_1), (C_Part a_2), (C_Part b_3), (C_Part r_5.1), (C_Part r_5.2)], []⟩ ?_)
   refine ExO.callL [] [(A_Part r_5.1), (A_Part r_5.2)] rfl rfl (a_costume_pause r_5.1 r_5.2) rfl rfl (d_costume_pause N r_5.1 r_5.2 r_13 hr_13) (b_costume_pause _ _ _ _) rfl ?_
   refine rn 2 [7, 8, 9, 38] (mkS 49 [(7, .ptr 3 0), (8, .ptr 4 0), (9, i6 needed_7), (38, .bool (decide (r_13 < 0)))]) ⟨[(C_Plot p_1), (C_Part a_2), (C_Part b_3), (C_Part r_5.1), (C_Part r_5.2)], []⟩ ?_
   refine ExO.nil ?_
   rcases condI h with ⟨hc_14, h⟩ | ⟨hc_14, h⟩
   ·refine Ex.condT _ rfl hc_14 ?_
    refine Ex.seq (rg 1 [6] (mkS 49 [(6, i6 10)]) ⟨[(C_Plot p_1), (C_Part a_2), (C_Part b_3), (C_Part r_5.1), (C_Part r_5.2)], []⟩ ?_)
    refine Ex.ret ?_
    obtain rfl := sJ h
    exact rt (i6 10)
   ·refine Ex.condF _ rfl hc_14 ?_
    refine Ex.seq ?_
    obtain ⟨r_15, hr_15, h⟩ := bE h
    refine Ex.reg (rn 2 [9, 44, 45] (mkS 49 [(9, i6 needed_7), (44, (A_Part r_5.1)), (45, (A_Part r_5.2))]) ⟨[(C_Plot p_1), (C_Part a_2), (C_Part b_3), (C_Part r_5.1), (C_Part r_5.2)], []⟩ ?_)
    refine ExO.callL [] [(A_Part r_5.1), (A_Part r_5.2)] rfl rfl (a_costume_pause r_5.1 r_5.2) rfl rfl (d_costume_pause N r_5.1 r_5.2 r_15 hr_15) (b_costume_pause _ _ _ _) rfl ?_
    refine rn 3 [43] (mkS 49 [(43, .bool (decide (r_15 < needed_7)))]) ⟨[(C_Plot p_1), (C_Part a_2), (C_Part b_3), (C_Part r_5.1), (C_Part r_5.2)], []⟩ ?_
    refine ExO.nil ?_
    rcases condI h with ⟨hc_16, h⟩ | ⟨hc_16, h⟩
    ·refine Ex.condT _ rfl hc_16 ?_
     refine Ex.seq (rg 1 [6] (mkS 49 [(6, i6 12)]) ⟨[(C_Plot p_1), (C_Part a_2), (C_Part b_3), (C_Part r_5.1), (C_Part r_5.2)], []⟩ ?_)
     refine Ex.ret ?_
     obtain rfl := sJ h
     exact rt (i6 12)
    ·refine Ex.condF _ rfl hc_16 ?_
     refine Ex.skip ?_
     refine Ex.seq (rg 1 [6] (mkS 49 [(6, i6 0)]) ⟨[(C_Plot p_1), (C_Part a_2), (C_Part b_3), (C_Part r_5.1), (C_Part r_5.2)], []⟩ ?_)
     refine Ex.ret ?_
     obtain rfl := sJ h
     exact rt (i6 0)
def p_costume_checkParts (N : Nat) (p_1 : T_Plot) : Option (Int) := (bif (decide (((p_1.Parts.length : Nat) : Int) > 30)) then some 5 else (letJ (fun (_ : Unit) => some 0) (fun k_3 => (loop1 (fun rec_7 (y_6 : Int) => (bif (decide (y_6 < ((p_1.Parts.length : Nat) : Int))) then ((getI p_1.Parts y_6).bind fun x_11 => ((p_costume_checkPart N p_1 x_11).bind fun r_12 => (bif (r_12 != 0) then some r_12 else ((partI p_1.Parts 0 y_6).bind fun l_14 => (letJ (fun (_ : Unit) => (rec_7 (IntKind.i64.wrap (y_6 + 1)))) (fun k_15 => (loop1 (fun rec_19 (y_18 : Int) => (bif (decide (y_18 < ((l_14.length : Nat) : Int))) then ((getI l_14 y_18).bind fun x_23 => ((p_costume_checkBoth N p_1 x_23 x_11).bind fun r_24 => (bif (r_24 != 0) then some r_24 else (rec_19 (IntKind.i64.wrap (y_18 + 1)))))) else (k_15 ()))) N 0))))))) else (k_3 ()))) N 0))))
def v_costume_checkParts (r : Int) : AV := i6 r
attribute [local simp] v_costume_checkParts
theorem a_costume_checkParts (p_1 : T_Plot) : [(A_Plot p_1)].mapM (ren []) = some [(A_Plot p_1)] := by simp
theorem b_costume_checkParts (r : Int) (n n2 m : Nat) : back n n2 m (v_costume_checkParts r) = some (v_costume_checkParts r) := by simp
theorem d_costume_checkParts (N : Nat) (p_1 : T_Plot) (r : Int) (h : p_costume_checkParts N p_1 = some r) : Does Try.prog 62 [(A_Plot p_1)] [] fun v c => v = v_costume_checkParts r ∧ c = [] := by
 unfold p_costume_checkParts at h
 refine Does.ofL comp62 _ _ rfl rfl ?_
 refine Ex.seq (rg 2 [1] (mkS 45 [(1, .ptr 0 0)]) ⟨[(C_Plot p_1)], []⟩ ?_)
 refine Ex.seq (Ex.seq ?_)
 refine regH 4 [(2, .eq (i6 ((p_1.Parts.length : Nat) : Int)))] [1, 12] [AV.int .i64 (((p_1.Parts.map A_Part).length : Nat) : Int) = AV.int .i64 ((p_1.Parts.length : Nat) : Int)] (mkS 45 [(1, .ptr 0 0), (12, .bool (decide (((p_1.Parts.length : Nat) : Int) > 30)))]) (⟨[(C_Plot p_1)], []⟩) (by kernel_rfl) ⟨lenM _ _, trivial⟩ rfl ?_
 rcases condI h with ⟨hc_2, h⟩ | ⟨hc_2, h⟩
 ·refine Ex.condT _ rfl hc_2 ?_
  refine Ex.seq (rg 1 [2] (mkS 45 [(2, i6 5)]) ⟨[(C_Plot p_1)], []⟩ ?_)
  refine Ex.ret ?_
  obtain rfl := sJ h
  exact rt (i6 5)
 ·refine Ex.condF _ rfl hc_2 ?_
  refine Ex.skip ?_
  refine Ex.seq (Ex.seq ?_)
  refine regH 4 [(2, .eq (i6 ((p_1.Parts.length : Nat) : Int)))] [1, 14, 15, 16] [AV.int .i64 (((p_1.Parts.map A_Part).length : Nat) : Int) = AV.int .i64 ((p_1.Parts.length : Nat) : Int)] (mkS 45 [(1, .ptr 0 0), (14, .sl (p_1.Parts.map A_Part) none), (15, i6 ((p_1.Parts.length : Nat) : Int)), (16, i6 0)]) (⟨[(C_Plot p_1)], []⟩) (by kernel_rfl) ⟨lenM _ _, trivial⟩ rfl ?_
  obtain ⟨K_4, hK_5, h⟩ := letE h
  refine Ex.blockJ (fun a S => K_4 () = some r ∧ a = mkS 45 [] ∧ S = ⟨[], []⟩) ?_ ?_
  ·obtain ⟨B_8, hB_9, h⟩ := loop1I h
   refine Ex.loopF (fun k a S => ∃ (y_6 : Int), loop1 B_8 k y_6 = some r ∧ a = mkS 45 [(1, .ptr 0 0), (14, .sl (p_1.Parts.map A_Part) none), (15, i6 ((p_1.Parts.length : Nat) : Int)), (16, i6 y_6)] ∧ S = ⟨[(C_Plot p_1)], []⟩) N ⟨_, _, Forgets.refl _ _ _, 0, h, rfl, rfl⟩ ?_
   rintro k a S ⟨y_6, h, rfl, rfl⟩
   cases k with
   | zero => exact (loop1Z h).elim
   | succ k =>
    replace h := loop1S h hB_9
    refine Ex.seq (rg 1 [1, 14, 15, 16, 17] (mkS 45 [(1, .ptr 0 0), (14, .sl (p_1.Parts.map A_Part) none), (15, i6 ((p_1.Parts.length : Nat) : Int)), (16, i6 y_6), (17, .bool (decide (y_6 < ((p_1.Parts.length : Nat) : Int))))]) ⟨[(C_Plot p_1)], []⟩ ?_)
    refine Ex.seq ?_
    rcases condI h with ⟨hc_10, h⟩ | ⟨hc_10, h⟩
    ·refine Ex.condT _ rfl hc_10 ?_
     refine Ex.skip ?_
     refine Ex.seq ?_
     refine Ex.blockK ?_
     refine Ex.seq ?_
     obtain ⟨x_11, hx_11, h⟩ := bE h
     refine regH 6 [(1, .rop (C_Part x_11))] [1, 3, 4, 14, 15, 16] [LGet (p_1.Parts.map A_Part) y_6 5 (C_Part x_11)] (mkS 45 [(1, .ptr 0 0), (3, i6 y_6), (4, .ptr 1 0), (14, .sl (p_1.Parts.map A_Part) none), (15, i6 ((p_1.Parts.length : Nat) : Int)), (16, i6 y_6)]) (⟨[(C_Plot p_1), (C_Part x_11)], []⟩) (by kernel_rfl) ⟨LGet.of hx_11 rfl, trivial⟩ rfl ?_
     refine Ex.seq (Ex.seq ?_)
     obtain ⟨r_12, hr_12, h⟩ := bE h
     refine Ex.reg (rn 2 [1, 3, 4, 14, 15, 16, 21, 22] (mkS 45 [(1, .ptr 0 0), (3, i6 y_6), (4, .ptr 1 0), (14, .sl (p_1.Parts.map A_Part) none), (15, i6 ((p_1.Parts.length : Nat) : Int)), (16, i6 y_6), (21, (A_Plot p_1)), (22, (A_Part x_11))]) ⟨[(C_Plot p_1), (C_Part x_11)], []⟩ ?_)
     refine ExO.callL [] [(A_Plot p_1), (A_Part x_11)] rfl rfl (a_costume_checkPart p_1 x_11) rfl rfl (d_costume_checkPart N p_1 x_11 r_12 hr_12) (b_costume_checkPart _ _ _ _) rfl ?_
     refine rn 1 [1, 3, 4, 5, 14, 15, 16] (mkS 45 [(1, .ptr 0 0), (3, i6 y_6), (4, .ptr 1 0), (5, i6 r_12), (14, .sl (p_1.Parts.map A_Part) none), (15, i6 ((p_1.Parts.length : Nat) : Int)), (16, i6 y_6)]) ⟨[(C_Plot p_1), (C_Part x_11)], []⟩ ?_
     refine ExO.nil ?_
     refine Ex.seq (rg 2 [1, 3, 4, 5, 14, 15, 16, 25] (mkS 45 [(1, .ptr 0 0), (3, i6 y_6), (4, .ptr 1 0), (5, i6 r_12), (14, .sl (p_1.Parts.map A_Part) none), (15, i6 ((p_1.Parts.length : Nat) : Int)), (16, i6 y_6), (25, .bool (r_12 != 0))]) ⟨[(C_Plot p_1), (C_Part x_11)], []⟩ ?_)
     rcases condI h with ⟨hc_13, h⟩ | ⟨hc_13, h⟩
     ·refine Ex.condT _ rfl hc_13 ?_
      refine Ex.seq (rg 2 [2] (mkS 45 [(2, i6 r_12)]) ⟨[(C_Plot p_1), (C_Part x_11)], []⟩ ?_)
      refine Ex.ret ?_
      obtain rfl := sJ h
      exact rt (i6 r_12)
     ·refine Ex.condF _ rfl hc_13 ?_
      refine Ex.skip ?_
      refine Ex.seq ?_
      obtain ⟨l_14, hl_14, h⟩ := bE h
      refine regH 6 [(3, .sc (l_14.map A_Part)), (4, .eq (i6 ((l_14.length : Nat) : Int)))] [1, 4, 14, 15, 16, 30, 31, 32] [LSlc (p_1.Parts.map A_Part) none (some y_6) 5 (l_14.map A_Part), AV.int .i64 (((l_14.map A_Part).length : Nat) : Int) = AV.int .i64 ((l_14.length : Nat) : Int)] (mkS 45 [(1, .ptr 0 0), (4, .ptr 1 0), (14, .sl (p_1.Parts.map A_Part) none), (15, i6 ((p_1.Parts.length : Nat) : Int)), (16, i6 y_6), (30, .sl (l_14.map A_Part) none), (31, i6 ((l_14.length : Nat) : Int)), (32, i6 0)]) (⟨[(C_Plot p_1), (C_Part x_11)], []⟩) (by kernel_rfl) ⟨partI.ofR (f := A_Part) (fun _ => rfl) hl_14, lenM _ _, trivial⟩ rfl ?_
      obtain ⟨K_16, hK_17, h⟩ := letE h
      refine Ex.blockJ (fun a S => K_16 () = some r ∧ a = mkS 45 [(1, .ptr 0 0), (14, .sl (p_1.Parts.map A_Part) none), (15, i6 ((p_1.Parts.length : Nat) : Int)), (16, i6 y_6)] ∧ S = ⟨[(C_Plot p_1)], []⟩) ?_ ?_
      ·obtain ⟨B_20, hB_21, h⟩ := loop1I h
       refine Ex.loopF (fun k a S => ∃ (y_18 : Int), loop1 B_20 k y_18 = some r ∧ a = mkS 45 [(1, .ptr 0 0), (4, .ptr 1 0), (14, .sl (p_1.Parts.map A_Part) none), (15, i6 ((p_1.Parts.length : Nat) : Int)), (16, i6 y_6), (30, .sl (l_14.map A_Part) none), (31, i6 ((l_14.length : Nat) : Int)), (32, i6 y_18)] ∧ S = ⟨[(C_Plot p_1), (C_Part x_11)], []⟩) N ⟨_, _, Forgets.refl _ _ _, 0, h, rfl, rfl⟩ ?_
       rintro k a S ⟨y_18, h, rfl, rfl⟩
       cases k with
       | zero => exact (loop1Z h).elim
       | succ k =>
        replace h := loop1S h hB_21
        refine Ex.seq (rg 1 [1, 4, 14, 15, 16, 30, 31, 32, 33] (mkS 45 [(1, .ptr 0 0), (4, .ptr 1 0), (14, .sl (p_1.Parts.map A_Part) none), (15, i6 ((p_1.Parts.length : Nat) : Int)), (16, i6 y_6), (30, .sl (l_14.map A_Part) none), (31, i6 ((l_14.length : Nat) : Int)), (32, i6 y_18), (33, .bool (decide (y_18 < ((l_14.length : Nat) : Int))))]) ⟨[(C_Plot p_1), (C_Part x_11)], []⟩ ?_)
        refine Ex.seq ?_
        rcases condI h with ⟨hc_22, h⟩ | ⟨hc_22, h⟩
        ·refine Ex.condT _ rfl hc_22 ?_
         refine Ex.skip ?_
         refine Ex.seq ?_
         refine Ex.blockK ?_
         refine Ex.seq ?_
         obtain ⟨x_23, hx_23, h⟩ := bE h
         refine regH 4 [(0, .rop (C_Part x_23))] [1, 4, 7, 14, 15, 16, 30, 31, 32] [LGet (l_14.map A_Part) y_18 5 (C_Part x_23)] (mkS 45 [(1, .ptr 0 0), (4, .ptr 1 0), (7, .ptr 2 0), (14, .sl (p_1.Parts.map A_Part) none), (15, i6 ((p_1.Parts.length : Nat) : Int)), (16, i6 y_6), (30, .sl (l_14.map A_Part) none), (31, i6 ((l_14.length : Nat) : Int)), (32, i6 y_18)]) (⟨[(C_Plot p_1), (C_Part x_11), (C_Part x_23)], []⟩) (by kernel_rfl) ⟨LGet.of hx_23 rfl, trivial⟩ rfl ?_
         refine Ex.seq ?_
         obtain ⟨r_24, hr_24, h⟩ := bE h
         refine Ex.reg (rn 3 [1, 4, 14, 15, 16, 30, 31, 32, 36, 37, 38] (mkS 45 [(1, .ptr 0 0), (4, .ptr 1 0), (14, .sl (p_1.Parts.map A_Part) none), (15, i6 ((p_1.Parts.length : Nat) : Int)), (16, i6 y_6), (30, .sl (l_14.map A_Part) none), (31, i6 ((l_14.length : Nat) : Int)), (32, i6 y_18), (36, (A_Plot p_1)), (37, (A_Part x_23)), (38, (A_Part x_11))]) ⟨[(C_Plot p_1), (C_Part x_11), (C_Part x_23)], []⟩ ?_)
         refine ExO.callL [] [(A_Plot p_1), (A_Part x_23), (A_Part x_11)] rfl rfl (a_costume_checkBoth p_1 x_23 x_11) rfl rfl (d_costume_checkBoth N p_1 x_23 x_11 r_24 hr_24) (b_costume_checkBoth _ _ _ _) rfl ?_
         refine rn 1 [1, 4, 8, 14, 15, 16, 30, 31, 32] (mkS 45 [(1, .ptr 0 0), (4, .ptr 1 0), (8, i6 r_24), (14, .sl (p_1.Parts.map A_Part) none), (15, i6 ((p_1.Parts.length : Nat) : Int)), (16, i6 y_6), (30, .sl (l_14.map A_Part) none), (31, i6 ((l_14.length : Nat) : Int)), (32, i6 y_18)]) ⟨[(C_Plot p_1), (C_Part x_11), (C_Part x_23)], []⟩ ?_
         refine ExO.nil ?_
         refine Ex.seq (rg 2 [1, 4, 8, 14, 15, 16, 30, 31, 32, 41] (mkS 45 [(1, .ptr 0 0), (4, .ptr 1 0), (8, i6 r_24), (14, .sl (p_1.Parts.map A_Part) none), (15, i6 ((p_1.Parts.length : Nat) : Int)), (16, i6 y_6), (30, .sl (l_14.map A_Part) none), (31, i6 ((l_14.length : Nat) : Int)), (32, i6 y_18), (41, .bool (r_24 != 0))]) ⟨[(C_Plot p_1), (C_Part x_11), (C_Part x_23)], []⟩ ?_)
         rcases condI h with ⟨hc_25, h⟩ | ⟨hc_25, h⟩
         ·refine Ex.condT _ rfl hc_25 ?_
          refine Ex.seq (rg 2 [2] (mkS 45 [(2, i6 r_24)]) ⟨[(C_Plot p_1), (C_Part x_11), (C_Part x_23)], []⟩ ?_)
          refine Ex.ret ?_
          obtain rfl := sJ h
          exact rt (i6 r_24)
         ·refine Ex.condF _ rfl hc_25 ?_
          refine Ex.skip ?_
          refine rg 2 [1, 4, 14, 15, 16, 30, 31, 32] (mkS 45 [(1, .ptr 0 0), (4, .ptr 1 0), (14, .sl (p_1.Parts.map A_Part) none), (15, i6 ((p_1.Parts.length : Nat) : Int)), (16, i6 y_6), (30, .sl (l_14.map A_Part) none), (31, i6 ((l_14.length : Nat) : Int)), (32, i6 (IntKind.i64.wrap (y_18 + 1)))]) ⟨[(C_Plot p_1), (C_Part x_11), (C_Part x_23)], []⟩ ?_
          dsimp only
          exact ⟨_, _, forgetA (m := 45) 2 [] [(1, .ptr 0 0), (4, .ptr 1 0), (14, .sl (p_1.Parts.map A_Part) none), (15, i6 ((p_1.Parts.length : Nat) : Int)), (16, i6 y_6), (30, .sl (l_14.map A_Part) none), (31, i6 ((l_14.length : Nat) : Int)), (32, i6 (IntKind.i64.wrap (y_18 + 1)))] [(C_Plot p_1), (C_Part x_11)] [] (by simp [setAll]) (by simp) ⟨rfl, rfl, (reN (KL_Part _)), rfl, rfl, (reN (KL_Part _)), rfl, rfl, trivial⟩ (by simp) rfl (by decide), k, Nat.lt_succ_self k, (IntKind.i64.wrap (y_18 + 1)), h, rfl, rfl⟩
        ·refine Ex.condF _ rfl hc_22 ?_
         refine Ex.exit ?_
         (try simp only [reduceCtorEq, AEx.ex.injEq, Nat.reduceEqDiff, if_true, if_false])
         exact ⟨_, _, forgetA (m := 45) 1 [] [(1, .ptr 0 0), (14, .sl (p_1.Parts.map A_Part) none), (15, i6 ((p_1.Parts.length : Nat) : Int)), (16, i6 y_6)] [(C_Plot p_1)] [] (by simp [setAll]) (by simp) ⟨rfl, (reN (KL_Part _)), rfl, rfl, trivial⟩ (by simp) rfl (by decide), h, rfl, rfl⟩
      ·rintro a S ⟨h, rfl, rfl⟩
       subst hK_17
       refine rg 2 [1, 14, 15, 16] (mkS 45 [(1, .ptr 0 0), (14, .sl (p_1.Parts.map A_Part) none), (15, i6 ((p_1.Parts.length : Nat) : Int)), (16, i6 (IntKind.i64.wrap (y_6 + 1)))]) ⟨[(C_Plot p_1)], []⟩ ?_
       dsimp only
       exact ⟨_, _, Forgets.refl _ _ _, k, Nat.lt_succ_self k, (IntKind.i64.wrap (y_6 + 1)), h, rfl, rfl⟩
    ·refine Ex.condF _ rfl hc_10 ?_
     refine Ex.exit ?_
     (try simp only [reduceCtorEq, AEx.ex.injEq, Nat.reduceEqDiff, if_true, if_false])
     exact ⟨_, _, forgetA (m := 45) 0 [] [] [] [] (by simp [setAll]) (by simp) trivial (by simp) rfl (by decide), h, rfl, rfl⟩
  ·rintro a S ⟨h, rfl, rfl⟩
   subst hK_5
   refine Ex.seq (rg 1 [2] (mkS 45 [(2, i6 0)]) ⟨[], []⟩ ?_)
   refine Ex.ret ?_
   obtain rfl := sJ h
   exact rt (i6 0)
def p_costume_Check (N : Nat) (p_1 : T_Plot) : Option (Int) := ((p_costume_checkPersons N p_1.Persons).bind fun r_2 => (bif (r_2 != 0) then some r_2 else ((p_costume_checkWalk N p_1.Walk).bind fun r_4 => (bif (r_4 != 0) then some r_4 else ((p_costume_checkDress N p_1.Dress).bind fun r_6 => (bif (r_6 != 0) then some r_6 else ((p_costume_checkParts N p_1).bind fun r_8 => some r_8)))))))
def v_costume_Check (r : Int) : AV := i6 r
attribute [local simp] v_costume_Check
theorem a_costume_Check (p_1 : T_Plot) : [(A_Plot p_1)].mapM (ren []) = some [(A_Plot p_1)] := by simp
theorem b_costume_Check (r : Int) (n n2 m : Nat) : back n n2 m (v_costume_Check r) = some (v_costume_Check r) := by simp
theorem d_costume_Check (N : Nat) (p_1 : T_Plot) (r : Int) (h : p_costume_Check N p_1 = some r) : Does Try.prog 26 [(A_Plot p_1)] [] fun v c => v = v_costume_Check r ∧ c = [] := by
 unfold p_costume_Check at h
 refine Does.ofL comp26 _ _ rfl rfl ?_
 refine Ex.seq (rg 2 [1] (mkS 26 [(1, .ptr 0 0)]) ⟨[(C_Plot p_1)], []⟩ ?_)
 refine Ex.seq (Ex.seq ?_)
 obtain ⟨r_2, hr_2, h⟩ := bE h
 refine Ex.reg (rn 2 [1, 7] (mkS 26 [(1, .ptr 0 0), (7, .sl (p_1.Persons.map A_Span) none)]) ⟨[(C_Plot p_1)], []⟩ ?_)
 refine ExO.callL [] [.sl (p_1.Persons.map A_Span) none] rfl rfl (a_costume_checkPersons p_1.Persons) rfl rfl (d_costume_checkPersons N p_1.Persons r_2 hr_2) (b_costume_checkPersons _ _ _ _) rfl ?_
 refine rn 1 [1, 3] (mkS 26 [(1, .ptr 0 0), (3, i6 r_2)]) ⟨[(C_Plot p_1)], []⟩ ?_
 refine ExO.nil ?_
 refine Ex.seq (rg 2 [1, 3, 10] (mkS 26 [(1, .ptr 0 0), (3, i6 r_2), (10, .bool (r_2 != 0))]) ⟨[(C_Plot p_1)], []⟩ ?_)
 rcases condI h with ⟨hc_3, h⟩ | ⟨hc_3, h⟩
 ·refine Ex.condT _ rfl hc_3 ?_
  refine Ex.seq (rg 2 [2] (mkS 26 [(2, i6 r_2)]) ⟨[(C_Plot p_1)], []⟩ ?_)
  refine Ex.ret ?_
  obtain rfl := sJ h
  exact rt (i6 r_2)
 ·refine Ex.condF _ rfl hc_3 ?_
  refine Ex.skip ?_
  refine Ex.seq (Ex.seq ?_)
  obtain ⟨r_4, hr_4, h⟩ := bE h
  refine Ex.reg (rn 2 [1, 13] (mkS 26 [(1, .ptr 0 0), (13, .sl (p_1.Walk.map (SV (AV.int .i64))) none)]) ⟨[(C_Plot p_1)], []⟩ ?_)
  refine ExO.callL [] [.sl (p_1.Walk.map (SV (AV.int .i64))) none] rfl rfl (a_costume_checkWalk p_1.Walk) rfl rfl (d_costume_checkWalk N p_1.Walk r_4 hr_4) (b_costume_checkWalk _ _ _ _) rfl ?_
  refine rn 1 [1, 4] (mkS 26 [(1, .ptr 0 0), (4, i6 r_4)]) ⟨[(C_Plot p_1)], []⟩ ?_
  refine ExO.nil ?_
  refine Ex.seq (rg 2 [1, 4, 16] (mkS 26 [(1, .ptr 0 0), (4, i6 r_4), (16, .bool (r_4 != 0))]) ⟨[(C_Plot p_1)], []⟩ ?_)
  rcases condI h with ⟨hc_5, h⟩ | ⟨hc_5, h⟩
  ·refine Ex.condT _ rfl hc_5 ?_
   refine Ex.seq (rg 2 [2] (mkS 26 [(2, i6 r_4)]) ⟨[(C_Plot p_1)], []⟩ ?_)
   refine Ex.ret ?_
   obtain rfl := sJ h
   exact rt (i6 r_4)
  ·refine Ex.condF _ rfl hc_5 ?_
   refine Ex.skip ?_
   refine Ex.seq (Ex.seq ?_)
   obtain ⟨r_6, hr_6, h⟩ := bE h
   refine Ex.reg (rn 2 [1, 19] (mkS 26 [(1, .ptr 0 0), (19, .sl (p_1.Dress.map (AV.int .i64)) none)]) ⟨[(C_Plot p_1)], []⟩ ?_)
   refine ExO.callL [] [.sl (p_1.Dress.map (AV.int .i64)) none] rfl rfl (a_costume_checkDress p_1.Dress) rfl rfl (d_costume_checkDress N p_1.Dress r_6 hr_6) (b_costume_checkDress _ _ _ _) rfl ?_
   refine rn 1 [1, 5] (mkS 26 [(1, .ptr 0 0), (5, i6 r_6)]) ⟨[(C_Plot p_1)], []⟩ ?_
   refine ExO.nil ?_
   refine Ex.seq (rg 2 [1, 5, 22] (mkS 26 [(1, .ptr 0 0), (5, i6 r_6), (22, .bool (r_6 != 0))]) ⟨[(C_Plot p_1)], []⟩ ?_)
   rcases condI h with ⟨hc_7, h⟩ | ⟨hc_7, h⟩
   ·refine Ex.condT _ rfl hc_7 ?_
    refine Ex.seq (rg 2 [2] (mkS 26 [(2, i6 r_6)]) ⟨[(C_Plot p_1)], []⟩ ?_)
    refine Ex.ret ?_
    obtain rfl := sJ h
    exact rt (i6 r_6)
   ·refine Ex.condF _ rfl hc_7 ?_
    refine Ex.skip ?_
    refine Ex.seq ?_
    obtain ⟨r_8, hr_8, h⟩ := bE h
    refine Ex.reg (rn 1 [24] (mkS 26 [(24, (A_Plot p_1))]) ⟨[(C_Plot p_1)], []⟩ ?_)
    refine ExO.callL [] [(A_Plot p_1)] rfl rfl (a_costume_checkParts p_1) rfl rfl (d_costume_checkParts N p_1 r_8 hr_8) (b_costume_checkParts _ _ _ _) rfl ?_
    refine rn 1 [2] (mkS 26 [(2, i6 r_8)]) ⟨[(C_Plot p_1)], []⟩ ?_
    refine ExO.nil ?_
    refine Ex.ret ?_
    obtain rfl := sJ h
    exact rt (i6 r_8)
def p_costume_checkPerson (N : Nat) (p_1 : T_Plot) (person_2 : Int) : Option (Int) := ((p_costume_Check N p_1).bind fun r_3 => (bif (r_3 != 0) then some r_3 else ((p_costume_isNumber N person_2 ((p_1.Persons.length : Nat) : Int)).bind fun r_5 => (bif (!r_5) then some 7 else some 0))))
def v_costume_checkPerson (r : Int) : AV := i6 r
attribute [local simp] v_costume_checkPerson
theorem a_costume_checkPerson (p_1 : T_Plot) (person_2 : Int) : [(A_Plot p_1), i6 person_2].mapM (ren []) = some [(A_Plot p_1), i6 person_2] := by simp
theorem b_costume_checkPerson (r : Int) (n n2 m : Nat) : back n n2 m (v_costume_checkPerson r) = some (v_costume_checkPerson r) := by simp
theorem d_costume_checkPerson (N : Nat) (p_1 : T_Plot) (person_2 : Int) (r : Int) (h : p_costume_checkPerson N p_1 person_2 = some r) : Does Try.prog 93 [(A_Plot p_1), i6 person_2] [] fun v c => v = v_costume_checkPerson r ∧ c = [] := by
 unfold p_costume_checkPerson at h
 refine Does.ofL comp93 _ _ rfl rfl ?_
 refine Ex.seq (rg 2 [1, 2] (mkS 17 [(1, i6 person_2), (2, .ptr 0 0)]) ⟨[(C_Plot p_1)], []⟩ ?_)
 refine Ex.seq (Ex.seq ?_)
 obtain ⟨r_3, hr_3, h⟩ := bE h
 refine Ex.reg (rn 1 [1, 2, 6] (mkS 17 [(1, i6 person_2), (2, .ptr 0 0), (6, (A_Plot p_1))]) ⟨[(C_Plot p_1)], []⟩ ?_)
 refine ExO.callL [] [(A_Plot p_1)] rfl rfl (a_costume_Check p_1) rfl rfl (d_costume_Check N p_1 r_3 hr_3) (b_costume_Check _ _ _ _) rfl ?_
 refine rn 1 [1, 2, 5] (mkS 17 [(1, i6 person_2), (2, .ptr 0 0), (5, i6 r_3)]) ⟨[(C_Plot p_1)], []⟩ ?_
 refine ExO.nil ?_
 refine Ex.seq (rg 2 [1, 2, 5, 9] (mkS 17 [(1, i6 person_2), (2, .ptr 0 0), (5, i6 r_3), (9, .bool (r_3 != 0))]) ⟨[(C_Plot p_1)], []⟩ ?_)
 rcases condI h with ⟨hc_4, h⟩ | ⟨hc_4, h⟩
 ·refine Ex.condT _ rfl hc_4 ?_
  refine Ex.seq (rg 2 [4] (mkS 17 [(4, i6 r_3)]) ⟨[(C_Plot p_1)], []⟩ ?_)
  refine Ex.ret ?_
  obtain rfl := sJ h
  exact rt (i6 r_3)
 ·refine Ex.condF _ rfl hc_4 ?_
  refine Ex.skip ?_
  refine Ex.seq (Ex.seq ?_)
  obtain ⟨r_5, hr_5, h⟩ := bE h
  refine Ex.reg ?_
  refine runH 4 [(3, .eq (i6 ((p_1.Persons.length : Nat) : Int)))] [11, 14] [AV.int .i64 (((p_1.Persons.map A_Span).length : Nat) : Int) = AV.int .i64 ((p_1.Persons.length : Nat) : Int)] (mkS 17 [(11, i6 person_2), (14, i6 ((p_1.Persons.length : Nat) : Int))]) (⟨[(C_Plot p_1)], []⟩) (by kernel_rfl) ⟨lenM _ _, trivial⟩ ?_
  refine ExO.callL [] [i6 person_2, i6 ((p_1.Persons.length : Nat) : Int)] rfl rfl (a_costume_isNumber person_2 ((p_1.Persons.length : Nat) : Int)) rfl rfl (d_costume_isNumber N person_2 ((p_1.Persons.length : Nat) : Int) r_5 hr_5) (b_costume_isNumber _ _ _ _) rfl ?_
  refine rn 1 [16] (mkS 17 [(16, .bool (!r_5))]) ⟨[(C_Plot p_1)], []⟩ ?_
  refine ExO.nil ?_
  rcases condI h with ⟨hc_6, h⟩ | ⟨hc_6, h⟩
  ·refine Ex.condT _ rfl hc_6 ?_
   refine Ex.seq (rg 1 [4] (mkS 17 [(4, i6 7)]) ⟨[(C_Plot p_1)], []⟩ ?_)
   refine Ex.ret ?_
   obtain rfl := sJ h
   exact rt (i6 7)
  ·refine Ex.condF _ rfl hc_6 ?_
   refine Ex.skip ?_
   refine Ex.seq (rg 1 [4] (mkS 17 [(4, i6 0)]) ⟨[(C_Plot p_1)], []⟩ ?_)
   refine Ex.ret ?_
   obtain rfl := sJ h
   exact rt (i6 0)
def p_costume_isOn (N : Nat) (x_1 : T_Part) (minute_2 : Int) : Option (Bool) := (bif (decide (x_1.From ≤ minute_2)) then some (decide (minute_2 < x_1.To)) else some false)
def v_costume_isOn (r : Bool) : AV := .bool r
attribute [local simp] v_costume_isOn
theorem a_costume_isOn (x_1 : T_Part) (minute_2 : Int) : [(A_Part x_1), i6 minute_2].mapM (ren []) = some [(A_Part x_1), i6 minute_2] := by simp
theorem b_costume_isOn (r : Bool) (n n2 m : Nat) : back n n2 m (v_costume_isOn r) = some (v_costume_isOn r) := by simp
theorem d_costume_isOn (N : Nat) (x_1 : T_Part) (minute_2 : Int) (r : Bool) (h : p_costume_isOn N x_1 minute_2 = some r) : Does Try.prog 96 [(A_Part x_1), i6 minute_2] [] fun v c => v = v_costume_isOn r ∧ c = [] := by
 unfold p_costume_isOn at h
 refine Does.ofL comp96 _ _ rfl rfl ?_
 refine Ex.seq (rg 2 [1, 2] (mkS 15 [(1, i6 minute_2), (2, .ptr 0 0)]) ⟨[(C_Part x_1)], []⟩ ?_)
 refine Ex.seq ?_
 rcases condI h with ⟨hc_3, h⟩ | ⟨hc_3, h⟩
 ·refine regH 11 [(4, .eq (.bool true))] [4] [AV.bool (decide (x_1.From ≤ minute_2)) = AV.bool true] (mkS 15 [(4, .bool (decide (minute_2 < x_1.To)))]) (⟨[(C_Part x_1)], []⟩) (by kernel_rfl) ⟨congrArg AV.bool hc_3, trivial⟩ rfl ?_
  refine Ex.ret ?_
  obtain rfl := sJ h
  exact rt (.bool (decide (minute_2 < x_1.To)))
 ·refine regH 11 [(4, .eq (.bool false))] [4] [AV.bool (decide (x_1.From ≤ minute_2)) = AV.bool false] (mkS 15 [(4, .bool false)]) (⟨[(C_Part x_1)], []⟩) (by kernel_rfl) ⟨congrArg AV.bool hc_3, trivial⟩ rfl ?_
  refine Ex.ret ?_
  obtain rfl := sJ h
  exact rt (.bool false)
def p_costume_At_1 (N : Nat) (x_1 : T_Part) (a_2 : Int) (a_3 : Int) : Option (Bool) := (bif (x_1.Person == a_2) then ((p_costume_isOn N x_1 a_3).bind fun r_5 => some r_5) else some false)
def v_costume_At_1 (r : Bool) : AV := .bool r
attribute [local simp] v_costume_At_1
theorem b_costume_At_1 (r : Bool) (n n2 m : Nat) : back n n2 m (v_costume_At_1 r) = some (v_costume_At_1 r) := by simp
theorem d_costume_At_1 (N : Nat) (x_1 : T_Part) (a_2 : Int) (a_3 : Int) (r : Bool) (h : p_costume_At_1 N x_1 a_2 a_3 = some r) : Does Try.prog 95 [(A_Part x_1), .ptr 0 0, .ptr 1 0] [[i6 a_2], [i6 a_3]] fun v c => v = v_costume_At_1 r ∧ c = [[i6 a_2], [i6 a_3]] := by
 unfold p_costume_At_1 at h
 refine Does.ofL comp95 _ _ rfl rfl ?_
 refine Ex.seq (rg 2 [1, 2, 3] (mkS 14 [(1, .ptr 0 0), (2, .ptr 1 0), (3, .ptr 2 0)]) ⟨[[i6 a_2], [i6 a_3], (C_Part x_1)], []⟩ ?_)
 refine Ex.seq ?_
 rcases condI h with ⟨hc_4, h⟩ | ⟨hc_4, h⟩
 ·obtain ⟨r_5, hr_5, h⟩ := bE h
  refine Ex.reg ?_
  refine runH 7 [(4, .eq (.bool true))] [9, 10, 11] [AV.bool (x_1.Person == a_2) = AV.bool true] (mkS 14 [(9, .bool true), (10, (A_Part x_1)), (11, i6 a_3)]) (⟨[[i6 a_2], [i6 a_3], (C_Part x_1)], []⟩) (by kernel_rfl) ⟨congrArg AV.bool hc_4, trivial⟩ ?_
  refine ExO.callL [] [(A_Part x_1), i6 a_3] rfl rfl (a_costume_isOn x_1 a_3) rfl rfl (d_costume_isOn N x_1 a_3 r_5 hr_5) (b_costume_isOn _ _ _ _) rfl ?_
  refine rn 2 [4] (mkS 14 [(4, .bool r_5)]) ⟨[[i6 a_2], [i6 a_3], (C_Part x_1)], []⟩ ?_
  refine ExO.nil ?_
  refine Ex.ret ?_
  obtain rfl := sJ h
  exact rt (.bool r_5)
 ·refine regH 10 [(4, .eq (.bool false))] [4] [AV.bool (x_1.Person == a_2) = AV.bool false] (mkS 14 [(4, .bool false)]) (⟨[[i6 a_2], [i6 a_3], (C_Part x_1)], []⟩) (by kernel_rfl) ⟨congrArg AV.bool hc_4, trivial⟩ rfl ?_
  refine Ex.ret ?_
  obtain rfl := sJ h
  exact rt (.bool false)
def p_slices_IndexFunc_Part_Part_costume_At_1 (N : Nat) (s_1 : (List T_Part)) (a_2 : Int) (a_3 : Int) : Option (Int) := (letJ (fun (_ : Unit) => some (-1)) (fun k_4 => (loop1 (fun rec_8 (y_7 : Int) => (bif (decide (y_7 < ((s_1.length : Nat) : Int))) then ((getI s_1 y_7).bind fun x_12 => ((p_costume_At_1 N x_12 a_2 a_3).bind fun r_13 => (bif r_13 then some y_7 else (rec_8 (IntKind.i64.wrap (y_7 + 1)))))) else (k_4 ()))) N 0)))
def v_slices_IndexFunc_Part_Part_costume_At_1 (r : Int) : AV := i6 r
attribute [local simp] v_slices_IndexFunc_Part_Part_costume_At_1
theorem b_slices_IndexFunc_Part_Part_costume_At_1 (r : Int) (n n2 m : Nat) : back n n2 m (v_slices_IndexFunc_Part_Part_costume_At_1 r) = some (v_slices_IndexFunc_Part_Part_costume_At_1 r) := by simp
theorem d_slices_IndexFunc_Part_Part_costume_At_1 (N : Nat) (s_1 : (List T_Part)) (a_2 : Int) (a_3 : Int) (r : Int) (h : p_slices_IndexFunc_Part_Part_costume_At_1 N s_1 a_2 a_3 = some r) : Does Try.prog 97 [.sl (s_1.map A_Part) none, .fn 95 [] [.ptr 0 0, .ptr 1 0]] [[i6 a_2], [i6 a_3]] fun v c => v = v_slices_IndexFunc_Part_Part_costume_At_1 r ∧ c = [[i6 a_2], [i6 a_3]] := by
 unfold p_slices_IndexFunc_Part_Part_costume_At_1 at h
 refine Does.ofL comp97 _ _ rfl rfl ?_
 refine Ex.seq (rg 1 [0, 1] (mkS 19 [(0, .sl (s_1.map A_Part) none), (1, .fn 95 [] [.ptr 0 0, .ptr 1 0])]) ⟨[[i6 a_2], [i6 a_3]], []⟩ ?_)
 refine Ex.seq (Ex.seq ?_)
 refine regH 3 [(1, .eq (i6 ((s_1.length : Nat) : Int)))] [0, 1, 7, 8] [AV.int .i64 (((s_1.map A_Part).length : Nat) : Int) = AV.int .i64 ((s_1.length : Nat) : Int)] (mkS 19 [(0, .sl (s_1.map A_Part) none), (1, .fn 95 [] [.ptr 0 0, .ptr 1 0]), (7, i6 ((s_1.length : Nat) : Int)), (8, i6 0)]) (⟨[[i6 a_2], [i6 a_3]], []⟩) (by kernel_rfl) ⟨lenM _ _, trivial⟩ rfl ?_
 obtain ⟨K_5, hK_6, h⟩ := letE h
 refine Ex.blockJ (fun a S => K_5 () = some r ∧ a = mkS 19 [] ∧ S = ⟨[[i6 a_2], [i6 a_3]], []⟩) ?_ ?_
 ·obtain ⟨B_9, hB_10, h⟩ := loop1I h
  refine Ex.loopF (fun k a S => ∃ (y_7 : Int), loop1 B_9 k y_7 = some r ∧ a = mkS 19 [(0, .sl (s_1.map A_Part) none), (1, .fn 95 [] [.ptr 0 0, .ptr 1 0]), (7, i6 ((s_1.length : Nat) : Int)), (8, i6 y_7)] ∧ S = ⟨[[i6 a_2], [i6 a_3]], []⟩) N ⟨_, _, Forgets.refl _ _ _, 0, h, rfl, rfl⟩ ?_
  rintro k a S ⟨y_7, h, rfl, rfl⟩
  cases k with
  | zero => exact (loop1Z h).elim
  | succ k =>
   replace h := loop1S h hB_10
   refine Ex.seq (rg 1 [0, 1, 7, 8, 9] (mkS 19 [(0, .sl (s_1.map A_Part) none), (1, .fn 95 [] [.ptr 0 0, .ptr 1 0]), (7, i6 ((s_1.length : Nat) : Int)), (8, i6 y_7), (9, .bool (decide (y_7 < ((s_1.length : Nat) : Int))))]) ⟨[[i6 a_2], [i6 a_3]], []⟩ ?_)
   refine Ex.seq ?_
   rcases condI h with ⟨hc_11, h⟩ | ⟨hc_11, h⟩
   ·refine Ex.condT _ rfl hc_11 ?_
    refine Ex.skip ?_
    refine Ex.seq ?_
    refine Ex.blockK ?_
    refine Ex.seq (rg 2 [0, 1, 5, 7, 8] (mkS 19 [(0, .sl (s_1.map A_Part) none), (1, .fn 95 [] [.ptr 0 0, .ptr 1 0]), (5, i6 y_7), (7, i6 ((s_1.length : Nat) : Int)), (8, i6 y_7)]) ⟨[[i6 a_2], [i6 a_3]], []⟩ ?_)
    refine Ex.seq ?_
    obtain ⟨x_12, hx_12, h⟩ := bE h
    obtain ⟨r_13, hr_13, h⟩ := bE h
    refine Ex.reg ?_
    refine runH 5 [(3, .rop (C_Part x_12))] [0, 1, 5, 7, 8, 11, 15] [LGet (s_1.map A_Part) y_7 5 (C_Part x_12)] (mkS 19 [(0, .sl (s_1.map A_Part) none), (1, .fn 95 [] [.ptr 0 0, .ptr 1 0]), (5, i6 y_7), (7, i6 ((s_1.length : Nat) : Int)), (8, i6 y_7), (11, .fn 95 [] [.ptr 0 0, .ptr 1 0]), (15, (A_Part x_12))]) (⟨[[i6 a_2], [i6 a_3]], []⟩) (by kernel_rfl) ⟨LGet.of hx_12 rfl, trivial⟩ ?_
    refine ExO.callL [0, 1] [(A_Part x_12), .ptr 0 0, .ptr 1 0] rfl rfl (by simp; try rfl) rfl (by simp) (d_costume_At_1 N x_12 a_2 a_3 r_13 hr_13) (b_costume_At_1 _ _ _ _) (by simp) ?_
    refine rn 0 [0, 1, 5, 7, 8, 16] (mkS 19 [(0, .sl (s_1.map A_Part) none), (1, .fn 95 [] [.ptr 0 0, .ptr 1 0]), (5, i6 y_7), (7, i6 ((s_1.length : Nat) : Int)), (8, i6 y_7), (16, .bool r_13)]) ⟨[[i6 a_2], [i6 a_3]], []⟩ ?_
    refine ExO.nil ?_
    rcases condI h with ⟨hc_14, h⟩ | ⟨hc_14, h⟩
    ·refine Ex.condT _ rfl hc_14 ?_
     refine Ex.seq (rg 2 [4] (mkS 19 [(4, i6 y_7)]) ⟨[[i6 a_2], [i6 a_3]], []⟩ ?_)
     refine Ex.ret ?_
     obtain rfl := sJ h
     exact rt (i6 y_7)
    ·refine Ex.condF _ rfl hc_14 ?_
     refine Ex.skip ?_
     refine rg 2 [0, 1, 7, 8] (mkS 19 [(0, .sl (s_1.map A_Part) none), (1, .fn 95 [] [.ptr 0 0, .ptr 1 0]), (7, i6 ((s_1.length : Nat) : Int)), (8, i6 (IntKind.i64.wrap (y_7 + 1)))]) ⟨[[i6 a_2], [i6 a_3]], []⟩ ?_
     dsimp only
     exact ⟨_, _, Forgets.refl _ _ _, k, Nat.lt_succ_self k, (IntKind.i64.wrap (y_7 + 1)), h, rfl, rfl⟩
   ·refine Ex.condF _ rfl hc_11 ?_
    refine Ex.exit ?_
    (try simp only [reduceCtorEq, AEx.ex.injEq, Nat.reduceEqDiff, if_true, if_false])
    exact ⟨_, _, forgetK [], h, rfl, rfl⟩
 ·rintro a S ⟨h, rfl, rfl⟩
  subst hK_6
  refine Ex.seq (rg 1 [4] (mkS 19 [(4, i6 (-1))]) ⟨[[i6 a_2], [i6 a_3]], []⟩ ?_)
  refine Ex.ret ?_
  obtain rfl := sJ h
  exact rt (i6 (-1))
def p_costume_At (N : Nat) (p_1 : T_Plot) (person_2 : Int) (minute_3 : Int) : Option (Int × Int) := ((p_costume_checkPerson N p_1 person_2).bind fun r_4 => (bif (r_4 != 0) then some (0, r_4) else ((p_costume_within N minute_3 0 1440).bind fun r_6 => (bif (!r_6) then some (0, 2) else ((p_slices_IndexFunc_Part_Part_costume_At_1 N p_1.Parts person_2 minute_3).bind fun r_8 => some (r_8, 0))))))
def v_costume_At (r : Int × Int) : AV := .tup [i6 r.1, i6 r.2]
attribute [local simp] v_costume_At
theorem a_costume_At (p_1 : T_Plot) (person_2 : Int) (minute_3 : Int) : [(A_Plot p_1), i6 person_2, i6 minute_3].mapM (ren []) = some [(A_Plot p_1), i6 person_2, i6 minute_3] := by simp
theorem b_costume_At (r : Int × Int) (n n2 m : Nat) : back n n2 m (v_costume_At r) = some (v_costume_At r) := by simp
theorem d_costume_At (N : Nat) (p_1 : T_Plot) (person_2 : Int) (minute_3 : Int) (r : Int × Int) (h : p_costume_At N p_1 person_2 minute_3 = some r) : Does Try.prog 58 [(A_Plot p_1), i6 person_2, i6 minute_3] [] fun v c => v = v_costume_At r ∧ c = [] := by
 unfold p_costume_At at h
 refine Does.ofL comp58 _ _ rfl rfl ?_
 refine Ex.seq (rg 5 [3, 4, 5] (mkS 24 [(3, .ptr 0 0), (4, .ptr 1 0), (5, .ptr 2 0)]) ⟨[(C_Plot p_1), [i6 person_2], [i6 minute_3]], []⟩ ?_)
 refine Ex.seq (Ex.seq ?_)
 obtain ⟨r_4, hr_4, h⟩ := bE h
 refine Ex.reg (rn 2 [3, 4, 5, 10, 11] (mkS 24 [(3, .ptr 0 0), (4, .ptr 1 0), (5, .ptr 2 0), (10, (A_Plot p_1)), (11, i6 person_2)]) ⟨[(C_Plot p_1), [i6 person_2], [i6 minute_3]], []⟩ ?_)
 refine ExO.callL [] [(A_Plot p_1), i6 person_2] rfl rfl (a_costume_checkPerson p_1 person_2) rfl rfl (d_costume_checkPerson N p_1 person_2 r_4 hr_4) (b_costume_checkPerson _ _ _ _) rfl ?_
 refine rn 1 [3, 4, 5, 8] (mkS 24 [(3, .ptr 0 0), (4, .ptr 1 0), (5, .ptr 2 0), (8, i6 r_4)]) ⟨[(C_Plot p_1), [i6 person_2], [i6 minute_3]], []⟩ ?_
 refine ExO.nil ?_
 refine Ex.seq (rg 2 [3, 4, 5, 8, 14] (mkS 24 [(3, .ptr 0 0), (4, .ptr 1 0), (5, .ptr 2 0), (8, i6 r_4), (14, .bool (r_4 != 0))]) ⟨[(C_Plot p_1), [i6 person_2], [i6 minute_3]], []⟩ ?_)
 rcases condI h with ⟨hc_5, h⟩ | ⟨hc_5, h⟩
 ·refine Ex.condT _ rfl hc_5 ?_
  refine Ex.seq (rg 3 [6, 7] (mkS 24 [(6, i6 0), (7, i6 r_4)]) ⟨[(C_Plot p_1), [i6 person_2], [i6 minute_3]], []⟩ ?_)
  refine Ex.ret ?_
  obtain rfl := sJ h
  exact rt (.tup [i6 0, i6 r_4])
 ·refine Ex.condF _ rfl hc_5 ?_
  refine Ex.skip ?_
  refine Ex.seq (Ex.seq ?_)
  obtain ⟨r_6, hr_6, h⟩ := bE h
  refine Ex.reg (rn 1 [3, 4, 5, 16] (mkS 24 [(3, .ptr 0 0), (4, .ptr 1 0), (5, .ptr 2 0), (16, i6 minute_3)]) ⟨[(C_Plot p_1), [i6 person_2], [i6 minute_3]], []⟩ ?_)
  refine ExO.callL [] [i6 minute_3, i6 0, i6 1440] rfl rfl (a_costume_within minute_3 0 1440) rfl rfl (d_costume_within N minute_3 0 1440 r_6 hr_6) (b_costume_within _ _ _ _) rfl ?_
  refine rn 1 [3, 4, 5, 18] (mkS 24 [(3, .ptr 0 0), (4, .ptr 1 0), (5, .ptr 2 0), (18, .bool (!r_6))]) ⟨[(C_Plot p_1), [i6 person_2], [i6 minute_3]], []⟩ ?_
  refine ExO.nil ?_
  rcases condI h with ⟨hc_7, h⟩ | ⟨hc_7, h⟩
  ·refine Ex.condT _ rfl hc_7 ?_
   refine Ex.seq (rg 2 [6, 7] (mkS 24 [(6, i6 0), (7, i6 2)]) ⟨[(C_Plot p_1), [i6 person_2], [i6 minute_3]], []⟩ ?_)
   refine Ex.ret ?_
   obtain rfl := sJ h
   exact rt (.tup [i6 0, i6 2])
  ·refine Ex.condF _ rfl hc_7 ?_
   refine Ex.skip ?_
   refine Ex.seq (rg 2 [3, 9] (mkS 24 [(3, .ptr 0 0), (9, .fn 95 [] [.ptr 1 0, .ptr 2 0])]) ⟨[(C_Plot p_1), [i6 person_2], [i6 minute_3]], []⟩ ?_)
   refine Ex.seq ?_
   obtain ⟨r_8, hr_8, h⟩ := bE h
   refine Ex.reg (rn 3 [21, 22] (mkS 24 [(21, .sl (p_1.Parts.map A_Part) none), (22, .fn 95 [] [.ptr 1 0, .ptr 2 0])]) ⟨[(C_Plot p_1), [i6 person_2], [i6 minute_3]], []⟩ ?_)
   refine ExO.callL [1, 2] [.sl (p_1.Parts.map A_Part) none, .fn 95 [] [.ptr 1 0, .ptr 2 0]] rfl rfl (by simp; try rfl) rfl (by simp) (d_slices_IndexFunc_Part_Part_costume_At_1 N p_1.Parts person_2 minute_3 r_8 hr_8) (b_slices_IndexFunc_Part_Part_costume_At_1 _ _ _ _) (by simp) ?_
   refine rn 2 [6, 7] (mkS 24 [(6, i6 r_8), (7, i6 0)]) ⟨[(C_Plot p_1), [i6 person_2], [i6 minute_3]], []⟩ ?_
   refine ExO.nil ?_
   refine Ex.ret ?_
   obtain rfl := sJ h
   exact rt (.tup [i6 r_8, i6 0])
end Go.Proofs.Ytacoakfppjiomaa
end
