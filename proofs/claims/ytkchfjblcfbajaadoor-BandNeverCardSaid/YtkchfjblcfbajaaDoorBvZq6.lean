/- Part 7 of what the law needs: own work, put together. -/
import Derived.ProofKit
import Derived.LaidMore
import Derived.LaidLaws
import Derived.LaidHandle
import Derived.Lib.LaidTab
import Derived.Stop.LaidErr
import Derived.OpenShut
import Derived.Stop.Joined
import Derived.Test.YtkchfjblcfbajaaDoorRows
import Derived.Test.YtkchfjblcfbajaaDoorTie
import Derived.Test.YtkchfjblcfbajaaDoorCards
import Derived.SevenTiedAt
import Derived.Test.YtkchfjblcfbajaaDoorBvZq5
set_option linter.unusedVariables false
set_option linter.unusedSimpArgs false
set_option maxRecDepth 10000
set_option maxHeartbeats 4000000
section
namespace Go.Proofs.YtkchfjblcfbajaaDoor
open Go.RowKit
set_option maxHeartbeats 400000

theorem granted_c (N : Nat) (hN : 1000 < N) (l : List T_Band) (e : List Int) (hl : l.length ≤ 100) : p_bl7_granted N l e = some (kept l e) := by
 unfold p_bl7_granted
 let T : Option (List T_Band) → Prop := fun r => r = some (kept l e)
 show T _
 refine letJ_gen T _ _ (fun K1 hK1 => ?_)
 refine loop2_T T (fun (out : List T_Band) y => ∃ i : Nat, y = (i : Int) ∧ i ≤ l.length ∧ out.length ≤ i ∧ out ++ kept (l.drop i) (e.drop i) = kept l e) (fun out y => l.length - y.toNat) ?_ N [] 0 ⟨0, rfl, Nat.zero_le _, Nat.le_refl _, by simp⟩ (by simp; omega)
 rintro rec out y ⟨i, rfl, hi, ho, hk⟩ ih
 simp only [letJ_eq]
 have stop : kept (l.drop i) (e.drop i) = [] → T (K1 out) := fun h => by
  rw [h, List.append_nil] at hk
  rw [hK1, hk]
 by_cases h1 : i < l.length
 ·rw [ltD h1, cond_true]
  by_cases h2 : i < e.length
  ·rw [ltD h2, cond_true]
   have hx : e[i]? = some e[i] := List.getElem?_eq_getElem h2
   have hb : l[i]? = some l[i] := List.getElem?_eq_getElem h1
   rw [List.drop_eq_getElem_cons h1, List.drop_eq_getElem_cons h2, kept_cons] at hk
   rw [getD_at hx, Option.bind_some, nadd1 i (by omega)]
   cases hz : e[i] == 0 with
   | true =>
    rw [hz, cond_true] at hk
    rw [cond_true, getD_at hb, Option.bind_some, pushI_ok (by simp; omega), Option.bind_some]
    exact ih _ _ ⟨i + 1, rfl, by omega, by simp; omega, by rw [List.append_assoc]; exact hk⟩ (by omega)
   | false =>
    rw [hz, cond_false, List.nil_append] at hk
    rw [cond_false]
    exact ih _ _ ⟨i + 1, rfl, by omega, by omega, hk⟩ (by omega)
  ·rw [dF (show ¬ ((i : Int) < ((e.length : Nat) : Int)) by omega), cond_false]
   refine stop ?_
   rw [List.drop_eq_nil_of_le (show e.length ≤ i by omega)]
   simp [kept]
 ·rw [dF (show ¬ ((i : Int) < ((l.length : Nat) : Int)) by omega), cond_false, cond_false]
  refine stop ?_
  rw [List.drop_eq_nil_of_le (show l.length ≤ i by omega)]
  simp [kept]
theorem bandNever_p (N : Nat) (hN : 9223372036854776000 < N) (haw : p_bl7_awake N = some true) (nums : List Int) (hl : nums.length < 9223372036854775808) : p_bl7_BandNever N nums = some true := by
 unfold p_bl7_BandNever
 obtain ⟨d0, e⟩ := drumOf_p N nums (by omega) hl
 rw [e, Option.bind_some]; clear e
 obtain ⟨c, d1, e, hc⟩ := cityOf_p N (by omega) d0
 rw [e, Option.bind_some]; clear e
 dsimp only
 obtain ⟨l, d2, e, hll, hlb⟩ := bandsOf_p N (by omega) d1 c hc 5 (by omega)
 rw [show ((5 : Nat) : Int) = 5 from rfl] at e
 rw [e, Option.bind_some]; clear e
 dsimp only
 obtain ⟨ts, rfl, hts⟩ := tours_ex l hlb
 rw [List.length_map] at hll
 have hT : ∀ t ∈ ts, GoodT c t := fun t ht => (hts t ht).1
 rw [grant_c N (by omega) c hc ts hll hT, Option.bind_some]
 have hgl := gr_length N c ts []
 have hpart : ∀ {α : Type} (l : List α) (k : Nat), k ≤ l.length → partI l 0 (k : Int) = some (l.take k) := fun l k hl => by unfold partI; rw [if_pos (by omega)]; simp
 rw [letJ_eq]
 dsimp only
 rw [hgl, List.length_map, bne_self_eq_false, bne_self_eq_false, cond_false, cond_false]
 let T : Option Bool → Prop := fun r => r = some true
 show T _
 refine letJ_gen T _ _ (fun K1 hK1 => ?_)
 refine loop2_T T (fun i b => ∃ j : Nat, i = (j : Int) ∧ j ≤ ts.length) (fun i b => ts.length - i.toNat) ?_ N 0 _ ⟨0, rfl, Nat.zero_le _⟩ (by simp; omega)
 rintro rec i b ⟨j, rfl, hj⟩ ih
 by_cases hjl : j < ts.length
 ·have ht : ts[j]? = some ts[j] := List.getElem?_eq_getElem hjl
  generalize ts[j] = t at ht
  have hgt := hT t (List.mem_of_getElem? ht)
  have hb : (ts.map (·.Band))[j]? = some t.Band := by rw [List.getElem?_map, ht]; rfl
  have hk : kept ((ts.map (·.Band)).take j) (gr N c [] ts) = (kp N c [] (ts.take j)).map (·.Band) := by rw [kept_take, ← List.map_take, ← gr_take, kept_gr]
  rw [ltD hjl, cond_true, hpart _ j (by rw [List.length_map]; exact hj), Option.bind_some, granted_c N (by omega) _ _ (by simp; omega), Option.bind_some, hk]
  have hgm : ∀ x ∈ kp N c [] (ts.take j), GoodT c x := fun x hx => hT x (List.mem_of_mem_take (kp_mem N c _ [] x hx))
  have hgn := kp_length N c (ts.take j) []
  have hans := all_kp N c ts [] j t ht
  rw [List.nil_append] at hans
  generalize kp N c [] (ts.take j) = G at hgm hgn hans
  have hgn2 : G.length ≤ 5 := by rw [List.length_take] at hgn; omega
  have hcase := ansOf_cases N c G t
  generalize ansOf N c G t = a at hans hcase
  refine letJ_gen T _ _ (fun K2 hK2 => ?_)
  refine loop3_T T (fun may k b => ∃ k' : Nat, k = (k' : Int) ∧ k' ≤ G.length ∧ may = (G.take k').any (crB N c t)) (fun may k b => G.length - k.toNat) ?_ N false 0 b ⟨0, rfl, Nat.zero_le _, by simp⟩ (by simp; omega)
  rintro rec2 may k b2 ⟨k', rfl, hk', rfl⟩ ih2
  rw [List.length_map]
  by_cases hkl : k' < G.length
  ·have hx : G[k']? = some G[k'] := List.getElem?_eq_getElem hkl
   have hgx := hgm _ (List.getElem_mem hkl)
   have hxm := List.getElem_mem hkl
   generalize G[k'] = x at hx hgx hxm
   have hbx : (G.map (·.Band))[k']? = some x.Band := by rw [List.getElem?_map, hx]; rfl
   obtain ⟨v, ev, v3, v1, v2⟩ := cross_c N (by omega) c hc x t hgx hgt
   obtain ⟨v', ev', v3', v1', v2'⟩ := verdict_c N (by omega) t x hgt hgx c.Break
   have hcr : crB N c t x = true ↔ v' ≠ 2 := by simp [crB, ev']
   have hvv : v = 2 ↔ v' = 2 := by
    rw [v2, v2']
    exact ⟨fun h s1 g1 g2 s2 g3 g4 => by rw [mb_symm hgt hgx _ _ _ hc.b0]; exact h s2 g3 g4 s1 g1 g2, fun h s1 g1 g2 s2 g3 g4 => by rw [mb_symm hgx hgt _ _ _ hc.b0]; exact h s2 g3 g4 s1 g1 g2⟩
   have hcv : crB N c t x = (v != 2) := by
    rw [Bool.eq_iff_iff, hcr, bne_iff_ne]
    exact not_congr hvv.symm
   rw [ltD hkl, cond_true, getD_at hbx, Option.bind_some, getD_at hb, Option.bind_some, ev, Option.bind_some]
   dsimp only
   rw [bne_self_eq_false, cond_false]
   refine letJ_gen T _ _ (fun K3 hK3 => ?_)
   have htk : (G.take (k' + 1)).any (crB N c t) = ((G.take k').any (crB N c t) || (v != 2)) := by
    rw [List.take_add_one, hx, List.any_append, ← hcv]; simp
   have go : T (K3 ((G.take (k' + 1)).any (crB N c t))) := by
    rw [hK3]
    dsimp only
    refine letJ_gen T _ _ (fun K4 hK4 => ?_)
    have fin : ∀ b3, T (K4 false b3) := fun b3 => by
     rw [hK4]; dsimp only; rw [cond_false, nadd1 k' (by omega)]
     exact ih2 _ _ _ ⟨k' + 1, rfl, by omega, rfl⟩ (by omega)
    rw [getD_at hans, Option.bind_some]
    cases hz : a == 0 with
    | false => rw [cond_false]; exact fin _
    | true =>
     have hz := eq_of_beq hz
     have hno : G.any (crB N c t) = false := by
      rcases hcase with h | h | h | h
      ·omega
      ·exact h.2.1
      ·exact h.2.1
      ·exact h.2.1
     have hv2 : v = 2 := by
      rw [List.any_eq_false] at hno
      have := hno x hxm
      rw [hcv] at this
      simpa using this
     have xs0 := hgx.s0; have xs1 := hgx.s1; have xen := hgx.en; have xm := hgx.mul
     have ys0 := hgt.s0; have ys1 := hgt.s1; have yen := hgt.en; have ym := hgt.mul
     obtain ⟨s1, d3, e, g1, g2⟩ := ofS_p N ⟨b2⟩ x.Band.Start xs0 xs1 (by omega)
     obtain ⟨s2, d4, e', g3, g4⟩ := ofS_p N d3 t.Band.Start ys0 ys1 (by omega)
     rw [cond_true, Option.bind_some, Option.bind_some, Option.bind_some, e, Option.bind_some, Option.bind_some]
     dsimp only
     rw [e', Option.bind_some]
     dsimp only
     rw [refMeet_c N (by omega) c hc x t hgx hgt s1 s2 g1 g2 g3 g4 (v2.1 hv2 s1 g1 g2 s2 g3 g4), Option.bind_some]
     exact fin _
   cases hm : (G.take k').any (crB N c t) with
   | true => rw [htk, hm, Bool.true_or] at go; rw [cond_true]; exact go
   | false => rw [htk, hm, Bool.false_or] at go; rw [cond_false]; exact go
  ·have hkg : k' = G.length := by omega
   subst hkg
   rw [ltE, cond_false, hK2, List.take_length]
   dsimp only
   have hmay : (a == 10) = G.any (crB N c t) := by
    rcases hcase with h | h | h | h
    ·rw [h.2, h.1]; rfl
    ·rw [h.2.1, h.1]; rfl
    ·rw [h.2.1, h.1]; rfl
    ·rw [h.2.1, h.1]; rfl
   have hth : a = 0 → thB c t = false := fun hz => by
    rcases hcase with h | h | h | h
    ·omega
    ·omega
    ·omega
    ·exact h.2.2.1
   rw [getD_at hans, Option.bind_some, hmay, beq_self_eq_true, Bool.not_true, cond_false, getD_at hb, Option.bind_some, squaresF_c N (by omega) c hc t.Band t.squares_ hgt, Option.bind_some]
   dsimp only
   rw [bne_self_eq_false, cond_false]
   refine letJ_gen T _ _ (fun K5 hK5 => ?_)
   have hlen := hgt.wk.len; have hpl := hgt.pl
   have hsq := hgt.wk.mem ⟨hgt.f0, hgt.f1⟩ hc.tw.st
   refine st1 t.squares_.length _ (some true) (fun rec3 => ?_) (fun rec3 i hi => ?_) N 0 (Nat.zero_le _) (by omega)
   ·rw [ltE, cond_false, hK5, nadd1 j (by omega)]
    exact ih _ _ ⟨j + 1, rfl, by omega⟩ (by omega)
   ·have hq : t.squares_[i]? = some t.squares_[i] := List.getElem?_eq_getElem hi
    generalize t.squares_[i] = q at hq
    obtain ⟨q0, q1⟩ := hsq q (List.mem_of_getElem? hq)
    obtain ⟨r, e1, e2, _⟩ := getI_lt q0 q1
    rw [ltD hi, cond_true]
    simp only [letJ_eq]
    rw [nadd1 i (by omega), getD_at hq]
    simp only [Option.bind_some, e1]
    cases hz : a == 0 with
    | false => rw [cond_false, cond_false]
    | true =>
     have h1 := hth (eq_of_beq hz)
     unfold thB at h1
     rw [List.any_eq_false] at h1
     have h2 := h1 q (List.mem_of_getElem? hq)
     rw [e2, Option.getD_some, decide_eq_true_eq] at h2
     rw [cond_true, dF h2, cond_false]
 ·have : j = ts.length := by omega
  subst this
  rw [ltE, cond_false, hK1]
  dsimp only
  rw [haw]; rfl
theorem bandNever_m (nums : List Int) (haw : p_bl7_awake 18446744073709551616 = some true) (hl : nums.length < 9223372036854775808) : Does Tryd.prog 7 [.sl (nums.map fun z => .int .i64 z) none] [] fun v _ => v = .bool true :=
 (d_bl7_BandNever _ nums true (bandNever_p _ (by omega) haw nums hl)).mono fun v c h => h.1
end Go.Proofs.YtkchfjblcfbajaaDoor
end
section
namespace Go.Proofs.YtkchfjblcfbajaaDoor
open Go.RowKit
theorem awake_c : p_bl7_awake 18446744073709551616 = some true := by kernel_rfl
end Go.Proofs.YtkchfjblcfbajaaDoor
end
section
namespace Go.Proofs.YtkchfjblcfbajaaDoor
open Go.RowKit Go.ChangeShapes Go.WideShapes Go.ChangeAt

def nums (zs : List Int) : AV := .sl (zs.map fun z => .int .i64 z) none
theorem prog_own : ownKnob Tryd.prog.godebug = none := by kernel_rfl
theorem prog_laid : laidOutB Tryd.prog = true := by kernel_rfl

namespace bandNever
theorem glw {W : World} (hL : laidMetH Tryd.prog Rows.bandNeverRow.laid W) : GLW W := by
 rw [MakeChecks.laidMetH_plain _ _ _ (by kernel_rfl)] at hL
 have h0 : Lib.TabIs Tryd.prog W "math/bits.deBruijn32tab" .u8 gnum0 := Lib.tabIs_of_head (g := 0) (t := 163) (e := 5) (n := 32) (by kernel_rfl) (by kernel_rfl) (by kernel_rfl) (by kernel_rfl) (by kernel_rfl) (by kernel_rfl) (hL)
 have h1 : Lib.TabIs Tryd.prog W "math/bits.deBruijn64tab" .u8 gnum1 := Lib.tabIs_of_head (g := 1) (t := 164) (e := 5) (n := 64) (by kernel_rfl) (by kernel_rfl) (by kernel_rfl) (by kernel_rfl) (by kernel_rfl) (by kernel_rfl) (hL.tail)
 intro B o u h
 by_cases e0 : B = 0
 ·subst e0
  have := World.var?_cell (P := Tryd.prog) (g := 0) (by kernel_rfl) h0 o
  rw [this]
  simpa [gcell, gtab, gtab0] using h
 by_cases e1 : B = 1
 ·subst e1
  have := World.var?_cell (P := Tryd.prog) (g := 1) (by kernel_rfl) h1 o
  rw [this]
  simpa [gcell, gtab, gtab1] using h
 simp [gcell, gtab, e0, e1] at h
theorem door_met (os : Os) (args : Array Value) : laidMetH Tryd.prog Rows.bandNeverRow.laid ((World.doorLaid Tryd.prog 19 os).forCall (fun _ _ => 0) ⟨#[], args, []⟩).memory :=
 laidMetH_of_parts3 (fuel := 8) (laidMet_of_run' 8 (by kernel_rfl) (by kernel_rfl)) (by kernel_rfl) (by kernel_rfl)
set_option maxRecDepth 100000 in
theorem lifted (hM : ∀ zs : List Int, (∀ z ∈ zs, (Lit.int .i64 z).wf = true) → zs.length ≤ maxLen → Does Tryd.prog 7 [nums zs] [] fun v _ => v = .bool true) (os : Os) (started : os.Started) (H : Type) (enc : TypeId × Value → H) :
  ReturnsInHanded {} Tryd.checked os 7 .any (fun w args => (Rows.bandNeverSpec.pre enc Tryd.prog Tryd.f7 Rows.bandNeverRow.domain false w args ∧ laidMetH Tryd.prog Rows.bandNeverRow.laid w) ∧ sizedMet enc Tryd.prog Tryd.f7 (OpenSpec.ofChange Rows.bandNeverSpec) false w args) (Rows.bandNeverSpec.post enc Tryd.prog Tryd.f7 false true false false) := by
 refine returnsInHanded_of_change_and (C := Tryd.checked) (X := fun w _ => laidMetH Tryd.prog Rows.bandNeverRow.laid w) (fun _ _ _ hh h => h.of_heap hh) prog_own started (by kernel_rfl) Tryd.func7
  (ChangeSpec.witness_shaped (enc := enc) (C := Tryd.checked) (os := os) (X := fun w _ => laidMetH Tryd.prog Rows.bandNeverRow.laid w) false (World.doorLaid Tryd.prog 19 os) #[.slice none 0 0] 8 rfl (World.shaped_of_RefB (by kernel_rfl) (by kernel_rfl)) (by kernel_rfl) (by kernel_rfl) (by kernel_rfl) (door_met os _)) ?_
 intro W base args ds gs before hval0 hW hcnd _ hL _
 have hval : ∀ (j : Nat) t v, Tryd.f7.params[j]? = some t → args[j]? = some v → Value.okWide Tryd.prog W .any base t v := hval0
 have hW' := hW
 obtain ⟨p, q, hA0, hV, rfl, hfz, hnd⟩ := hW
 have hA : DataW.TrodAll enc Tryd.prog W 0 (fun _ => true) true Tryd.f7.params.toList args.toList ds p := hA0
 rw [Tryd.params7] at hA hval
 obtain ⟨v0, vs0, d0, ds0, p0, q0, hargs, rfl, rfl, h0, r0⟩ := trodAll_cons hA
 obtain ⟨rfl, rfl, rfl⟩ := trodAll_nil r0
 obtain rfl : args = #[v0] := by cases args; simp_all
 obtain ⟨rfl, rfl⟩ := trodVars_none hV
 obtain ⟨a0, len0, cap0, rfl⟩ := okWide_slice Tryd.underlying22 (hval 0 22 v0 rfl rfl)
 have k0 := h0
 have lt0 : ∀ x ∈ p0, x.block < W.heap.size := by obtain ⟨m, hm⟩ := k0; exact DataW.trod_lt m _ _ _ hm
 obtain ⟨zs, hwf, hlen, hvr⟩ := ints_vr Tryd.underlying22 Tryd.underlying3 (by kernel_rfl) h0
 clear hA0 hval0
 refine ((hM zs hwf hlen).law (us := #[.slice a0 len0 cap0]) ⟨rfl, fun i x u hx hu => ?_⟩ (glw hL)).mono fun e W' ⟨he, bel⟩ => ?_
 ·cases i with
  | zero => simp at hx hu; subst hx; subst hu; exact hvr
  | succ i => simp at hx
 subst he
 exact ⟨_, rfl, _, _, _, [], _, [], hW', trodAll_mk1 (shut_bool Tryd.underlying4 _), (trodAll_cons_mk (Below.trod prog_laid (by kernel_rfl) (of_decide_eq_true (by kernel_rfl)) k0 bel lt0) trodAll_mk0), rfl, bel.frame _, fun h => by cases h⟩

theorem frame (hM : ∀ zs : List Int, (∀ z ∈ zs, (Lit.int .i64 z).wf = true) → zs.length ≤ maxLen → Does Tryd.prog 7 [nums zs] [] fun v _ => v = .bool true) : Rows.BandNeverSaid :=
 OpenClaim.holds_of_wide 7 Tryd.f7 rfl rfl rfl rfl rfl rfl rfl ⟨rfl, rfl, rfl, rfl, rfl⟩ rfl rfl rfl rfl rfl (by kernel_rfl) Tryd.func7 (by kernel_rfl)
  (of_decide_eq_true (by kernel_rfl)) (by unfold Func.isWrapper; first | (rw [if_pos (by decide +kernel)]; kernel_rfl) | (rw [if_neg (by decide +kernel)]; exact ⟨rfl, rfl⟩))
  (fun os started H enc _ => lifted hM os started H enc)
end bandNever
end Go.Proofs.YtkchfjblcfbajaaDoor
end
section
namespace Go.Proofs.YtkchfjblcfbajaaDoor
open Go
set_option maxRecDepth 100000
theorem bandNever_card (h : Rows.BandNeverSaid) : Rows.BandNeverCardSaid :=
 Claim7.holds_tied_plain_at .later [] [.data, .data] true (true, "fe01ec05f56da0775188e805bb2e3c6250aca9f9ad23cd6dd3bc488253c3c85e") false
  h (fun _ h => by cases h) (by kernel_rfl) (fun _ h => by cases h) bandNever_row_tie rfl ⟨rfl, rfl⟩ (by kernel_rfl) rfl
  (fun f fn hf hfn => by
    obtain rfl : f = 7 := Option.some.inj ((show Tryd.prog.funcNamed "bateria/baterialaw07.BandNever" = some 7 by kernel_rfl).symm.trans hf) |>.symm
    obtain rfl : fn = Tryd.f7 := (Option.some.inj ((Tryd.func7).symm.trans hfn)).symm
    refine ⟨by kernel_rfl, fun j t ht => ?_⟩
    have hall : (Tryd.f7.params.toList.all fun t => !Tryd.prog.wantsStandIn t) = true := by kernel_rfl
    have hm : t ∈ Tryd.f7.params.toList := by
     rw [← Array.getElem?_toList] at ht
     exact List.mem_of_getElem? ht
    have hq := List.all_eq_true.1 hall t hm
    show Tryd.prog.wantsStandIn t = false
    simpa using hq)
  (by kernel_rfl)
end Go.Proofs.YtkchfjblcfbajaaDoor
end
