/- Part 7 of what the law needs: own work, put together. -/
import Derived.ProofKit
import Derived.Test.YtoefpcpijolofaaRows
import Derived.Test.YtoefpcpijolofaaFloatNar5
section
namespace Go.Proofs.Ytoefpcpijolofaa
open Go.RowKit
set_option linter.unusedVariables false
set_option linter.unusedSimpArgs false
set_option maxRecDepth 10000
set_option maxHeartbeats 4000000

theorem hgt_bd (high : Int) (g : Ld → Int) (ls : List Ld) (h : ∀ l ∈ ls, 0 ≤ g l ∧ g l ≤ 700) (h0 : 0 ≤ high) (h1 : high ≤ 2000) : 0 ≤ hgt high g ls ∧ hgt high g ls ≤ 2000 := by
  induction ls generalizing high with
  | nil => exact ⟨h0, h1⟩
  | cons l ls ih =>
    have hl := h l (by simp)
    show 0 ≤ hgt (if high < g l then g l else high) g ls ∧ hgt (if high < g l then g l else high) g ls ≤ 2000
    refine ih _ (fun x hx => h x (List.mem_cons_of_mem _ hx)) ?_ ?_ <;> split <;> omega

theorem routeOf_m (b n : Int) (n0 : 0 ≤ n) (n1 : n ≤ 20) (len wid front rear turn kilos mid high : Int) (hF : FOk ⟨len, wid, front, rear, turn, kilos, mid, high⟩) (ls : List Ld) (hlen : ls.length ≤ 20) (hall : ∀ l ∈ ls, LOk ⟨len, wid, front, rear, turn, kilos, mid, high⟩ l) : Does Try.prog 13 [.ptr 0 0, .agg [.int .i64 len, .int .i64 wid, .int .i64 front, .int .i64 rear, .int .i64 turn, .int .i64 kilos, .int .i64 mid, .int .i64 high, .sl (ls.map Ld.av) none], .int .i64 n] [[.int .u64 b]] fun v c' => ∃ (hs : List Hd) (b' : Int), v = .sl (hs.map Hd.av) none ∧ c' = [[.int .u64 b']] ∧ (∀ h ∈ hs, HOk h) ∧ (hs.length : Int) ≤ n := by
  have hF' : 2 ≤ len ∧ len ≤ 1200 ∧ 1 ≤ wid ∧ wid ≤ 400 ∧ 0 ≤ front ∧ front < rear ∧ rear ≤ len ∧ 0 ≤ turn ∧ turn < 1500 ∧ 0 ≤ kilos ∧ kilos < 5000 ∧ 0 ≤ mid ∧ mid ≤ len ∧ 0 ≤ high ∧ high < 500 := hF
  have hw1 := wts_ok _ hF Ld.klo (klo_ok _) ls hall
  have hw2 := wts_ok _ hF Ld.khi (khi_ok _) ls hall
  simp only [] at hw1 hw2
  have t1 := tot_in _ hw1
  have t2 := tot_in _ hw2
  rw [wts_len] at t1 t2
  have hlo : ∀ l ∈ ls, front ≤ l.pt ∧ l.pt ≤ rear ∧ 0 ≤ l.klo ∧ l.klo ≤ l.khi ∧ l.khi ≤ 900 ∧ 0 ≤ l.tlo ∧ l.tlo ≤ l.thi ∧ l.thi ≤ 700 := fun l hl => by
    have := hall l hl
    have h1 : front ≤ l.pt ∧ l.pt ≤ rear ∧ 0 ≤ l.klo ∧ l.klo ≤ l.khi ∧ l.khi ≤ 900 ∧ 0 ≤ l.tlo ∧ l.tlo ≤ l.thi ∧ l.thi ≤ 700 ∧ 1 ≤ l.kind ∧ l.kind ≤ 4 ∧ 0 ≤ l.watts ∧ l.watts < 3000 ∧ (l.watts = 0 ∨ l.kind = 2 ∨ l.kind = 3) := this
    omega
  have r1 := rear_bd kilos mid front rear Ld.klo ls hlen (fun l hl => by have := hlo l hl; omega) (by omega) (by omega) (by omega) (by omega) (by omega) (by omega) (by omega)
  have r2 := rear_bd kilos mid front rear Ld.khi ls hlen (fun l hl => by have := hlo l hl; omega) (by omega) (by omega) (by omega) (by omega) (by omega) (by omega) (by omega)
  have g1 := hgt_bd high Ld.tlo ls (fun l hl => by have := hlo l hl; omega) (by omega) (by omega)
  have g2 := hgt_bd high Ld.thi ls (fun l hl => by have := hlo l hl; omega) (by omega) (by omega)
  have e1 := TotalR_m len wid front rear turn kilos mid high hF ls hlen hall
  have e2 := AxlesR_m len wid front rear turn kilos mid high hF ls hlen hall
  have e3 := HeightR_m len wid front rear turn kilos mid high hF ls hlen hall
  unfold parts at e2
  have l21 : ((ls.length + 1 : Nat) : Int) ≤ 21 := by omega
  generalize tot (wts kilos mid Ld.klo ls) = T1v at e1 t1
  generalize tot (wts kilos mid Ld.khi ls) = T2v at e1 t2
  generalize mom front (wts kilos mid Ld.klo ls) / (rear - front) = R1v at e2 r1
  generalize -(-mom front (wts kilos mid Ld.khi ls) / (rear - front)) = R2v at e2 r2
  generalize -mom rear (wts kilos mid Ld.klo ls) / (rear - front) = F1v at e2
  generalize -(- -mom rear (wts kilos mid Ld.khi ls) / (rear - front)) = F2v at e2
  generalize hgt high Ld.tlo ls = H1v at e3 g1
  generalize hgt high Ld.thi ls = H2v at e3 g2
  have r1' : -10000000 < R1v ∧ R1v < 9999000 := by omega
  have r2' : -10000000 < R2v ∧ R2v < 9999000 := by omega
  clear r1 r2 hw1 hw2 hlo
  refine Does.of comp13 ?_
  unfold F13
  simp only [start, List.length_cons, List.length_nil, List.replicate, List.cons_append, List.nil_append, Nat.reduceAdd, Nat.reduceSub]
  (repeat (first|((first|refine ExO.nil ?_|refine Ex.skip ?_|refine Ex.ret ?_|refine Ex.exit ?_); try dsimp only)|((first|(refine xI ?_; intro _ _)|refine xL ?_|(refine xB ?_; intro _ _)|refine xG ?_|refine xS ?_|refine xM ?_|(refine xC ?_; intro _ _)|refine xW ?_); try simp only [sA])|refine Ex.seq ?_|refine Ex.reg ?_|refine Ex.block ?_|refine eT ?_|refine eF ?_|simp only [reduceCtorEq, AEx.ex.injEq, Nat.reduceEqDiff, if_true, if_false]))
  refine ExO.call (f := 50) (xs := [.agg [.int .i64 len, .int .i64 wid, .int .i64 front, .int .i64 rear, .int .i64 turn, .int .i64 kilos, .int .i64 mid, .int .i64 high, .sl (ls.map Ld.av) none]]) (ys := [.agg [.int .i64 len, .int .i64 wid, .int .i64 front, .int .i64 rear, .int .i64 turn, .int .i64 kilos, .int .i64 mid, .int .i64 high, .sl (ls.map Ld.av) none]]) (bs := []) (cells := []) (by rfl) (by rfl) (by rfl) (by simp [ren_fl]) (by rfl) (by rfl) e1 ?_
  rintro v c' ⟨rfl, rfl⟩
  refine ⟨_, rfl, rfl, ?_⟩
  simp only [List.map_cons, List.map_nil, putA, List.set_cons_zero, List.set_cons_succ, AV.plain, AV.plain1, setAll, List.length_cons, List.length_nil, List.drop_succ_cons, List.drop_zero, List.drop_nil, List.append_nil, Nat.reduceAdd]
  (repeat (first|((first|refine ExO.nil ?_|refine Ex.skip ?_|refine Ex.ret ?_|refine Ex.exit ?_); try dsimp only)|((first|(refine xI ?_; intro _ _)|refine xL ?_|(refine xB ?_; intro _ _)|refine xG ?_|refine xS ?_|refine xM ?_|(refine xC ?_; intro _ _)|refine xW ?_); try simp only [sA])|refine Ex.seq ?_|refine Ex.reg ?_|refine Ex.block ?_|refine eT ?_|refine eF ?_|simp only [reduceCtorEq, AEx.ex.injEq, Nat.reduceEqDiff, if_true, if_false]))
  refine ExO.call (f := 51) (xs := [.agg [.int .i64 len, .int .i64 wid, .int .i64 front, .int .i64 rear, .int .i64 turn, .int .i64 kilos, .int .i64 mid, .int .i64 high, .sl (ls.map Ld.av) none]]) (ys := [.agg [.int .i64 len, .int .i64 wid, .int .i64 front, .int .i64 rear, .int .i64 turn, .int .i64 kilos, .int .i64 mid, .int .i64 high, .sl (ls.map Ld.av) none]]) (bs := []) (cells := []) (by rfl) (by rfl) (by rfl) (by simp [ren_fl]) (by rfl) (by rfl) e2 ?_
  rintro v c' ⟨rfl, rfl⟩
  refine ⟨_, rfl, rfl, ?_⟩
  simp only [List.map_cons, List.map_nil, putA, List.set_cons_zero, List.set_cons_succ, AV.plain, AV.plain1, setAll, List.length_cons, List.length_nil, List.drop_succ_cons, List.drop_zero, List.drop_nil, List.append_nil, Nat.reduceAdd]
  (repeat (first|((first|refine ExO.nil ?_|refine Ex.skip ?_|refine Ex.ret ?_|refine Ex.exit ?_); try dsimp only)|((first|(refine xI ?_; intro _ _)|refine xL ?_|(refine xB ?_; intro _ _)|refine xG ?_|refine xS ?_|refine xM ?_|(refine xC ?_; intro _ _)|refine xW ?_); try simp only [sA])|refine Ex.seq ?_|refine Ex.reg ?_|refine Ex.block ?_|refine eT ?_|refine eF ?_|simp only [reduceCtorEq, AEx.ex.injEq, Nat.reduceEqDiff, if_true, if_false]))
  refine ExO.call (f := 52) (xs := [.agg [.int .i64 len, .int .i64 wid, .int .i64 front, .int .i64 rear, .int .i64 turn, .int .i64 kilos, .int .i64 mid, .int .i64 high, .sl (ls.map Ld.av) none]]) (ys := [.agg [.int .i64 len, .int .i64 wid, .int .i64 front, .int .i64 rear, .int .i64 turn, .int .i64 kilos, .int .i64 mid, .int .i64 high, .sl (ls.map Ld.av) none]]) (bs := []) (cells := []) (by rfl) (by rfl) (by rfl) (by simp [ren_fl]) (by rfl) (by rfl) e3 ?_
  rintro v c' ⟨rfl, rfl⟩
  refine ⟨_, rfl, rfl, ?_⟩
  simp only [List.map_cons, List.map_nil, putA, List.set_cons_zero, List.set_cons_succ, AV.plain, AV.plain1, setAll, List.length_cons, List.length_nil, List.drop_succ_cons, List.drop_zero, List.drop_nil, List.append_nil, Nat.reduceAdd]
  (repeat (first|((first|refine ExO.nil ?_|refine Ex.skip ?_|refine Ex.ret ?_|refine Ex.exit ?_); try dsimp only)|((first|(refine xI ?_; intro _ _)|refine xL ?_|(refine xB ?_; intro _ _)|refine xG ?_|refine xS ?_|refine xM ?_|(refine xC ?_; intro _ _)|refine xW ?_); try simp only [sA])|refine Ex.seq ?_|refine Ex.reg ?_|refine Ex.block ?_|refine eT ?_|refine eF ?_|simp only [reduceCtorEq, AEx.ex.injEq, Nat.reduceEqDiff, if_true, if_false]))
  rename_i n2 hn2
  rw [i64_in (by omega) (by omega)] at hn2
  (refine ExO.call (f := (40)) (xs := ([.ptr 0 0, .int .i64 n2])) (bs := [0]) (cells := ([[.int .u64 b]])) (by rfl) (by rfl) (by rfl) (by rfl) (by rfl) (by rfl) ((roll_m b n2 (by omega))) ?_; rintro v c' ⟨cnt, b0, rfl, rfl, c1, c2, c3⟩; refine ⟨_, rfl, rfl, ?_⟩; simp only [List.map_cons, List.map_nil, putA, List.set_cons_zero, List.set_cons_succ, AV.plain, AV.plain1, setAll, List.length_cons, List.length_nil, List.drop_succ_cons, List.drop_zero, List.drop_nil, List.append_nil, Nat.reduceAdd]; (repeat (first|((first|refine ExO.nil ?_|refine Ex.skip ?_|refine Ex.ret ?_|refine Ex.exit ?_); try dsimp only)|((first|(refine xI ?_; intro _ _)|refine xL ?_|(refine xB ?_; intro _ _)|refine xG ?_|refine xS ?_|refine xM ?_|(refine xC ?_; intro _ _)|refine xW ?_); try simp only [sA])|refine Ex.seq ?_|refine Ex.reg ?_|refine Ex.block ?_|refine eT ?_|refine eF ?_|simp only [reduceCtorEq, AEx.ex.injEq, Nat.reduceEqDiff, if_true, if_false])))
  clear e1 e2 e3
  obtain ⟨FS, hFS0⟩ : ∃ FS : List AV, FS = [.int .i64 F1v, .int .i64 F2v] := ⟨_, rfl⟩
  have hFS : ∀ σ, FS.mapM (re 6 σ) = some FS := fun σ => by rw [hFS0]; rfl
  rw [← hFS0]
  obtain ⟨FB, hFB0⟩ : ∃ FB : List AV, FB = [.int .i64 len, .int .i64 wid, .int .i64 front, .int .i64 rear, .int .i64 turn, .int .i64 kilos, .int .i64 mid, .int .i64 high, .sl (ls.map Ld.av) none] := ⟨_, rfl⟩
  have hFB : ∀ σ, FB.mapM (re 6 σ) = some FB := fun σ => by rw [hFB0]; simp [re, re1, AV.clean, cleanL, clean_lds]
  rw [← hFB0]
  refine Ex.loopF (fun k a S => ∃ (m b : Int) (hs : List Hd) (L : AV) (lv : List (Nat × Nat)), k = m.toNat ∧ 0 ≤ m ∧ (hs.length : Int) + m ≤ n ∧ (∀ h ∈ hs, HOk h) ∧ ((hs = [] ∧ L = .nils ∧ lv = []) ∨ (L = .sl (hs.map Hd.av) (some 0) ∧ lv = [(hs.length, 3)])) ∧ a = [.ptr 0 0, .junk, .junk, .junk, .ptr 1 0, .junk, .junk, .ptr 2 0, .junk, .junk, .ptr 4 0, .junk, .ptr 5 0, .junk, L, .int .i64 m, .junk, .junk, .junk, .junk, .junk, .junk, .junk, .junk, .junk, .junk, .junk, .junk, .junk, .junk, .junk, .junk, .junk, .junk, .junk, .junk, .junk, .junk, .junk, .junk, .junk, .junk, .junk, .junk, .junk, .junk, .junk, .junk, .junk, .junk, .junk, .junk, .junk, .junk, .junk, .junk, .junk, .junk, .junk, .junk, .junk, .junk, .junk, .junk, .junk, .junk, .junk, .junk, .junk, .junk, .junk, .junk, .junk, .junk, .junk, .junk, .junk, .junk, .junk, .junk, .junk, .junk, .junk, .junk, .junk, .junk, .junk, .junk, .junk, .junk, .junk, .junk, .junk, .junk, .junk, .junk, .junk, .junk, .junk, .junk, .junk, .junk, .junk] ∧ S = ⟨[[.int .u64 b], FB, [.int .i64 T1v, .int .i64 T2v], FS, [.int .i64 R1v, .int .i64 R2v], [.int .i64 H1v, .int .i64 H2v]], lv⟩) cnt.toNat ?_ ?_
  · exact ⟨_, _, forgets 6 [] ([true, false, false, false, true, false, false, true, false, false, true, false, true, false, true, true, false, false, false, false, false, false, false, false, false, false, false, false, false, false, false, false, false, false, false, false, false, false, false, false, false, false, false, false, false, false, false, false, false, false, false, false, false, false, false, false, false, false, false, false, false, false, false, false, false, false, false, false, false, false, false, false, false, false, false, false, false, false, false, false, false, false, false, false, false, false, false, false, false, false, false, false, false, false, false, false, false, false, false, false, false, false, false]) (by decide) (by simp) (bx2 := [[.int .u64 b0], FB, [.int .i64 T1v, .int .i64 T2v], FS, [.int .i64 R1v, .int .i64 R2v], [.int .i64 H1v, .int .i64 H2v]]) (by simp [re, re1, AV.clean, cleanL, hFB, hFS]) (by rfl) (by decide), cnt, b0, [], .nils, [], rfl, by omega, by simp; omega, by simp, .inl ⟨rfl, rfl, rfl⟩, by rfl, by rfl⟩
  · rintro k a S ⟨m, b, hs, L, lv, rfl, hm0, hcnt, hall2, hL, rfl, rfl⟩
    (repeat (first|((first|refine ExO.nil ?_|refine Ex.skip ?_|refine Ex.ret ?_|refine Ex.exit ?_); try dsimp only)|((first|(refine xI ?_; intro _ _)|refine xL ?_|(refine xB ?_; intro _ _)|refine xG ?_|refine xS ?_|refine xM ?_|(refine xC ?_; intro _ _)|refine xW ?_); try simp only [sA])|refine Ex.seq ?_|refine Ex.reg ?_|refine Ex.block ?_|refine eT ?_|refine eF ?_|simp only [reduceCtorEq, AEx.ex.injEq, Nat.reduceEqDiff, if_true, if_false]))
    rename_i c hc
    cases c
    · rcases hL with ⟨rfl, rfl, rfl⟩ | ⟨rfl, rfl⟩
      · refine Ex.forget (fade ([false, false, false, false, false, false, false, false, false, false, false, false, false, false, true, false, false, false, false, false, false, false, false, false, false, false, false, false, false, false, false, false, false, false, false, false, false, false, false, false, false, false, false, false, false, false, false, false, false, false, false, false, false, false, false, false, false, false, false, false, false, false, false, false, false, false, false, false, false, false, false, false, false, false, false, false, false, false, false, false, false, false, false, false, false, false, false, false, false, false, false, false, false, false, false, false, false, false, false, false, false, false, false]) []) ?_
        dsimp only [chillL, chillB, fadeS, fadeV, Bool.false_eq_true, if_false, if_true]
        (refine Ex.cond (b := false) (by first | rfl | simp [evd]) ?_; simp only [Bool.false_eq_true, if_false])
        (repeat (first|((first|refine ExO.nil ?_|refine Ex.skip ?_|refine Ex.ret ?_|refine Ex.exit ?_); try dsimp only)|((first|(refine xI ?_; intro _ _)|refine xL ?_|(refine xB ?_; intro _ _)|refine xG ?_|refine xS ?_|refine xM ?_|(refine xC ?_; intro _ _)|refine xW ?_); try simp only [sA])|refine Ex.seq ?_|refine Ex.reg ?_|refine Ex.block ?_|refine eT ?_|refine eF ?_|simp only [reduceCtorEq, AEx.ex.injEq, Nat.reduceEqDiff, if_true, if_false]))
        exact ⟨by simp, _, rfl, by simp [AV.names, one], [], b, rfl, by simp [AV.names, one], hall2, by simp; omega⟩
      · refine Ex.forget (fade ([false, false, false, false, false, false, false, false, false, false, false, false, false, false, true, false, false, false, false, false, false, false, false, false, false, false, false, false, false, false, false, false, false, false, false, false, false, false, false, false, false, false, false, false, false, false, false, false, false, false, false, false, false, false, false, false, false, false, false, false, false, false, false, false, false, false, false, false, false, false, false, false, false, false, false, false, false, false, false, false, false, false, false, false, false, false, false, false, false, false, false, false, false, false, false, false, false, false, false, false, false, false, false]) []) ?_
        dsimp only [chillL, chillB, fadeS, fadeV, Bool.false_eq_true, if_false, if_true]
        (refine Ex.cond (b := false) (by first | rfl | simp [evd]) ?_; simp only [Bool.false_eq_true, if_false])
        (repeat (first|((first|refine ExO.nil ?_|refine Ex.skip ?_|refine Ex.ret ?_|refine Ex.exit ?_); try dsimp only)|((first|(refine xI ?_; intro _ _)|refine xL ?_|(refine xB ?_; intro _ _)|refine xG ?_|refine xS ?_|refine xM ?_|(refine xC ?_; intro _ _)|refine xW ?_); try simp only [sA])|refine Ex.seq ?_|refine Ex.reg ?_|refine Ex.block ?_|refine eT ?_|refine eF ?_|simp only [reduceCtorEq, AEx.ex.injEq, Nat.reduceEqDiff, if_true, if_false]))
        exact ⟨by simp, _, rfl, by simp [AV.names, one], hs, b, rfl, by simp [AV.names, one], hall2, by omega⟩
    · (refine Ex.cond (b := true) (by first | rfl | simp [evd]) ?_; simp only [if_true])
      have hmp : 0 < m := by have := hc.symm; simpa using this
      rcases hL with ⟨rfl, rfl, rfl⟩ | ⟨rfl, rfl⟩
      · (repeat (first|((first|refine ExO.nil ?_|refine Ex.skip ?_|refine Ex.ret ?_|refine Ex.exit ?_); try dsimp only)|((first|(refine xI ?_; intro _ _)|refine xL ?_|(refine xB ?_; intro _ _)|refine xG ?_|refine xS ?_|refine xM ?_|(refine xC ?_; intro _ _)|refine xW ?_); try simp only [sA])|refine Ex.seq ?_|refine Ex.reg ?_|refine Ex.block ?_|refine eT ?_|refine eF ?_|simp only [reduceCtorEq, AEx.ex.injEq, Nat.reduceEqDiff, if_true, if_false]))
        (refine ExO.call (f := (41)) (xs := ([.ptr 0 0, .int .i64 1, .int .i64 3])) (bs := [0]) (cells := ([[.int .u64 b]])) (by rfl) (by rfl) (by rfl) (by rfl) (by rfl) (by rfl) ((mid_m b 1 3 (by omega) (by omega) (by omega) (by omega))) ?_; rintro v c' ⟨kind, b1, rfl, rfl, k1, k2, k3⟩; refine ⟨_, rfl, rfl, ?_⟩; simp only [List.map_cons, List.map_nil, putA, List.set_cons_zero, List.set_cons_succ, AV.plain, AV.plain1, setAll, List.length_cons, List.length_nil, List.drop_succ_cons, List.drop_zero, List.drop_nil, List.append_nil, Nat.reduceAdd]; (repeat (first|((first|refine ExO.nil ?_|refine Ex.skip ?_|refine Ex.ret ?_|refine Ex.exit ?_); try dsimp only)|((first|(refine xI ?_; intro _ _)|refine xL ?_|(refine xB ?_; intro _ _)|refine xG ?_|refine xS ?_|refine xM ?_|(refine xC ?_; intro _ _)|refine xW ?_); try simp only [sA])|refine Ex.seq ?_|refine Ex.reg ?_|refine Ex.block ?_|refine eT ?_|refine eF ?_|simp only [reduceCtorEq, AEx.ex.injEq, Nat.reduceEqDiff, if_true, if_false])))
        rename_i c2 hc2
        cases c2
        · (refine Ex.cond (b := false) (by first | rfl | simp [evd]) ?_; simp only [Bool.false_eq_true, if_false])
          (repeat (first|((first|refine ExO.nil ?_|refine Ex.skip ?_|refine Ex.ret ?_|refine Ex.exit ?_); try dsimp only)|((first|(refine xI ?_; intro _ _)|refine xL ?_|(refine xB ?_; intro _ _)|refine xG ?_|refine xS ?_|refine xM ?_|(refine xC ?_; intro _ _)|refine xW ?_); try simp only [sA])|refine Ex.seq ?_|refine Ex.reg ?_|refine Ex.block ?_|refine eT ?_|refine eF ?_|simp only [reduceCtorEq, AEx.ex.injEq, Nat.reduceEqDiff, if_true, if_false]))
          rename_i c3 hc3
          cases c3
          · have hk1 : kind ≠ 1 := by have := hc2.symm; simpa using this
            have hk2 : kind ≠ 2 := by have := hc3.symm; simpa using this
            have hk3 := k2 (by decide)
            obtain rfl : kind = 3 := by omega
            (refine Ex.cond (b := false) (by first | rfl | simp [evd]) ?_; simp only [Bool.false_eq_true, if_false])
            (repeat (first|((first|refine ExO.nil ?_|refine Ex.skip ?_|refine Ex.ret ?_|refine Ex.exit ?_); try dsimp only)|((first|(refine xI ?_; intro _ _)|refine xL ?_|(refine xB ?_; intro _ _)|refine xG ?_|refine xS ?_|refine xM ?_|(refine xC ?_; intro _ _)|refine xW ?_); try simp only [sA])|refine Ex.seq ?_|refine Ex.reg ?_|refine Ex.block ?_|refine eT ?_|refine eF ?_|simp only [reduceCtorEq, AEx.ex.injEq, Nat.reduceEqDiff, if_true, if_false]))
            obtain ⟨q1, b2, o1, p1, p2⟩ := of_o5 b1 T1v T2v (by omega) (by omega) (by omega) (by omega)
            obtain ⟨d1, b3, o2, p3⟩ := any_o b2 [-1, 0, 1, 300] (by simp) (by simp)
            have p3' : d1 = -1 ∨ d1 = 0 ∨ d1 = 1 ∨ d1 = 300 := by simpa using p3
            obtain ⟨q2, b4, o3, p4, p5⟩ := of_o5 b3 R1v R2v (by omega) (by omega) (by omega) (by omega)
            obtain ⟨d2, b5, o4, p6⟩ := any_o b4 [-1, 0, 1] (by simp) (by simp)
            have p6' : d2 = -1 ∨ d2 = 0 ∨ d2 = 1 := by simpa using p6
            obtain ⟨q3, b6, o5, p7⟩ := any_o b5 [T2v, q2 + d2] (by simp) (by simp)
            have p7' : q3 = T2v ∨ q3 = q2 + d2 := by simpa using p7
            have wx1 : IntKind.i64.wrap (q1 + d1) = q1 + d1 := i64_in (by omega) (by omega)
            have wx2 : IntKind.i64.wrap (q2 + d2) = q2 + d2 := i64_in (by omega) (by omega)
            obtain ⟨y1, hy1⟩ : ∃ y, (if 0 < q1 + d1 then q1 + d1 else 0) = y := ⟨_, rfl⟩
            obtain ⟨y2, hy2⟩ : ∃ y, (if 0 < q3 then q3 else 0) = y := ⟨_, rfl⟩
            have by1 : 0 ≤ y1 ∧ y1 ≤ 10000000 := by rw [← hy1]; split <;> omega
            have by2 : 0 ≤ y2 ∧ y2 ≤ 10000000 := by rw [← hy2]; split <;> omega
            apply Ex.drawE T5_ok [] [(4, 1), (3, 1), (2, 1)] [⟨[[.int .u64 b2], FB, [.int .i64 T1v, .int .i64 T2v], FS, [.int .i64 R1v, .int .i64 R2v], [.int .i64 H1v, .int .i64 H2v], [.int .i64 3, .int .i64 0, .int .i64 0]], [(4, 1), (3, 1), (2, 1)]⟩, ⟨[[.int .u64 b3], FB, [.int .i64 T1v, .int .i64 T2v], FS, [.int .i64 R1v, .int .i64 R2v], [.int .i64 H1v, .int .i64 H2v], [.int .i64 3, .int .i64 0, .int .i64 0]], [(4, 1), (3, 1), (2, 1)]⟩, ⟨[[.int .u64 b4], FB, [.int .i64 T1v, .int .i64 T2v], FS, [.int .i64 R1v, .int .i64 R2v], [.int .i64 H1v, .int .i64 H2v], [.int .i64 3, .int .i64 0, .int .i64 0]], [(4, 1), (3, 1), (2, 1)]⟩, ⟨[[.int .u64 b5], FB, [.int .i64 T1v, .int .i64 T2v], FS, [.int .i64 R1v, .int .i64 R2v], [.int .i64 H1v, .int .i64 H2v], [.int .i64 3, .int .i64 0, .int .i64 0]], [(4, 1), (3, 1), (2, 1)]⟩, ⟨[[.int .u64 b6], FB, [.int .i64 T1v, .int .i64 T2v], FS, [.int .i64 R1v, .int .i64 R2v], [.int .i64 H1v, .int .i64 H2v], [.int .i64 3, .int .i64 0, .int .i64 0]], [(4, 1), (3, 1), (2, 1)]⟩, ⟨[[.int .u64 b6], FB, [.int .i64 T1v, .int .i64 T2v], FS, [.int .i64 R1v, .int .i64 R2v], [.int .i64 H1v, .int .i64 H2v], [.int .i64 3, .int .i64 y1, .int .i64 0]], [(4, 1), (3, 1), (2, 1)]⟩]
            case hD =>
              simp only [List.take_succ_cons, List.take_zero, List.append_nil, List.nil_append, List.cons_append]
              (apply DrO.pure; (case hw => rfl); (case hd => rfl); (case hv => (simp only [List.mem_cons, List.not_mem_nil, or_false, forall_eq_or_imp, forall_eq]; simp [vA, fRes_eq]; first | done | exact ⟨⟨rfl, rfl⟩, rfl⟩ | exact ⟨rfl, rfl⟩ | exact rfl | (refine ⟨rfl, ?_⟩; first | done | rfl | simp))); (try simp only [sA]))
              (apply DrO.pure; (case hw => rfl); (case hd => rfl); (case hv => (simp only [List.mem_cons, List.not_mem_nil, or_false, forall_eq_or_imp, forall_eq]; simp [vA, fRes_eq]; first | done | exact ⟨⟨rfl, rfl⟩, rfl⟩ | exact ⟨rfl, rfl⟩ | exact rfl | (refine ⟨rfl, ?_⟩; first | done | rfl | simp))); (try simp only [sA]))
              apply DrO.eff (.int .i64 q1) (⟨[[.int .u64 b1], FB, [.int .i64 T1v, .int .i64 T2v], FS, [.int .i64 R1v, .int .i64 R2v], [.int .i64 H1v, .int .i64 H2v], [.int .i64 3, .int .i64 0, .int .i64 0]], [(4, 1), (3, 1), (2, 1)]⟩) (⟨[[.int .u64 b2], FB, [.int .i64 T1v, .int .i64 T2v], FS, [.int .i64 R1v, .int .i64 R2v], [.int .i64 H1v, .int .i64 H2v], [.int .i64 3, .int .i64 0, .int .i64 0]], [(4, 1), (3, 1), (2, 1)]⟩) rfl rfl rfl rfl rfl (by rw [evOp_call (f := 35) (xs := [.ptr 0 0, .agg [.int .i64 T1v, .int .i64 T2v]]) rfl]; exact drum_callT rfl rfl o1)
              simp only [putA, List.set_cons_zero, List.set_cons_succ]
              (apply DrO.pure; (case hw => rfl); (case hd => rfl); (case hv => (simp only [List.mem_cons, List.not_mem_nil, or_false, forall_eq_or_imp, forall_eq]; simp [vA, fRes_eq]; first | done | exact ⟨⟨rfl, rfl⟩, rfl⟩ | exact ⟨rfl, rfl⟩ | exact rfl | (refine ⟨rfl, ?_⟩; first | done | rfl | simp))); (try simp only [sA]))
              apply DrO.row 0 1 [.int .i64 (-1), .int .i64 0, .int .i64 1, .int .i64 300] rfl rfl (fun st _ => rfl) (by simp) (by simp) (by simp)
              simp only [putA, List.set_cons_zero, List.set_cons_succ]
              apply DrO.eff (.int .i64 d1) (⟨[[.int .u64 b2], FB, [.int .i64 T1v, .int .i64 T2v], FS, [.int .i64 R1v, .int .i64 R2v], [.int .i64 H1v, .int .i64 H2v], [.int .i64 3, .int .i64 0, .int .i64 0]], [(4, 1), (3, 1), (2, 1)]⟩) (⟨[[.int .u64 b3], FB, [.int .i64 T1v, .int .i64 T2v], FS, [.int .i64 R1v, .int .i64 R2v], [.int .i64 H1v, .int .i64 H2v], [.int .i64 3, .int .i64 0, .int .i64 0]], [(4, 1), (3, 1), (2, 1)]⟩) rfl rfl rfl rfl rfl (by rw [evOp_call (f := 39) (xs := [.ptr 0 0, .sl [.int .i64 (-1), .int .i64 0, .int .i64 1, .int .i64 300] (some 0)]) rfl]; exact drum_callT rfl rfl o2)
              simp only [putA, List.set_cons_zero, List.set_cons_succ]
              (apply DrO.pure; (case hw => rfl); (case hd => rfl); (case hv => (simp only [List.mem_cons, List.not_mem_nil, or_false, forall_eq_or_imp, forall_eq]; simp [vA, fRes_eq, wx1]; first | done | exact ⟨⟨rfl, rfl⟩, rfl⟩ | exact ⟨rfl, rfl⟩ | exact rfl | (refine ⟨rfl, ?_⟩; first | done | rfl | simp))); (try simp only [sA]))
              (apply DrO.pure; (case hw => rfl); (case hd => rfl); (case hv => (simp only [List.mem_cons, List.not_mem_nil, or_false, forall_eq_or_imp, forall_eq]; simp [vA, fRes_eq, hy1]; first | done | exact ⟨⟨rfl, rfl⟩, rfl⟩ | exact ⟨rfl, rfl⟩ | exact rfl | (refine ⟨rfl, ?_⟩; first | done | rfl | simp))); (try simp only [sA]))
              (apply DrO.pure; (case hw => rfl); (case hd => rfl); (case hv => (simp only [List.mem_cons, List.not_mem_nil, or_false, forall_eq_or_imp, forall_eq]; simp [vA, fRes_eq]; first | done | exact ⟨⟨rfl, rfl⟩, rfl⟩ | exact ⟨rfl, rfl⟩ | exact rfl | (refine ⟨rfl, ?_⟩; first | done | rfl | simp))); (try simp only [sA]))
              (apply DrO.pure; (case hw => rfl); (case hd => rfl); (case hv => (simp only [List.mem_cons, List.not_mem_nil, or_false, forall_eq_or_imp, forall_eq]; simp [vA, fRes_eq]; first | done | exact ⟨⟨rfl, rfl⟩, rfl⟩ | exact ⟨rfl, rfl⟩ | exact rfl | (refine ⟨rfl, ?_⟩; first | done | rfl | simp))); (try simp only [sA]))
              (apply DrO.pure; (case hw => rfl); (case hd => rfl); (case hv => (simp only [List.mem_cons, List.not_mem_nil, or_false, forall_eq_or_imp, forall_eq]; simp [vA, fRes_eq]; first | done | exact ⟨⟨rfl, rfl⟩, rfl⟩ | exact ⟨rfl, rfl⟩ | exact rfl | (refine ⟨rfl, ?_⟩; first | done | rfl | simp))); (try simp only [sA]))
              (apply DrO.pure; (case hw => rfl); (case hd => rfl); (case hv => (simp only [List.mem_cons, List.not_mem_nil, or_false, forall_eq_or_imp, forall_eq]; simp [vA, fRes_eq]; first | done | exact ⟨⟨rfl, rfl⟩, rfl⟩ | exact ⟨rfl, rfl⟩ | exact rfl | (refine ⟨rfl, ?_⟩; first | done | rfl | simp))); (try simp only [sA]))
              (apply DrO.pure; (case hw => rfl); (case hd => rfl); (case hv => (simp only [List.mem_cons, List.not_mem_nil, or_false, forall_eq_or_imp, forall_eq]; simp [vA, fRes_eq]; first | done | exact ⟨⟨rfl, rfl⟩, rfl⟩ | exact ⟨rfl, rfl⟩ | exact rfl | (refine ⟨rfl, ?_⟩; first | done | rfl | simp))); (try simp only [sA]))
              apply DrO.eff (.int .i64 q2) (⟨[[.int .u64 b3], FB, [.int .i64 T1v, .int .i64 T2v], FS, [.int .i64 R1v, .int .i64 R2v], [.int .i64 H1v, .int .i64 H2v], [.int .i64 3, .int .i64 0, .int .i64 0]], [(4, 1), (3, 1), (2, 1)]⟩) (⟨[[.int .u64 b4], FB, [.int .i64 T1v, .int .i64 T2v], FS, [.int .i64 R1v, .int .i64 R2v], [.int .i64 H1v, .int .i64 H2v], [.int .i64 3, .int .i64 0, .int .i64 0]], [(4, 1), (3, 1), (2, 1)]⟩) rfl rfl rfl rfl rfl (by rw [evOp_call (f := 35) (xs := [.ptr 0 0, .agg [.int .i64 R1v, .int .i64 R2v]]) rfl]; exact drum_callT rfl rfl o3)
              simp only [putA, List.set_cons_zero, List.set_cons_succ]
              (apply DrO.pure; (case hw => rfl); (case hd => rfl); (case hv => (simp only [List.mem_cons, List.not_mem_nil, or_false, forall_eq_or_imp, forall_eq]; simp [vA, fRes_eq]; first | done | exact ⟨⟨rfl, rfl⟩, rfl⟩ | exact ⟨rfl, rfl⟩ | exact rfl | (refine ⟨rfl, ?_⟩; first | done | rfl | simp))); (try simp only [sA]))
              apply DrO.row 1 1 [.int .i64 (-1), .int .i64 0, .int .i64 1] rfl rfl (fun st _ => rfl) (by simp) (by simp) (by simp)
              simp only [putA, List.set_cons_zero, List.set_cons_succ]
              apply DrO.eff (.int .i64 d2) (⟨[[.int .u64 b4], FB, [.int .i64 T1v, .int .i64 T2v], FS, [.int .i64 R1v, .int .i64 R2v], [.int .i64 H1v, .int .i64 H2v], [.int .i64 3, .int .i64 0, .int .i64 0]], [(4, 1), (3, 1), (2, 1)]⟩) (⟨[[.int .u64 b5], FB, [.int .i64 T1v, .int .i64 T2v], FS, [.int .i64 R1v, .int .i64 R2v], [.int .i64 H1v, .int .i64 H2v], [.int .i64 3, .int .i64 0, .int .i64 0]], [(4, 1), (3, 1), (2, 1)]⟩) rfl rfl rfl rfl rfl (by rw [evOp_call (f := 39) (xs := [.ptr 0 0, .sl [.int .i64 (-1), .int .i64 0, .int .i64 1] (some 1)]) rfl]; exact drum_callT rfl rfl o4)
              simp only [putA, List.set_cons_zero, List.set_cons_succ]
              (apply DrO.pure; (case hw => rfl); (case hd => rfl); (case hv => (simp only [List.mem_cons, List.not_mem_nil, or_false, forall_eq_or_imp, forall_eq]; simp [vA, fRes_eq, wx2]; first | done | exact ⟨⟨rfl, rfl⟩, rfl⟩ | exact ⟨rfl, rfl⟩ | exact rfl | (refine ⟨rfl, ?_⟩; first | done | rfl | simp))); (try simp only [sA]))
              apply DrO.row 2 1 [.int .i64 T2v, .int .i64 (q2 + d2)] rfl rfl (fun st _ => rfl) (by simp) (by simp) (by simp)
              simp only [putA, List.set_cons_zero, List.set_cons_succ]
              apply DrO.eff (.int .i64 q3) (⟨[[.int .u64 b5], FB, [.int .i64 T1v, .int .i64 T2v], FS, [.int .i64 R1v, .int .i64 R2v], [.int .i64 H1v, .int .i64 H2v], [.int .i64 3, .int .i64 0, .int .i64 0]], [(4, 1), (3, 1), (2, 1)]⟩) (⟨[[.int .u64 b6], FB, [.int .i64 T1v, .int .i64 T2v], FS, [.int .i64 R1v, .int .i64 R2v], [.int .i64 H1v, .int .i64 H2v], [.int .i64 3, .int .i64 0, .int .i64 0]], [(4, 1), (3, 1), (2, 1)]⟩) rfl rfl rfl rfl rfl (by rw [evOp_call (f := 39) (xs := [.ptr 0 0, .sl [.int .i64 T2v, .int .i64 (q2 + d2)] (some 2)]) rfl]; exact drum_callT rfl rfl o5)
              simp only [putA, List.set_cons_zero, List.set_cons_succ]
              (apply DrO.pure; (case hw => rfl); (case hd => rfl); (case hv => (simp only [List.mem_cons, List.not_mem_nil, or_false, forall_eq_or_imp, forall_eq]; simp [vA, fRes_eq, hy2]; first | done | exact ⟨⟨rfl, rfl⟩, rfl⟩ | exact ⟨rfl, rfl⟩ | exact rfl | (refine ⟨rfl, ?_⟩; first | done | rfl | simp))); (try simp only [sA]))
              (apply DrO.pure; (case hw => rfl); (case hd => rfl); (case hv => (simp only [List.mem_cons, List.not_mem_nil, or_false, forall_eq_or_imp, forall_eq]; simp [vA, fRes_eq]; first | done | exact ⟨⟨rfl, rfl⟩, rfl⟩ | exact ⟨rfl, rfl⟩ | exact rfl | (refine ⟨rfl, ?_⟩; first | done | rfl | simp))); (try simp only [sA]))
              (apply DrO.eff; (case hw => rfl); (case hd => rfl); (case hl => rfl); (case hs => rfl); (case hs' => rfl); (case hv => (simp [vA, fRes_eq]; first|done|exact ⟨⟨rfl,rfl⟩,rfl⟩|exact ⟨rfl,rfl⟩|exact rfl)); (try simp only [sA]))
              exact DrO.nil rfl
            simp only [List.drop_succ_cons, List.drop_zero, List.getLastD_cons, List.getLastD_nil, List.append_nil, List.cons_append, List.nil_append]
            (repeat (first|((first|refine ExO.nil ?_|refine Ex.skip ?_|refine Ex.ret ?_|refine Ex.exit ?_); try dsimp only)|((first|(refine xI ?_; intro _ _)|refine xL ?_|(refine xB ?_; intro _ _)|refine xG ?_|refine xS ?_|refine xM ?_|(refine xC ?_; intro _ _)|refine xW ?_); try simp only [sA])|refine Ex.seq ?_|refine Ex.reg ?_|refine Ex.block ?_|refine eT ?_|refine eF ?_|simp only [reduceCtorEq, AEx.ex.injEq, Nat.reduceEqDiff, if_true, if_false]))
            rename_i m3 hm3
            rw [i64_in (by omega) (by omega)] at hm3
            refine ⟨_, _, forgets 6 [4] ([true, false, false, false, true, false, false, true, false, false, true, false, true, false, true, true, false, false, false, false, false, false, false, false, false, false, false, false, false, false, false, false, false, false, false, false, false, false, false, false, false, false, false, false, false, false, false, false, false, false, false, false, false, false, false, false, false, false, false, false, false, false, false, false, false, false, false, false, false, false, false, false, false, false, false, false, false, false, false, false, false, false, false, false, false, false, false, false, false, false, false, false, false, false, false, false, false, false, false, false, false, false, false]) (by decide) (by simp) (bx2 := [[.int .u64 b6], FB, [.int .i64 T1v, .int .i64 T2v], FS, [.int .i64 R1v, .int .i64 R2v], [.int .i64 H1v, .int .i64 H2v]]) (by simp [re, re1, AV.clean, cleanL, hFB, hFS]) (lv2 := [(1, 3)]) (by simp) (by decide), m3.toNat, by omega, m3, b6, [⟨3, y1, y2⟩], _, _, rfl, by omega, by simp at hcnt ⊢; omega, ?_, .inr ⟨rfl, rfl⟩, ?_, by simp⟩
            · intro h hh
              simp only [List.mem_singleton] at hh
              subst hh
              exact .inr (.inr ⟨rfl, by show 0 ≤ y1; omega, by show y1 ≤ 10000000; omega, by show 0 ≤ y2; omega, by show y2 ≤ 10000000; omega⟩)
            · simp [keepS, re, re1, AV.clean, cleanL, clean_hds, cleanL_append, Hd.av, List.idxOf?, List.findIdx?, List.findIdx?.go]
          · obtain rfl : kind = 2 := by have := hc3.symm; simpa using this
            (refine Ex.cond (b := true) (by first | rfl | simp [evd]) ?_; simp only [if_true])
            (repeat (first|((first|refine ExO.nil ?_|refine Ex.skip ?_|refine Ex.ret ?_|refine Ex.exit ?_); try dsimp only)|((first|(refine xI ?_; intro _ _)|refine xL ?_|(refine xB ?_; intro _ _)|refine xG ?_|refine xS ?_|refine xM ?_|(refine xC ?_; intro _ _)|refine xW ?_); try simp only [sA])|refine Ex.seq ?_|refine Ex.reg ?_|refine Ex.block ?_|refine eT ?_|refine eF ?_|simp only [reduceCtorEq, AEx.ex.injEq, Nat.reduceEqDiff, if_true, if_false]))
            (refine ExO.call (f := (35)) (xs := ([.ptr 0 0, .agg [.int .i64 H1v, .int .i64 H2v]])) (bs := [0]) (cells := ([[.int .u64 b1]])) (by rfl) (by rfl) (by rfl) (by rfl) (by rfl) (by rfl) (((Meets.does (ofw_f b1 H1v H2v (by omega) (by omega) (by omega) (by omega))))) ?_; rintro v c' ⟨q, b2, rfl, rfl, q1, q2⟩; refine ⟨_, rfl, rfl, ?_⟩; simp only [List.map_cons, List.map_nil, putA, List.set_cons_zero, List.set_cons_succ, AV.plain, AV.plain1, setAll, List.length_cons, List.length_nil, List.drop_succ_cons, List.drop_zero, List.drop_nil, List.append_nil, Nat.reduceAdd]; (repeat (first|((first|refine ExO.nil ?_|refine Ex.skip ?_|refine Ex.ret ?_|refine Ex.exit ?_); try dsimp only)|((first|(refine xI ?_; intro _ _)|refine xL ?_|(refine xB ?_; intro _ _)|refine xG ?_|refine xS ?_|refine xM ?_|(refine xC ?_; intro _ _)|refine xW ?_); try simp only [sA])|refine Ex.seq ?_|refine Ex.reg ?_|refine Ex.block ?_|refine eT ?_|refine eF ?_|simp only [reduceCtorEq, AEx.ex.injEq, Nat.reduceEqDiff, if_true, if_false])))
            (refine ExO.call (f := (39)) (xs := ([.ptr 0 0, .sl [.int .i64 (-1), .int .i64 0, .int .i64 1, .int .i64 50] (some 0)])) (bs := [0]) (cells := ([[.int .u64 b2]])) (by rfl) (by rfl) (by rfl) (by rfl) (by rfl) (by rfl) ((any_m b2 [-1, 0, 1, 50] (by simp) (by simp))) ?_; rintro v c' ⟨d, b3, rfl, rfl, hd⟩; refine ⟨_, rfl, rfl, ?_⟩; simp only [List.map_cons, List.map_nil, putA, List.set_cons_zero, List.set_cons_succ, AV.plain, AV.plain1, setAll, List.length_cons, List.length_nil, List.drop_succ_cons, List.drop_zero, List.drop_nil, List.append_nil, Nat.reduceAdd]; (repeat (first|((first|refine ExO.nil ?_|refine Ex.skip ?_|refine Ex.ret ?_|refine Ex.exit ?_); try dsimp only)|((first|(refine xI ?_; intro _ _)|refine xL ?_|(refine xB ?_; intro _ _)|refine xG ?_|refine xS ?_|refine xM ?_|(refine xC ?_; intro _ _)|refine xW ?_); try simp only [sA])|refine Ex.seq ?_|refine Ex.reg ?_|refine Ex.block ?_|refine eT ?_|refine eF ?_|simp only [reduceCtorEq, AEx.ex.injEq, Nat.reduceEqDiff, if_true, if_false])))
            have hd3 : d = -1 ∨ d = 0 ∨ d = 1 ∨ d = 50 := by simpa using hd
            clear hd
            (repeat (first|((first|refine ExO.nil ?_|refine Ex.skip ?_|refine Ex.ret ?_|refine Ex.exit ?_); try dsimp only)|((first|(refine xI ?_; intro _ _)|refine xL ?_|(refine xB ?_; intro _ _)|refine xG ?_|refine xS ?_|refine xM ?_|(refine xC ?_; intro _ _)|refine xW ?_); try simp only [sA])|refine Ex.seq ?_|refine Ex.reg ?_|refine Ex.block ?_|refine eT ?_|refine eF ?_|simp only [reduceCtorEq, AEx.ex.injEq, Nat.reduceEqDiff, if_true, if_false]))
            rename_i x hx y hy z hz m3 hm3
            rw [i64_in (by omega) (by omega)] at hx
            have hz' : 0 ≤ z ∧ z ≤ 2000 := by
              split at hy <;> split at hz <;> omega
            clear hy hz
            rw [i64_in (by omega) (by omega)] at hm3
            refine ⟨_, _, forgets 6 [2] ([true, false, false, false, true, false, false, true, false, false, true, false, true, false, true, true, false, false, false, false, false, false, false, false, false, false, false, false, false, false, false, false, false, false, false, false, false, false, false, false, false, false, false, false, false, false, false, false, false, false, false, false, false, false, false, false, false, false, false, false, false, false, false, false, false, false, false, false, false, false, false, false, false, false, false, false, false, false, false, false, false, false, false, false, false, false, false, false, false, false, false, false, false, false, false, false, false, false, false, false, false, false, false]) (by decide) (by simp) (bx2 := [[.int .u64 b3], FB, [.int .i64 T1v, .int .i64 T2v], FS, [.int .i64 R1v, .int .i64 R2v], [.int .i64 H1v, .int .i64 H2v]]) (by simp [re, re1, AV.clean, cleanL, hFB, hFS]) (lv2 := [(1, 3)]) (by simp) (by decide), m3.toNat, by omega, m3, b3, [⟨2, z, 0⟩], _, _, rfl, by omega, by simp at hcnt ⊢; omega, ?_, .inr ⟨rfl, rfl⟩, ?_, by simp⟩
            · intro h hh
              simp only [List.mem_singleton] at hh
              subst hh
              exact .inr (.inl ⟨rfl, by show 0 ≤ z; omega, by show z ≤ 2000; omega, rfl⟩)
            · simp [keepS, re, re1, AV.clean, cleanL, clean_hds, cleanL_append, Hd.av, List.idxOf?, List.findIdx?, List.findIdx?.go]
        · obtain rfl : kind = 1 := by have := hc2.symm; simpa using this
          (refine Ex.cond (b := true) (by first | rfl | simp [evd]) ?_; simp only [if_true])
          (repeat (first|((first|refine ExO.nil ?_|refine Ex.skip ?_|refine Ex.ret ?_|refine Ex.exit ?_); try dsimp only)|((first|(refine xI ?_; intro _ _)|refine xL ?_|(refine xB ?_; intro _ _)|refine xG ?_|refine xS ?_|refine xM ?_|(refine xC ?_; intro _ _)|refine xW ?_); try simp only [sA])|refine Ex.seq ?_|refine Ex.reg ?_|refine Ex.block ?_|refine eT ?_|refine eF ?_|simp only [reduceCtorEq, AEx.ex.injEq, Nat.reduceEqDiff, if_true, if_false]))
          (refine ExO.call (f := (40)) (xs := ([.ptr 0 0, .int .i64 2000])) (bs := [0]) (cells := ([[.int .u64 b1]])) (by rfl) (by rfl) (by rfl) (by rfl) (by rfl) (by rfl) ((roll_m b1 2000 (by omega))) ?_; rintro v c' ⟨r1, b2, rfl, rfl, r11, r12, r13⟩; refine ⟨_, rfl, rfl, ?_⟩; simp only [List.map_cons, List.map_nil, putA, List.set_cons_zero, List.set_cons_succ, AV.plain, AV.plain1, setAll, List.length_cons, List.length_nil, List.drop_succ_cons, List.drop_zero, List.drop_nil, List.append_nil, Nat.reduceAdd]; (repeat (first|((first|refine ExO.nil ?_|refine Ex.skip ?_|refine Ex.ret ?_|refine Ex.exit ?_); try dsimp only)|((first|(refine xI ?_; intro _ _)|refine xL ?_|(refine xB ?_; intro _ _)|refine xG ?_|refine xS ?_|refine xM ?_|(refine xC ?_; intro _ _)|refine xW ?_); try simp only [sA])|refine Ex.seq ?_|refine Ex.reg ?_|refine Ex.block ?_|refine eT ?_|refine eF ?_|simp only [reduceCtorEq, AEx.ex.injEq, Nat.reduceEqDiff, if_true, if_false])))
          (refine ExO.call (f := (39)) (xs := ([.ptr 0 0, .sl [.int .i64 0, .int .i64 r1] (some 0)])) (bs := [0]) (cells := ([[.int .u64 b2]])) (by rfl) (by rfl) (by rfl) (by rfl) (by rfl) (by rfl) ((any2_m b2 0 r1)) ?_; rintro v c' ⟨a, b3, rfl, rfl, ha⟩; refine ⟨_, rfl, rfl, ?_⟩; simp only [List.map_cons, List.map_nil, putA, List.set_cons_zero, List.set_cons_succ, AV.plain, AV.plain1, setAll, List.length_cons, List.length_nil, List.drop_succ_cons, List.drop_zero, List.drop_nil, List.append_nil, Nat.reduceAdd]; (repeat (first|((first|refine ExO.nil ?_|refine Ex.skip ?_|refine Ex.ret ?_|refine Ex.exit ?_); try dsimp only)|((first|(refine xI ?_; intro _ _)|refine xL ?_|(refine xB ?_; intro _ _)|refine xG ?_|refine xS ?_|refine xM ?_|(refine xC ?_; intro _ _)|refine xW ?_); try simp only [sA])|refine Ex.seq ?_|refine Ex.reg ?_|refine Ex.block ?_|refine eT ?_|refine eF ?_|simp only [reduceCtorEq, AEx.ex.injEq, Nat.reduceEqDiff, if_true, if_false])))
          have ha0 : 0 ≤ a ∧ a < 2000 := by omega
          clear ha
          obtain ⟨q, b4, hq1, hq2⟩ := any_o b3 [300, 2500] (by simp) (by simp)
          have hq3 : q = 300 ∨ q = 2500 := by simpa using hq2
          obtain ⟨d, b5, hd1, hd2, hd3⟩ := mid_o b4 1 q (by omega) (by omega) (by omega)
          have wd : IntKind.i64.wrap (a + d) = a + d := i64_in (by omega) (by omega)
          apply Ex.drawE T5_ok [] [(2, 1)] [⟨[[.int .u64 b4], FB, [.int .i64 T1v, .int .i64 T2v], FS, [.int .i64 R1v, .int .i64 R2v], [.int .i64 H1v, .int .i64 H2v], [.int .i64 1, .int .i64 a, .int .i64 0]], [(2, 1), (2, 1)]⟩, ⟨[[.int .u64 b5], FB, [.int .i64 T1v, .int .i64 T2v], FS, [.int .i64 R1v, .int .i64 R2v], [.int .i64 H1v, .int .i64 H2v], [.int .i64 1, .int .i64 a, .int .i64 0]], [(2, 1), (2, 1)]⟩]
          case hD =>
            simp only [List.take_succ_cons, List.take_zero, List.append_nil, List.nil_append, List.cons_append]
            (apply DrO.pure; (case hw => rfl); (case hd => rfl); (case hv => (simp only [List.mem_cons, List.not_mem_nil, or_false, forall_eq_or_imp, forall_eq]; simp [vA, fRes_eq]; first | done | exact ⟨⟨rfl, rfl⟩, rfl⟩ | exact ⟨rfl, rfl⟩ | exact rfl | (refine ⟨rfl, ?_⟩; first | done | rfl | simp))); (try simp only [sA]))
            (apply DrO.pure; (case hw => rfl); (case hd => rfl); (case hv => (simp only [List.mem_cons, List.not_mem_nil, or_false, forall_eq_or_imp, forall_eq]; simp [vA, fRes_eq]; first | done | exact ⟨⟨rfl, rfl⟩, rfl⟩ | exact ⟨rfl, rfl⟩ | exact rfl | (refine ⟨rfl, ?_⟩; first | done | rfl | simp))); (try simp only [sA]))
            (apply DrO.pure; (case hw => rfl); (case hd => rfl); (case hv => (simp only [List.mem_cons, List.not_mem_nil, or_false, forall_eq_or_imp, forall_eq]; simp [vA, fRes_eq]; first | done | exact ⟨⟨rfl, rfl⟩, rfl⟩ | exact ⟨rfl, rfl⟩ | exact rfl | (refine ⟨rfl, ?_⟩; first | done | rfl | simp))); (try simp only [sA]))
            (apply DrO.pure; (case hw => rfl); (case hd => rfl); (case hv => (simp only [List.mem_cons, List.not_mem_nil, or_false, forall_eq_or_imp, forall_eq]; simp [vA, fRes_eq]; first | done | exact ⟨⟨rfl, rfl⟩, rfl⟩ | exact ⟨rfl, rfl⟩ | exact rfl | (refine ⟨rfl, ?_⟩; first | done | rfl | simp))); (try simp only [sA]))
            apply DrO.row 1 1 [.int .i64 300, .int .i64 2500] rfl rfl (fun st _ => rfl) (by simp) (by simp) (by simp)
            simp only [putA, List.set_cons_zero, List.set_cons_succ]
            apply DrO.eff (.int .i64 q) (⟨[[.int .u64 b3], FB, [.int .i64 T1v, .int .i64 T2v], FS, [.int .i64 R1v, .int .i64 R2v], [.int .i64 H1v, .int .i64 H2v], [.int .i64 1, .int .i64 a, .int .i64 0]], [(2, 1), (2, 1)]⟩) (⟨[[.int .u64 b4], FB, [.int .i64 T1v, .int .i64 T2v], FS, [.int .i64 R1v, .int .i64 R2v], [.int .i64 H1v, .int .i64 H2v], [.int .i64 1, .int .i64 a, .int .i64 0]], [(2, 1), (2, 1)]⟩) rfl rfl rfl rfl rfl (by rw [evOp_call (f := 39) (xs := [.ptr 0 0, .sl [.int .i64 300, .int .i64 2500] (some 1)]) rfl]; exact drum_callT rfl rfl hq1)
            simp only [putA, List.set_cons_zero, List.set_cons_succ]
            apply DrO.eff (.int .i64 d) (⟨[[.int .u64 b4], FB, [.int .i64 T1v, .int .i64 T2v], FS, [.int .i64 R1v, .int .i64 R2v], [.int .i64 H1v, .int .i64 H2v], [.int .i64 1, .int .i64 a, .int .i64 0]], [(2, 1), (2, 1)]⟩) (⟨[[.int .u64 b5], FB, [.int .i64 T1v, .int .i64 T2v], FS, [.int .i64 R1v, .int .i64 R2v], [.int .i64 H1v, .int .i64 H2v], [.int .i64 1, .int .i64 a, .int .i64 0]], [(2, 1), (2, 1)]⟩) rfl rfl rfl rfl rfl (by rw [evOp_call (f := 41) (xs := [.ptr 0 0, .int .i64 1, .int .i64 q]) rfl]; exact drum_callT rfl rfl hd1)
            simp only [putA, List.set_cons_zero, List.set_cons_succ]
            exact DrO.nil rfl
          simp only [List.drop_succ_cons, List.drop_zero, List.getLastD_cons, List.getLastD_nil, List.append_nil, List.cons_append, List.nil_append]
          (repeat (first|((first|refine ExO.nil ?_|refine Ex.skip ?_|refine Ex.ret ?_|refine Ex.exit ?_); try dsimp only)|((first|(refine xI ?_; intro _ _)|refine xL ?_|(refine xB ?_; intro _ _)|refine xG ?_|refine xS ?_|refine xM ?_|(refine xC ?_; intro _ _)|refine xW ?_); try simp only [sA])|refine Ex.seq ?_|refine Ex.reg ?_|refine Ex.block ?_|refine eT ?_|refine eF ?_|simp only [reduceCtorEq, AEx.ex.injEq, Nat.reduceEqDiff, if_true, if_false]))
          rename_i bb hbb m3 hm3
          rw [wd] at hbb
          subst hbb
          rw [i64_in (by omega) (by omega)] at hm3
          refine ⟨_, _, forgets 6 [3] ([true, false, false, false, true, false, false, true, false, false, true, false, true, false, true, true, false, false, false, false, false, false, false, false, false, false, false, false, false, false, false, false, false, false, false, false, false, false, false, false, false, false, false, false, false, false, false, false, false, false, false, false, false, false, false, false, false, false, false, false, false, false, false, false, false, false, false, false, false, false, false, false, false, false, false, false, false, false, false, false, false, false, false, false, false, false, false, false, false, false, false, false, false, false, false, false, false, false, false, false, false, false, false]) (by decide) (by simp) (bx2 := [[.int .u64 b5], FB, [.int .i64 T1v, .int .i64 T2v], FS, [.int .i64 R1v, .int .i64 R2v], [.int .i64 H1v, .int .i64 H2v]]) (by simp [re, re1, AV.clean, cleanL, hFB, hFS]) (lv2 := [(1, 3)]) (by simp) (by decide), m3.toNat, by omega, m3, b5, [⟨1, a, (a + d)⟩], _, _, rfl, by omega, by simp at hcnt ⊢; omega, ?_, .inr ⟨rfl, rfl⟩, ?_, by simp⟩
          · intro h hh
            simp only [List.mem_singleton] at hh
            subst hh
            exact .inl ⟨rfl, by show 0 ≤ a; omega, by show a < a + d; omega, by show a + d ≤ 20000; omega⟩
          · simp [keepS, re, re1, AV.clean, cleanL, clean_hds, cleanL_append, Hd.av, List.idxOf?, List.findIdx?, List.findIdx?.go]
      · (repeat (first|((first|refine ExO.nil ?_|refine Ex.skip ?_|refine Ex.ret ?_|refine Ex.exit ?_); try dsimp only)|((first|(refine xI ?_; intro _ _)|refine xL ?_|(refine xB ?_; intro _ _)|refine xG ?_|refine xS ?_|refine xM ?_|(refine xC ?_; intro _ _)|refine xW ?_); try simp only [sA])|refine Ex.seq ?_|refine Ex.reg ?_|refine Ex.block ?_|refine eT ?_|refine eF ?_|simp only [reduceCtorEq, AEx.ex.injEq, Nat.reduceEqDiff, if_true, if_false]))
        (refine ExO.call (f := (41)) (xs := ([.ptr 0 0, .int .i64 1, .int .i64 3])) (bs := [0]) (cells := ([[.int .u64 b]])) (by rfl) (by rfl) (by rfl) (by rfl) (by rfl) (by rfl) ((mid_m b 1 3 (by omega) (by omega) (by omega) (by omega))) ?_; rintro v c' ⟨kind, b1, rfl, rfl, k1, k2, k3⟩; refine ⟨_, rfl, rfl, ?_⟩; simp only [List.map_cons, List.map_nil, putA, List.set_cons_zero, List.set_cons_succ, AV.plain, AV.plain1, setAll, List.length_cons, List.length_nil, List.drop_succ_cons, List.drop_zero, List.drop_nil, List.append_nil, Nat.reduceAdd]; (repeat (first|((first|refine ExO.nil ?_|refine Ex.skip ?_|refine Ex.ret ?_|refine Ex.exit ?_); try dsimp only)|((first|(refine xI ?_; intro _ _)|refine xL ?_|(refine xB ?_; intro _ _)|refine xG ?_|refine xS ?_|refine xM ?_|(refine xC ?_; intro _ _)|refine xW ?_); try simp only [sA])|refine Ex.seq ?_|refine Ex.reg ?_|refine Ex.block ?_|refine eT ?_|refine eF ?_|simp only [reduceCtorEq, AEx.ex.injEq, Nat.reduceEqDiff, if_true, if_false])))
        rename_i c2 hc2
        cases c2
        · (refine Ex.cond (b := false) (by first | rfl | simp [evd]) ?_; simp only [Bool.false_eq_true, if_false])
          (repeat (first|((first|refine ExO.nil ?_|refine Ex.skip ?_|refine Ex.ret ?_|refine Ex.exit ?_); try dsimp only)|((first|(refine xI ?_; intro _ _)|refine xL ?_|(refine xB ?_; intro _ _)|refine xG ?_|refine xS ?_|refine xM ?_|(refine xC ?_; intro _ _)|refine xW ?_); try simp only [sA])|refine Ex.seq ?_|refine Ex.reg ?_|refine Ex.block ?_|refine eT ?_|refine eF ?_|simp only [reduceCtorEq, AEx.ex.injEq, Nat.reduceEqDiff, if_true, if_false]))
          rename_i c3 hc3
          cases c3
          · have hk1 : kind ≠ 1 := by have := hc2.symm; simpa using this
            have hk2 : kind ≠ 2 := by have := hc3.symm; simpa using this
            have hk3 := k2 (by decide)
            obtain rfl : kind = 3 := by omega
            (refine Ex.cond (b := false) (by first | rfl | simp [evd]) ?_; simp only [Bool.false_eq_true, if_false])
            (repeat (first|((first|refine ExO.nil ?_|refine Ex.skip ?_|refine Ex.ret ?_|refine Ex.exit ?_); try dsimp only)|((first|(refine xI ?_; intro _ _)|refine xL ?_|(refine xB ?_; intro _ _)|refine xG ?_|refine xS ?_|refine xM ?_|(refine xC ?_; intro _ _)|refine xW ?_); try simp only [sA])|refine Ex.seq ?_|refine Ex.reg ?_|refine Ex.block ?_|refine eT ?_|refine eF ?_|simp only [reduceCtorEq, AEx.ex.injEq, Nat.reduceEqDiff, if_true, if_false]))
            obtain ⟨q1, b2, o1, p1, p2⟩ := of_o5 b1 T1v T2v (by omega) (by omega) (by omega) (by omega)
            obtain ⟨d1, b3, o2, p3⟩ := any_o b2 [-1, 0, 1, 300] (by simp) (by simp)
            have p3' : d1 = -1 ∨ d1 = 0 ∨ d1 = 1 ∨ d1 = 300 := by simpa using p3
            obtain ⟨q2, b4, o3, p4, p5⟩ := of_o5 b3 R1v R2v (by omega) (by omega) (by omega) (by omega)
            obtain ⟨d2, b5, o4, p6⟩ := any_o b4 [-1, 0, 1] (by simp) (by simp)
            have p6' : d2 = -1 ∨ d2 = 0 ∨ d2 = 1 := by simpa using p6
            obtain ⟨q3, b6, o5, p7⟩ := any_o b5 [T2v, q2 + d2] (by simp) (by simp)
            have p7' : q3 = T2v ∨ q3 = q2 + d2 := by simpa using p7
            have wx1 : IntKind.i64.wrap (q1 + d1) = q1 + d1 := i64_in (by omega) (by omega)
            have wx2 : IntKind.i64.wrap (q2 + d2) = q2 + d2 := i64_in (by omega) (by omega)
            obtain ⟨y1, hy1⟩ : ∃ y, (if 0 < q1 + d1 then q1 + d1 else 0) = y := ⟨_, rfl⟩
            obtain ⟨y2, hy2⟩ : ∃ y, (if 0 < q3 then q3 else 0) = y := ⟨_, rfl⟩
            have by1 : 0 ≤ y1 ∧ y1 ≤ 10000000 := by rw [← hy1]; split <;> omega
            have by2 : 0 ≤ y2 ∧ y2 ≤ 10000000 := by rw [← hy2]; split <;> omega
            apply Ex.drawE T5_ok [] [(4, 1), (3, 1), (2, 1)] [⟨[[.int .u64 b2], FB, [.int .i64 T1v, .int .i64 T2v], FS, [.int .i64 R1v, .int .i64 R2v], [.int .i64 H1v, .int .i64 H2v], [.int .i64 3, .int .i64 0, .int .i64 0]], [(hs.length, 3), (4, 1), (3, 1), (2, 1)]⟩, ⟨[[.int .u64 b3], FB, [.int .i64 T1v, .int .i64 T2v], FS, [.int .i64 R1v, .int .i64 R2v], [.int .i64 H1v, .int .i64 H2v], [.int .i64 3, .int .i64 0, .int .i64 0]], [(hs.length, 3), (4, 1), (3, 1), (2, 1)]⟩, ⟨[[.int .u64 b4], FB, [.int .i64 T1v, .int .i64 T2v], FS, [.int .i64 R1v, .int .i64 R2v], [.int .i64 H1v, .int .i64 H2v], [.int .i64 3, .int .i64 0, .int .i64 0]], [(hs.length, 3), (4, 1), (3, 1), (2, 1)]⟩, ⟨[[.int .u64 b5], FB, [.int .i64 T1v, .int .i64 T2v], FS, [.int .i64 R1v, .int .i64 R2v], [.int .i64 H1v, .int .i64 H2v], [.int .i64 3, .int .i64 0, .int .i64 0]], [(hs.length, 3), (4, 1), (3, 1), (2, 1)]⟩, ⟨[[.int .u64 b6], FB, [.int .i64 T1v, .int .i64 T2v], FS, [.int .i64 R1v, .int .i64 R2v], [.int .i64 H1v, .int .i64 H2v], [.int .i64 3, .int .i64 0, .int .i64 0]], [(hs.length, 3), (4, 1), (3, 1), (2, 1)]⟩, ⟨[[.int .u64 b6], FB, [.int .i64 T1v, .int .i64 T2v], FS, [.int .i64 R1v, .int .i64 R2v], [.int .i64 H1v, .int .i64 H2v], [.int .i64 3, .int .i64 y1, .int .i64 0]], [(hs.length, 3), (4, 1), (3, 1), (2, 1)]⟩]
            case hD =>
              simp only [List.take_succ_cons, List.take_zero, List.append_nil, List.nil_append, List.cons_append]
              (apply DrO.pure; (case hw => rfl); (case hd => rfl); (case hv => (simp only [List.mem_cons, List.not_mem_nil, or_false, forall_eq_or_imp, forall_eq]; simp [vA, fRes_eq]; first | done | exact ⟨⟨rfl, rfl⟩, rfl⟩ | exact ⟨rfl, rfl⟩ | exact rfl | (refine ⟨rfl, ?_⟩; first | done | rfl | simp))); (try simp only [sA]))
              (apply DrO.pure; (case hw => rfl); (case hd => rfl); (case hv => (simp only [List.mem_cons, List.not_mem_nil, or_false, forall_eq_or_imp, forall_eq]; simp [vA, fRes_eq]; first | done | exact ⟨⟨rfl, rfl⟩, rfl⟩ | exact ⟨rfl, rfl⟩ | exact rfl | (refine ⟨rfl, ?_⟩; first | done | rfl | simp))); (try simp only [sA]))
              apply DrO.eff (.int .i64 q1) (⟨[[.int .u64 b1], FB, [.int .i64 T1v, .int .i64 T2v], FS, [.int .i64 R1v, .int .i64 R2v], [.int .i64 H1v, .int .i64 H2v], [.int .i64 3, .int .i64 0, .int .i64 0]], [(hs.length, 3), (4, 1), (3, 1), (2, 1)]⟩) (⟨[[.int .u64 b2], FB, [.int .i64 T1v, .int .i64 T2v], FS, [.int .i64 R1v, .int .i64 R2v], [.int .i64 H1v, .int .i64 H2v], [.int .i64 3, .int .i64 0, .int .i64 0]], [(hs.length, 3), (4, 1), (3, 1), (2, 1)]⟩) rfl rfl rfl rfl rfl (by rw [evOp_call (f := 35) (xs := [.ptr 0 0, .agg [.int .i64 T1v, .int .i64 T2v]]) rfl]; exact drum_callT rfl rfl o1)
              simp only [putA, List.set_cons_zero, List.set_cons_succ]
              (apply DrO.pure; (case hw => rfl); (case hd => rfl); (case hv => (simp only [List.mem_cons, List.not_mem_nil, or_false, forall_eq_or_imp, forall_eq]; simp [vA, fRes_eq]; first | done | exact ⟨⟨rfl, rfl⟩, rfl⟩ | exact ⟨rfl, rfl⟩ | exact rfl | (refine ⟨rfl, ?_⟩; first | done | rfl | simp))); (try simp only [sA]))
              apply DrO.row 1 1 [.int .i64 (-1), .int .i64 0, .int .i64 1, .int .i64 300] rfl rfl (fun st _ => rfl) (by simp) (by simp) (by simp)
              simp only [putA, List.set_cons_zero, List.set_cons_succ]
              apply DrO.eff (.int .i64 d1) (⟨[[.int .u64 b2], FB, [.int .i64 T1v, .int .i64 T2v], FS, [.int .i64 R1v, .int .i64 R2v], [.int .i64 H1v, .int .i64 H2v], [.int .i64 3, .int .i64 0, .int .i64 0]], [(hs.length, 3), (4, 1), (3, 1), (2, 1)]⟩) (⟨[[.int .u64 b3], FB, [.int .i64 T1v, .int .i64 T2v], FS, [.int .i64 R1v, .int .i64 R2v], [.int .i64 H1v, .int .i64 H2v], [.int .i64 3, .int .i64 0, .int .i64 0]], [(hs.length, 3), (4, 1), (3, 1), (2, 1)]⟩) rfl rfl rfl rfl rfl (by rw [evOp_call (f := 39) (xs := [.ptr 0 0, .sl [.int .i64 (-1), .int .i64 0, .int .i64 1, .int .i64 300] (some 1)]) rfl]; exact drum_callT rfl rfl o2)
              simp only [putA, List.set_cons_zero, List.set_cons_succ]
              (apply DrO.pure; (case hw => rfl); (case hd => rfl); (case hv => (simp only [List.mem_cons, List.not_mem_nil, or_false, forall_eq_or_imp, forall_eq]; simp [vA, fRes_eq, wx1]; first | done | exact ⟨⟨rfl, rfl⟩, rfl⟩ | exact ⟨rfl, rfl⟩ | exact rfl | (refine ⟨rfl, ?_⟩; first | done | rfl | simp))); (try simp only [sA]))
              (apply DrO.pure; (case hw => rfl); (case hd => rfl); (case hv => (simp only [List.mem_cons, List.not_mem_nil, or_false, forall_eq_or_imp, forall_eq]; simp [vA, fRes_eq, hy1]; first | done | exact ⟨⟨rfl, rfl⟩, rfl⟩ | exact ⟨rfl, rfl⟩ | exact rfl | (refine ⟨rfl, ?_⟩; first | done | rfl | simp))); (try simp only [sA]))
              (apply DrO.pure; (case hw => rfl); (case hd => rfl); (case hv => (simp only [List.mem_cons, List.not_mem_nil, or_false, forall_eq_or_imp, forall_eq]; simp [vA, fRes_eq]; first | done | exact ⟨⟨rfl, rfl⟩, rfl⟩ | exact ⟨rfl, rfl⟩ | exact rfl | (refine ⟨rfl, ?_⟩; first | done | rfl | simp))); (try simp only [sA]))
              (apply DrO.pure; (case hw => rfl); (case hd => rfl); (case hv => (simp only [List.mem_cons, List.not_mem_nil, or_false, forall_eq_or_imp, forall_eq]; simp [vA, fRes_eq]; first | done | exact ⟨⟨rfl, rfl⟩, rfl⟩ | exact ⟨rfl, rfl⟩ | exact rfl | (refine ⟨rfl, ?_⟩; first | done | rfl | simp))); (try simp only [sA]))
              (apply DrO.pure; (case hw => rfl); (case hd => rfl); (case hv => (simp only [List.mem_cons, List.not_mem_nil, or_false, forall_eq_or_imp, forall_eq]; simp [vA, fRes_eq]; first | done | exact ⟨⟨rfl, rfl⟩, rfl⟩ | exact ⟨rfl, rfl⟩ | exact rfl | (refine ⟨rfl, ?_⟩; first | done | rfl | simp))); (try simp only [sA]))
              (apply DrO.pure; (case hw => rfl); (case hd => rfl); (case hv => (simp only [List.mem_cons, List.not_mem_nil, or_false, forall_eq_or_imp, forall_eq]; simp [vA, fRes_eq]; first | done | exact ⟨⟨rfl, rfl⟩, rfl⟩ | exact ⟨rfl, rfl⟩ | exact rfl | (refine ⟨rfl, ?_⟩; first | done | rfl | simp))); (try simp only [sA]))
              (apply DrO.pure; (case hw => rfl); (case hd => rfl); (case hv => (simp only [List.mem_cons, List.not_mem_nil, or_false, forall_eq_or_imp, forall_eq]; simp [vA, fRes_eq]; first | done | exact ⟨⟨rfl, rfl⟩, rfl⟩ | exact ⟨rfl, rfl⟩ | exact rfl | (refine ⟨rfl, ?_⟩; first | done | rfl | simp))); (try simp only [sA]))
              apply DrO.eff (.int .i64 q2) (⟨[[.int .u64 b3], FB, [.int .i64 T1v, .int .i64 T2v], FS, [.int .i64 R1v, .int .i64 R2v], [.int .i64 H1v, .int .i64 H2v], [.int .i64 3, .int .i64 0, .int .i64 0]], [(hs.length, 3), (4, 1), (3, 1), (2, 1)]⟩) (⟨[[.int .u64 b4], FB, [.int .i64 T1v, .int .i64 T2v], FS, [.int .i64 R1v, .int .i64 R2v], [.int .i64 H1v, .int .i64 H2v], [.int .i64 3, .int .i64 0, .int .i64 0]], [(hs.length, 3), (4, 1), (3, 1), (2, 1)]⟩) rfl rfl rfl rfl rfl (by rw [evOp_call (f := 35) (xs := [.ptr 0 0, .agg [.int .i64 R1v, .int .i64 R2v]]) rfl]; exact drum_callT rfl rfl o3)
              simp only [putA, List.set_cons_zero, List.set_cons_succ]
              (apply DrO.pure; (case hw => rfl); (case hd => rfl); (case hv => (simp only [List.mem_cons, List.not_mem_nil, or_false, forall_eq_or_imp, forall_eq]; simp [vA, fRes_eq]; first | done | exact ⟨⟨rfl, rfl⟩, rfl⟩ | exact ⟨rfl, rfl⟩ | exact rfl | (refine ⟨rfl, ?_⟩; first | done | rfl | simp))); (try simp only [sA]))
              apply DrO.row 2 1 [.int .i64 (-1), .int .i64 0, .int .i64 1] rfl rfl (fun st _ => rfl) (by simp) (by simp) (by simp)
              simp only [putA, List.set_cons_zero, List.set_cons_succ]
              apply DrO.eff (.int .i64 d2) (⟨[[.int .u64 b4], FB, [.int .i64 T1v, .int .i64 T2v], FS, [.int .i64 R1v, .int .i64 R2v], [.int .i64 H1v, .int .i64 H2v], [.int .i64 3, .int .i64 0, .int .i64 0]], [(hs.length, 3), (4, 1), (3, 1), (2, 1)]⟩) (⟨[[.int .u64 b5], FB, [.int .i64 T1v, .int .i64 T2v], FS, [.int .i64 R1v, .int .i64 R2v], [.int .i64 H1v, .int .i64 H2v], [.int .i64 3, .int .i64 0, .int .i64 0]], [(hs.length, 3), (4, 1), (3, 1), (2, 1)]⟩) rfl rfl rfl rfl rfl (by rw [evOp_call (f := 39) (xs := [.ptr 0 0, .sl [.int .i64 (-1), .int .i64 0, .int .i64 1] (some 2)]) rfl]; exact drum_callT rfl rfl o4)
              simp only [putA, List.set_cons_zero, List.set_cons_succ]
              (apply DrO.pure; (case hw => rfl); (case hd => rfl); (case hv => (simp only [List.mem_cons, List.not_mem_nil, or_false, forall_eq_or_imp, forall_eq]; simp [vA, fRes_eq, wx2]; first | done | exact ⟨⟨rfl, rfl⟩, rfl⟩ | exact ⟨rfl, rfl⟩ | exact rfl | (refine ⟨rfl, ?_⟩; first | done | rfl | simp))); (try simp only [sA]))
              apply DrO.row 3 1 [.int .i64 T2v, .int .i64 (q2 + d2)] rfl rfl (fun st _ => rfl) (by simp) (by simp) (by simp)
              simp only [putA, List.set_cons_zero, List.set_cons_succ]
              apply DrO.eff (.int .i64 q3) (⟨[[.int .u64 b5], FB, [.int .i64 T1v, .int .i64 T2v], FS, [.int .i64 R1v, .int .i64 R2v], [.int .i64 H1v, .int .i64 H2v], [.int .i64 3, .int .i64 0, .int .i64 0]], [(hs.length, 3), (4, 1), (3, 1), (2, 1)]⟩) (⟨[[.int .u64 b6], FB, [.int .i64 T1v, .int .i64 T2v], FS, [.int .i64 R1v, .int .i64 R2v], [.int .i64 H1v, .int .i64 H2v], [.int .i64 3, .int .i64 0, .int .i64 0]], [(hs.length, 3), (4, 1), (3, 1), (2, 1)]⟩) rfl rfl rfl rfl rfl (by rw [evOp_call (f := 39) (xs := [.ptr 0 0, .sl [.int .i64 T2v, .int .i64 (q2 + d2)] (some 3)]) rfl]; exact drum_callT rfl rfl o5)
              simp only [putA, List.set_cons_zero, List.set_cons_succ]
              (apply DrO.pure; (case hw => rfl); (case hd => rfl); (case hv => (simp only [List.mem_cons, List.not_mem_nil, or_false, forall_eq_or_imp, forall_eq]; simp [vA, fRes_eq, hy2]; first | done | exact ⟨⟨rfl, rfl⟩, rfl⟩ | exact ⟨rfl, rfl⟩ | exact rfl | (refine ⟨rfl, ?_⟩; first | done | rfl | simp))); (try simp only [sA]))
              (apply DrO.pure; (case hw => rfl); (case hd => rfl); (case hv => (simp only [List.mem_cons, List.not_mem_nil, or_false, forall_eq_or_imp, forall_eq]; simp [vA, fRes_eq]; first | done | exact ⟨⟨rfl, rfl⟩, rfl⟩ | exact ⟨rfl, rfl⟩ | exact rfl | (refine ⟨rfl, ?_⟩; first | done | rfl | simp))); (try simp only [sA]))
              (apply DrO.eff; (case hw => rfl); (case hd => rfl); (case hl => rfl); (case hs => rfl); (case hs' => rfl); (case hv => (simp [vA, fRes_eq]; first|done|exact ⟨⟨rfl,rfl⟩,rfl⟩|exact ⟨rfl,rfl⟩|exact rfl)); (try simp only [sA]))
              exact DrO.nil rfl
            simp only [List.drop_succ_cons, List.drop_zero, List.getLastD_cons, List.getLastD_nil, List.append_nil, List.cons_append, List.nil_append]
            (repeat (first|((first|refine ExO.nil ?_|refine Ex.skip ?_|refine Ex.ret ?_|refine Ex.exit ?_); try dsimp only)|((first|(refine xI ?_; intro _ _)|refine xL ?_|(refine xB ?_; intro _ _)|refine xG ?_|refine xS ?_|refine xM ?_|(refine xC ?_; intro _ _)|refine xW ?_); try simp only [sA])|refine Ex.seq ?_|refine Ex.reg ?_|refine Ex.block ?_|refine eT ?_|refine eF ?_|simp only [reduceCtorEq, AEx.ex.injEq, Nat.reduceEqDiff, if_true, if_false]))
            have hz1 : hs.length ≤ 65535 := by omega
            have hz3 : hs.length + 1 ≤ 65536 := by omega
            (apply ExO.stG; (case hk => rfl); (case hv => (simp [vA, fRes_eq, hz1, hz3, Hd.av_len]; first|done|exact ⟨⟨rfl,rfl⟩,rfl⟩|exact ⟨rfl,rfl⟩|exact rfl)); (try simp only [sA]))
            (repeat (first|((first|refine ExO.nil ?_|refine Ex.skip ?_|refine Ex.ret ?_|refine Ex.exit ?_); try dsimp only)|((first|(refine xI ?_; intro _ _)|refine xL ?_|(refine xB ?_; intro _ _)|refine xG ?_|refine xS ?_|refine xM ?_|(refine xC ?_; intro _ _)|refine xW ?_); try simp only [sA])|refine Ex.seq ?_|refine Ex.reg ?_|refine Ex.block ?_|refine eT ?_|refine eF ?_|simp only [reduceCtorEq, AEx.ex.injEq, Nat.reduceEqDiff, if_true, if_false]))
            rename_i m3 hm3
            rw [i64_in (by omega) (by omega)] at hm3
            refine ⟨_, _, forgets 6 [0] ([true, false, false, false, true, false, false, true, false, false, true, false, true, false, true, true, false, false, false, false, false, false, false, false, false, false, false, false, false, false, false, false, false, false, false, false, false, false, false, false, false, false, false, false, false, false, false, false, false, false, false, false, false, false, false, false, false, false, false, false, false, false, false, false, false, false, false, false, false, false, false, false, false, false, false, false, false, false, false, false, false, false, false, false, false, false, false, false, false, false, false, false, false, false, false, false, false, false, false, false, false, false, false]) (by decide) (by simp) (bx2 := [[.int .u64 b6], FB, [.int .i64 T1v, .int .i64 T2v], FS, [.int .i64 R1v, .int .i64 R2v], [.int .i64 H1v, .int .i64 H2v]]) (by simp [re, re1, AV.clean, cleanL, hFB, hFS]) (lv2 := [(hs.length + 1, 3)]) (by simp) (by decide), m3.toNat, by omega, m3, b6, hs ++ [⟨3, y1, y2⟩], _, _, rfl, by omega, by simp at hcnt ⊢; omega, ?_, .inr ⟨rfl, rfl⟩, ?_, by simp⟩
            · intro h hh
              rcases List.mem_append.1 hh with hh | hh
              · exact hall2 h hh
              simp only [List.mem_singleton] at hh
              subst hh
              exact .inr (.inr ⟨rfl, by show 0 ≤ y1; omega, by show y1 ≤ 10000000; omega, by show 0 ≤ y2; omega, by show y2 ≤ 10000000; omega⟩)
            · simp [keepS, re, re1, AV.clean, cleanL, clean_hds, cleanL_append, Hd.av, List.idxOf?, List.findIdx?, List.findIdx?.go]
          · obtain rfl : kind = 2 := by have := hc3.symm; simpa using this
            (refine Ex.cond (b := true) (by first | rfl | simp [evd]) ?_; simp only [if_true])
            (repeat (first|((first|refine ExO.nil ?_|refine Ex.skip ?_|refine Ex.ret ?_|refine Ex.exit ?_); try dsimp only)|((first|(refine xI ?_; intro _ _)|refine xL ?_|(refine xB ?_; intro _ _)|refine xG ?_|refine xS ?_|refine xM ?_|(refine xC ?_; intro _ _)|refine xW ?_); try simp only [sA])|refine Ex.seq ?_|refine Ex.reg ?_|refine Ex.block ?_|refine eT ?_|refine eF ?_|simp only [reduceCtorEq, AEx.ex.injEq, Nat.reduceEqDiff, if_true, if_false]))
            (refine ExO.call (f := (35)) (xs := ([.ptr 0 0, .agg [.int .i64 H1v, .int .i64 H2v]])) (bs := [0]) (cells := ([[.int .u64 b1]])) (by rfl) (by rfl) (by rfl) (by rfl) (by rfl) (by rfl) (((Meets.does (ofw_f b1 H1v H2v (by omega) (by omega) (by omega) (by omega))))) ?_; rintro v c' ⟨q, b2, rfl, rfl, q1, q2⟩; refine ⟨_, rfl, rfl, ?_⟩; simp only [List.map_cons, List.map_nil, putA, List.set_cons_zero, List.set_cons_succ, AV.plain, AV.plain1, setAll, List.length_cons, List.length_nil, List.drop_succ_cons, List.drop_zero, List.drop_nil, List.append_nil, Nat.reduceAdd]; (repeat (first|((first|refine ExO.nil ?_|refine Ex.skip ?_|refine Ex.ret ?_|refine Ex.exit ?_); try dsimp only)|((first|(refine xI ?_; intro _ _)|refine xL ?_|(refine xB ?_; intro _ _)|refine xG ?_|refine xS ?_|refine xM ?_|(refine xC ?_; intro _ _)|refine xW ?_); try simp only [sA])|refine Ex.seq ?_|refine Ex.reg ?_|refine Ex.block ?_|refine eT ?_|refine eF ?_|simp only [reduceCtorEq, AEx.ex.injEq, Nat.reduceEqDiff, if_true, if_false])))
            (refine ExO.call (f := (39)) (xs := ([.ptr 0 0, .sl [.int .i64 (-1), .int .i64 0, .int .i64 1, .int .i64 50] (some 1)])) (bs := [0]) (cells := ([[.int .u64 b2]])) (by rfl) (by rfl) (by rfl) (by rfl) (by rfl) (by rfl) ((any_m b2 [-1, 0, 1, 50] (by simp) (by simp))) ?_; rintro v c' ⟨d, b3, rfl, rfl, hd⟩; refine ⟨_, rfl, rfl, ?_⟩; simp only [List.map_cons, List.map_nil, putA, List.set_cons_zero, List.set_cons_succ, AV.plain, AV.plain1, setAll, List.length_cons, List.length_nil, List.drop_succ_cons, List.drop_zero, List.drop_nil, List.append_nil, Nat.reduceAdd]; (repeat (first|((first|refine ExO.nil ?_|refine Ex.skip ?_|refine Ex.ret ?_|refine Ex.exit ?_); try dsimp only)|((first|(refine xI ?_; intro _ _)|refine xL ?_|(refine xB ?_; intro _ _)|refine xG ?_|refine xS ?_|refine xM ?_|(refine xC ?_; intro _ _)|refine xW ?_); try simp only [sA])|refine Ex.seq ?_|refine Ex.reg ?_|refine Ex.block ?_|refine eT ?_|refine eF ?_|simp only [reduceCtorEq, AEx.ex.injEq, Nat.reduceEqDiff, if_true, if_false])))
            have hd3 : d = -1 ∨ d = 0 ∨ d = 1 ∨ d = 50 := by simpa using hd
            clear hd
            (repeat (first|((first|refine ExO.nil ?_|refine Ex.skip ?_|refine Ex.ret ?_|refine Ex.exit ?_); try dsimp only)|((first|(refine xI ?_; intro _ _)|refine xL ?_|(refine xB ?_; intro _ _)|refine xG ?_|refine xS ?_|refine xM ?_|(refine xC ?_; intro _ _)|refine xW ?_); try simp only [sA])|refine Ex.seq ?_|refine Ex.reg ?_|refine Ex.block ?_|refine eT ?_|refine eF ?_|simp only [reduceCtorEq, AEx.ex.injEq, Nat.reduceEqDiff, if_true, if_false]))
            rename_i x hx y hy z hz
            rw [i64_in (by omega) (by omega)] at hx
            have hz' : 0 ≤ z ∧ z ≤ 2000 := by
              split at hy <;> split at hz <;> omega
            clear hy hz
            have hz1 : hs.length ≤ 65535 := by omega
            have hz3 : hs.length + 1 ≤ 65536 := by omega
            (apply ExO.stG; (case hk => rfl); (case hv => (simp [vA, fRes_eq, hz1, hz3, Hd.av_len]; first|done|exact ⟨⟨rfl,rfl⟩,rfl⟩|exact ⟨rfl,rfl⟩|exact rfl)); (try simp only [sA]))
            (repeat (first|((first|refine ExO.nil ?_|refine Ex.skip ?_|refine Ex.ret ?_|refine Ex.exit ?_); try dsimp only)|((first|(refine xI ?_; intro _ _)|refine xL ?_|(refine xB ?_; intro _ _)|refine xG ?_|refine xS ?_|refine xM ?_|(refine xC ?_; intro _ _)|refine xW ?_); try simp only [sA])|refine Ex.seq ?_|refine Ex.reg ?_|refine Ex.block ?_|refine eT ?_|refine eF ?_|simp only [reduceCtorEq, AEx.ex.injEq, Nat.reduceEqDiff, if_true, if_false]))
            rename_i m3 hm3
            rw [i64_in (by omega) (by omega)] at hm3
            refine ⟨_, _, forgets 6 [0] ([true, false, false, false, true, false, false, true, false, false, true, false, true, false, true, true, false, false, false, false, false, false, false, false, false, false, false, false, false, false, false, false, false, false, false, false, false, false, false, false, false, false, false, false, false, false, false, false, false, false, false, false, false, false, false, false, false, false, false, false, false, false, false, false, false, false, false, false, false, false, false, false, false, false, false, false, false, false, false, false, false, false, false, false, false, false, false, false, false, false, false, false, false, false, false, false, false, false, false, false, false, false, false]) (by decide) (by simp) (bx2 := [[.int .u64 b3], FB, [.int .i64 T1v, .int .i64 T2v], FS, [.int .i64 R1v, .int .i64 R2v], [.int .i64 H1v, .int .i64 H2v]]) (by simp [re, re1, AV.clean, cleanL, hFB, hFS]) (lv2 := [(hs.length + 1, 3)]) (by simp) (by decide), m3.toNat, by omega, m3, b3, hs ++ [⟨2, z, 0⟩], _, _, rfl, by omega, by simp at hcnt ⊢; omega, ?_, .inr ⟨rfl, rfl⟩, ?_, by simp⟩
            · intro h hh
              rcases List.mem_append.1 hh with hh | hh
              · exact hall2 h hh
              simp only [List.mem_singleton] at hh
              subst hh
              exact .inr (.inl ⟨rfl, by show 0 ≤ z; omega, by show z ≤ 2000; omega, rfl⟩)
            · simp [keepS, re, re1, AV.clean, cleanL, clean_hds, cleanL_append, Hd.av, List.idxOf?, List.findIdx?, List.findIdx?.go]
        · obtain rfl : kind = 1 := by have := hc2.symm; simpa using this
          (refine Ex.cond (b := true) (by first | rfl | simp [evd]) ?_; simp only [if_true])
          (repeat (first|((first|refine ExO.nil ?_|refine Ex.skip ?_|refine Ex.ret ?_|refine Ex.exit ?_); try dsimp only)|((first|(refine xI ?_; intro _ _)|refine xL ?_|(refine xB ?_; intro _ _)|refine xG ?_|refine xS ?_|refine xM ?_|(refine xC ?_; intro _ _)|refine xW ?_); try simp only [sA])|refine Ex.seq ?_|refine Ex.reg ?_|refine Ex.block ?_|refine eT ?_|refine eF ?_|simp only [reduceCtorEq, AEx.ex.injEq, Nat.reduceEqDiff, if_true, if_false]))
          (refine ExO.call (f := (40)) (xs := ([.ptr 0 0, .int .i64 2000])) (bs := [0]) (cells := ([[.int .u64 b1]])) (by rfl) (by rfl) (by rfl) (by rfl) (by rfl) (by rfl) ((roll_m b1 2000 (by omega))) ?_; rintro v c' ⟨r1, b2, rfl, rfl, r11, r12, r13⟩; refine ⟨_, rfl, rfl, ?_⟩; simp only [List.map_cons, List.map_nil, putA, List.set_cons_zero, List.set_cons_succ, AV.plain, AV.plain1, setAll, List.length_cons, List.length_nil, List.drop_succ_cons, List.drop_zero, List.drop_nil, List.append_nil, Nat.reduceAdd]; (repeat (first|((first|refine ExO.nil ?_|refine Ex.skip ?_|refine Ex.ret ?_|refine Ex.exit ?_); try dsimp only)|((first|(refine xI ?_; intro _ _)|refine xL ?_|(refine xB ?_; intro _ _)|refine xG ?_|refine xS ?_|refine xM ?_|(refine xC ?_; intro _ _)|refine xW ?_); try simp only [sA])|refine Ex.seq ?_|refine Ex.reg ?_|refine Ex.block ?_|refine eT ?_|refine eF ?_|simp only [reduceCtorEq, AEx.ex.injEq, Nat.reduceEqDiff, if_true, if_false])))
          (refine ExO.call (f := (39)) (xs := ([.ptr 0 0, .sl [.int .i64 0, .int .i64 r1] (some 1)])) (bs := [0]) (cells := ([[.int .u64 b2]])) (by rfl) (by rfl) (by rfl) (by rfl) (by rfl) (by rfl) ((any2_m b2 0 r1)) ?_; rintro v c' ⟨a, b3, rfl, rfl, ha⟩; refine ⟨_, rfl, rfl, ?_⟩; simp only [List.map_cons, List.map_nil, putA, List.set_cons_zero, List.set_cons_succ, AV.plain, AV.plain1, setAll, List.length_cons, List.length_nil, List.drop_succ_cons, List.drop_zero, List.drop_nil, List.append_nil, Nat.reduceAdd]; (repeat (first|((first|refine ExO.nil ?_|refine Ex.skip ?_|refine Ex.ret ?_|refine Ex.exit ?_); try dsimp only)|((first|(refine xI ?_; intro _ _)|refine xL ?_|(refine xB ?_; intro _ _)|refine xG ?_|refine xS ?_|refine xM ?_|(refine xC ?_; intro _ _)|refine xW ?_); try simp only [sA])|refine Ex.seq ?_|refine Ex.reg ?_|refine Ex.block ?_|refine eT ?_|refine eF ?_|simp only [reduceCtorEq, AEx.ex.injEq, Nat.reduceEqDiff, if_true, if_false])))
          have ha0 : 0 ≤ a ∧ a < 2000 := by omega
          clear ha
          obtain ⟨q, b4, hq1, hq2⟩ := any_o b3 [300, 2500] (by simp) (by simp)
          have hq3 : q = 300 ∨ q = 2500 := by simpa using hq2
          obtain ⟨d, b5, hd1, hd2, hd3⟩ := mid_o b4 1 q (by omega) (by omega) (by omega)
          have wd : IntKind.i64.wrap (a + d) = a + d := i64_in (by omega) (by omega)
          apply Ex.drawE T5_ok [] [(2, 1)] [⟨[[.int .u64 b4], FB, [.int .i64 T1v, .int .i64 T2v], FS, [.int .i64 R1v, .int .i64 R2v], [.int .i64 H1v, .int .i64 H2v], [.int .i64 1, .int .i64 a, .int .i64 0]], [(hs.length, 3), (2, 1), (2, 1)]⟩, ⟨[[.int .u64 b5], FB, [.int .i64 T1v, .int .i64 T2v], FS, [.int .i64 R1v, .int .i64 R2v], [.int .i64 H1v, .int .i64 H2v], [.int .i64 1, .int .i64 a, .int .i64 0]], [(hs.length, 3), (2, 1), (2, 1)]⟩]
          case hD =>
            simp only [List.take_succ_cons, List.take_zero, List.append_nil, List.nil_append, List.cons_append]
            (apply DrO.pure; (case hw => rfl); (case hd => rfl); (case hv => (simp only [List.mem_cons, List.not_mem_nil, or_false, forall_eq_or_imp, forall_eq]; simp [vA, fRes_eq]; first | done | exact ⟨⟨rfl, rfl⟩, rfl⟩ | exact ⟨rfl, rfl⟩ | exact rfl | (refine ⟨rfl, ?_⟩; first | done | rfl | simp))); (try simp only [sA]))
            (apply DrO.pure; (case hw => rfl); (case hd => rfl); (case hv => (simp only [List.mem_cons, List.not_mem_nil, or_false, forall_eq_or_imp, forall_eq]; simp [vA, fRes_eq]; first | done | exact ⟨⟨rfl, rfl⟩, rfl⟩ | exact ⟨rfl, rfl⟩ | exact rfl | (refine ⟨rfl, ?_⟩; first | done | rfl | simp))); (try simp only [sA]))
            (apply DrO.pure; (case hw => rfl); (case hd => rfl); (case hv => (simp only [List.mem_cons, List.not_mem_nil, or_false, forall_eq_or_imp, forall_eq]; simp [vA, fRes_eq]; first | done | exact ⟨⟨rfl, rfl⟩, rfl⟩ | exact ⟨rfl, rfl⟩ | exact rfl | (refine ⟨rfl, ?_⟩; first | done | rfl | simp))); (try simp only [sA]))
            (apply DrO.pure; (case hw => rfl); (case hd => rfl); (case hv => (simp only [List.mem_cons, List.not_mem_nil, or_false, forall_eq_or_imp, forall_eq]; simp [vA, fRes_eq]; first | done | exact ⟨⟨rfl, rfl⟩, rfl⟩ | exact ⟨rfl, rfl⟩ | exact rfl | (refine ⟨rfl, ?_⟩; first | done | rfl | simp))); (try simp only [sA]))
            apply DrO.row 2 1 [.int .i64 300, .int .i64 2500] rfl rfl (fun st _ => rfl) (by simp) (by simp) (by simp)
            simp only [putA, List.set_cons_zero, List.set_cons_succ]
            apply DrO.eff (.int .i64 q) (⟨[[.int .u64 b3], FB, [.int .i64 T1v, .int .i64 T2v], FS, [.int .i64 R1v, .int .i64 R2v], [.int .i64 H1v, .int .i64 H2v], [.int .i64 1, .int .i64 a, .int .i64 0]], [(hs.length, 3), (2, 1), (2, 1)]⟩) (⟨[[.int .u64 b4], FB, [.int .i64 T1v, .int .i64 T2v], FS, [.int .i64 R1v, .int .i64 R2v], [.int .i64 H1v, .int .i64 H2v], [.int .i64 1, .int .i64 a, .int .i64 0]], [(hs.length, 3), (2, 1), (2, 1)]⟩) rfl rfl rfl rfl rfl (by rw [evOp_call (f := 39) (xs := [.ptr 0 0, .sl [.int .i64 300, .int .i64 2500] (some 2)]) rfl]; exact drum_callT rfl rfl hq1)
            simp only [putA, List.set_cons_zero, List.set_cons_succ]
            apply DrO.eff (.int .i64 d) (⟨[[.int .u64 b4], FB, [.int .i64 T1v, .int .i64 T2v], FS, [.int .i64 R1v, .int .i64 R2v], [.int .i64 H1v, .int .i64 H2v], [.int .i64 1, .int .i64 a, .int .i64 0]], [(hs.length, 3), (2, 1), (2, 1)]⟩) (⟨[[.int .u64 b5], FB, [.int .i64 T1v, .int .i64 T2v], FS, [.int .i64 R1v, .int .i64 R2v], [.int .i64 H1v, .int .i64 H2v], [.int .i64 1, .int .i64 a, .int .i64 0]], [(hs.length, 3), (2, 1), (2, 1)]⟩) rfl rfl rfl rfl rfl (by rw [evOp_call (f := 41) (xs := [.ptr 0 0, .int .i64 1, .int .i64 q]) rfl]; exact drum_callT rfl rfl hd1)
            simp only [putA, List.set_cons_zero, List.set_cons_succ]
            exact DrO.nil rfl
          simp only [List.drop_succ_cons, List.drop_zero, List.getLastD_cons, List.getLastD_nil, List.append_nil, List.cons_append, List.nil_append]
          (repeat (first|((first|refine ExO.nil ?_|refine Ex.skip ?_|refine Ex.ret ?_|refine Ex.exit ?_); try dsimp only)|((first|(refine xI ?_; intro _ _)|refine xL ?_|(refine xB ?_; intro _ _)|refine xG ?_|refine xS ?_|refine xM ?_|(refine xC ?_; intro _ _)|refine xW ?_); try simp only [sA])|refine Ex.seq ?_|refine Ex.reg ?_|refine Ex.block ?_|refine eT ?_|refine eF ?_|simp only [reduceCtorEq, AEx.ex.injEq, Nat.reduceEqDiff, if_true, if_false]))
          rename_i bb hbb
          rw [wd] at hbb
          subst hbb
          have hz1 : hs.length ≤ 65535 := by omega
          have hz3 : hs.length + 1 ≤ 65536 := by omega
          (apply ExO.stG; (case hk => rfl); (case hv => (simp [vA, fRes_eq, hz1, hz3, Hd.av_len]; first|done|exact ⟨⟨rfl,rfl⟩,rfl⟩|exact ⟨rfl,rfl⟩|exact rfl)); (try simp only [sA]))
          (repeat (first|((first|refine ExO.nil ?_|refine Ex.skip ?_|refine Ex.ret ?_|refine Ex.exit ?_); try dsimp only)|((first|(refine xI ?_; intro _ _)|refine xL ?_|(refine xB ?_; intro _ _)|refine xG ?_|refine xS ?_|refine xM ?_|(refine xC ?_; intro _ _)|refine xW ?_); try simp only [sA])|refine Ex.seq ?_|refine Ex.reg ?_|refine Ex.block ?_|refine eT ?_|refine eF ?_|simp only [reduceCtorEq, AEx.ex.injEq, Nat.reduceEqDiff, if_true, if_false]))
          rename_i m3 hm3
          rw [i64_in (by omega) (by omega)] at hm3
          refine ⟨_, _, forgets 6 [0] ([true, false, false, false, true, false, false, true, false, false, true, false, true, false, true, true, false, false, false, false, false, false, false, false, false, false, false, false, false, false, false, false, false, false, false, false, false, false, false, false, false, false, false, false, false, false, false, false, false, false, false, false, false, false, false, false, false, false, false, false, false, false, false, false, false, false, false, false, false, false, false, false, false, false, false, false, false, false, false, false, false, false, false, false, false, false, false, false, false, false, false, false, false, false, false, false, false, false, false, false, false, false, false]) (by decide) (by simp) (bx2 := [[.int .u64 b5], FB, [.int .i64 T1v, .int .i64 T2v], FS, [.int .i64 R1v, .int .i64 R2v], [.int .i64 H1v, .int .i64 H2v]]) (by simp [re, re1, AV.clean, cleanL, hFB, hFS]) (lv2 := [(hs.length + 1, 3)]) (by simp) (by decide), m3.toNat, by omega, m3, b5, hs ++ [⟨1, a, (a + d)⟩], _, _, rfl, by omega, by simp at hcnt ⊢; omega, ?_, .inr ⟨rfl, rfl⟩, ?_, by simp⟩
          · intro h hh
            rcases List.mem_append.1 hh with hh | hh
            · exact hall2 h hh
            simp only [List.mem_singleton] at hh
            subst hh
            exact .inl ⟨rfl, by show 0 ≤ a; omega, by show a < a + d; omega, by show a + d ≤ 20000; omega⟩
          · simp [keepS, re, re1, AV.clean, cleanL, clean_hds, cleanL_append, Hd.av, List.idxOf?, List.findIdx?, List.findIdx?.go]
end Go.Proofs.Ytoefpcpijolofaa
end
section
namespace Go.Proofs.Ytoefpcpijolofaa
open Go.RowKit
set_option linter.unusedVariables false
set_option linter.unusedSimpArgs false
set_option maxRecDepth 10000
set_option maxHeartbeats 4000000

def NB (n : Nat) : ACode → ACode := fun c => match n, c with
  | 0, .seq c _ => c
  | 0, c => c
  | n + 1, .seq _ d => NB n d
  | _, c => c
theorem NB_s (n : Nat) (c d : ACode) : NB (n + 1) (.seq c d) = NB n d := rfl
theorem NB_0 (c d : ACode) : NB 0 (.seq c d) = c := rfl
def narOk (len wid front rear turn kilos mid high : Int) (ls : List Ld) : Prop := FOk ⟨len, wid, front, rear, turn, kilos, mid, high⟩ ∧ (∀ l ∈ ls, LOk ⟨len, wid, front, rear, turn, kilos, mid, high⟩ l) ∧ (ls.length : Int) ≤ 6
def routeOk (hs : List Hd) : Prop := (∀ h ∈ hs, HOk h) ∧ (hs.length : Int) ≤ 5
def N0 (a : List AV) (S : St) : Prop := ∃ len wid front rear turn kilos mid high ls b, narOk len wid front rear turn kilos mid high ls ∧ a = [.junk, .junk, .junk, .ptr 0 0, .ptr 1 0, .junk, .junk, .junk, .junk, .junk, .junk, .junk, .junk, .junk, .junk, .junk, .junk, .junk, .junk, .junk, .junk, .junk, .junk, .junk, .junk, .junk, .junk, .junk, .junk, .junk, .junk, .junk, .junk, .junk, .junk, .junk, .junk, .junk, .junk, .junk, .junk, .junk, .junk, .junk, .junk, .junk, .junk, .junk, .junk, .junk, .junk, .junk, .junk, .junk, .junk, .junk, .junk, .junk, .junk, .junk, .junk, .junk, .junk, .junk, .junk, .junk, .junk, .junk, .junk, .junk, .junk, .junk, .junk, .junk, .junk, .junk, .junk, .junk, .junk, .junk, .junk, .junk, .junk, .junk, .junk, .junk, .junk, .junk, .junk, .junk, .junk, .junk, .junk, .junk, .junk, .junk, .junk, .junk, .junk, .junk, .junk, .junk, .junk, .junk, .junk, .junk, .junk, .junk, .junk, .junk, .junk, .junk, .junk, .junk, .junk, .junk, .junk, .junk, .junk, .junk, .junk, .junk, .junk, .junk, .junk, .junk, .junk, .junk, .junk, .junk, .junk, .junk, .junk, .junk, .junk, .junk, .junk, .junk, .junk, .junk, .junk, .junk, .junk, .junk, .junk, .junk, .junk, .junk, .junk, .junk, .junk, .junk, .junk, .junk, .junk, .junk, .junk, .junk, .junk, .junk, .junk, .junk, .junk, .junk, .junk, .junk, .junk, .junk, .junk, .junk, .junk, .junk, .junk, .junk, .junk, .junk, .junk, .junk, .junk, .junk, .junk, .junk, .junk, .junk, .junk, .junk, .junk, .junk, .junk, .junk, .junk, .junk, .junk, .junk, .junk, .junk, .junk, .junk, .junk, .junk, .junk, .junk, .junk, .junk] ∧ S = ⟨[[.int .u64 b], [.int .i64 len, .int .i64 wid, .int .i64 front, .int .i64 rear, .int .i64 turn, .int .i64 kilos, .int .i64 mid, .int .i64 high, .sl (ls.map Ld.av) none]], []⟩
def N1 (a : List AV) (S : St) : Prop := ∃ len wid front rear turn kilos mid high ls b hs, narOk len wid front rear turn kilos mid high ls ∧ routeOk hs ∧ a = [.junk, .junk, .junk, .ptr 0 0, .ptr 1 0, .sl (hs.map Hd.av) none, .junk, .junk, .junk, .junk, .junk, .junk, .junk, .junk, .junk, .junk, .junk, .junk, .junk, .junk, .junk, .junk, .junk, .junk, .junk, .junk, .junk, .junk, .junk, .junk, .junk, .junk, .junk, .junk, .junk, .junk, .junk, .junk, .junk, .junk, .junk, .junk, .junk, .junk, .junk, .junk, .junk, .junk, .junk, .junk, .junk, .junk, .junk, .junk, .junk, .junk, .junk, .junk, .junk, .junk, .junk, .junk, .junk, .junk, .junk, .junk, .junk, .junk, .junk, .junk, .junk, .junk, .junk, .junk, .junk, .junk, .junk, .junk, .junk, .junk, .junk, .junk, .junk, .junk, .junk, .junk, .junk, .junk, .junk, .junk, .junk, .junk, .junk, .junk, .junk, .junk, .junk, .junk, .junk, .junk, .junk, .junk, .junk, .junk, .junk, .junk, .junk, .junk, .junk, .junk, .junk, .junk, .junk, .junk, .junk, .junk, .junk, .junk, .junk, .junk, .junk, .junk, .junk, .junk, .junk, .junk, .junk, .junk, .junk, .junk, .junk, .junk, .junk, .junk, .junk, .junk, .junk, .junk, .junk, .junk, .junk, .junk, .junk, .junk, .junk, .junk, .junk, .junk, .junk, .junk, .junk, .junk, .junk, .junk, .junk, .junk, .junk, .junk, .junk, .junk, .junk, .junk, .junk, .junk, .junk, .junk, .junk, .junk, .junk, .junk, .junk, .junk, .junk, .junk, .junk, .junk, .junk, .junk, .junk, .junk, .junk, .junk, .junk, .junk, .junk, .junk, .junk, .junk, .junk, .junk, .junk, .junk, .junk, .junk, .junk, .junk, .junk, .junk, .junk, .junk, .junk, .junk, .junk, .junk] ∧ S = ⟨[[.int .u64 b], [.int .i64 len, .int .i64 wid, .int .i64 front, .int .i64 rear, .int .i64 turn, .int .i64 kilos, .int .i64 mid, .int .i64 high, .sl (ls.map Ld.av) none]], []⟩
def N2 (a : List AV) (S : St) : Prop := ∃ len wid front rear turn kilos mid high ls b hs, narOk len wid front rear turn kilos mid high ls ∧ routeOk hs ∧ a = [.junk, .junk, .junk, .ptr 0 0, .ptr 1 0, .sl (hs.map Hd.av) none, .ptr 3 0, .junk, .junk, .junk, .junk, .junk, .junk, .junk, .junk, .junk, .junk, .junk, .junk, .junk, .junk, .junk, .junk, .junk, .junk, .junk, .junk, .junk, .junk, .junk, .junk, .junk, .junk, .junk, .junk, .junk, .junk, .junk, .junk, .junk, .junk, .junk, .junk, .junk, .junk, .junk, .junk, .junk, .junk, .junk, .junk, .junk, .junk, .junk, .junk, .junk, .junk, .junk, .junk, .junk, .junk, .junk, .junk, .junk, .junk, .junk, .junk, .junk, .junk, .junk, .junk, .junk, .junk, .junk, .junk, .junk, .junk, .junk, .junk, .junk, .junk, .junk, .junk, .junk, .junk, .junk, .junk, .junk, .junk, .junk, .junk, .junk, .junk, .junk, .junk, .junk, .junk, .junk, .junk, .junk, .junk, .junk, .junk, .junk, .junk, .junk, .junk, .junk, .junk, .junk, .junk, .junk, .junk, .junk, .junk, .junk, .junk, .junk, .junk, .junk, .junk, .junk, .junk, .junk, .junk, .junk, .junk, .junk, .junk, .junk, .junk, .junk, .junk, .junk, .junk, .junk, .junk, .junk, .junk, .junk, .junk, .junk, .junk, .junk, .junk, .junk, .junk, .junk, .junk, .junk, .junk, .junk, .junk, .junk, .junk, .junk, .junk, .junk, .junk, .junk, .junk, .junk, .junk, .junk, .junk, .junk, .junk, .junk, .junk, .junk, .junk, .junk, .junk, .junk, .junk, .junk, .junk, .junk, .junk, .junk, .junk, .junk, .junk, .junk, .junk, .junk, .junk, .junk, .junk, .junk, .junk, .junk, .junk, .junk, .junk, .junk, .junk, .junk, .junk, .junk, .junk, .junk, .junk, .junk] ∧ ∃ B2 YL, ((ls = [] ∧ B2 = [] ∧ YL = .sl [] none) ∨ (ls ≠ [] ∧ B2 = flat (ls.map Ld.av) ∧ YL = .ms 2 ls.length 7)) ∧ S = ⟨[[.int .u64 b], [.int .i64 len, .int .i64 wid, .int .i64 front, .int .i64 rear, .int .i64 turn, .int .i64 kilos, .int .i64 mid, .int .i64 high, .sl (ls.map Ld.av) none], B2, [.int .i64 len, .int .i64 wid, .int .i64 front, .int .i64 rear, .int .i64 turn, .int .i64 kilos, .int .i64 mid, .int .i64 high, YL]], []⟩
def N3 (a : List AV) (S : St) : Prop := ∃ len wid front rear turn kilos mid high ls ms b hs, narOk len wid front rear turn kilos mid high ls ∧ narL ls ms ∧ routeOk hs ∧ a = [.junk, .junk, .junk, .junk, .ptr 1 0, .sl (hs.map Hd.av) none, .ptr 3 0, .junk, .junk, .junk, .junk, .junk, .junk, .junk, .junk, .junk, .junk, .junk, .junk, .junk, .junk, .junk, .junk, .junk, .junk, .junk, .junk, .junk, .junk, .junk, .junk, .junk, .junk, .junk, .junk, .junk, .junk, .junk, .junk, .junk, .junk, .junk, .junk, .junk, .junk, .junk, .junk, .junk, .junk, .junk, .junk, .junk, .junk, .junk, .junk, .junk, .junk, .junk, .junk, .junk, .junk, .junk, .junk, .junk, .junk, .junk, .junk, .junk, .junk, .junk, .junk, .junk, .junk, .junk, .junk, .junk, .junk, .junk, .junk, .junk, .junk, .junk, .junk, .junk, .junk, .junk, .junk, .junk, .junk, .junk, .junk, .junk, .junk, .junk, .junk, .junk, .junk, .junk, .junk, .junk, .junk, .junk, .junk, .junk, .junk, .junk, .junk, .junk, .junk, .junk, .junk, .junk, .junk, .junk, .junk, .junk, .junk, .junk, .junk, .junk, .junk, .junk, .junk, .junk, .junk, .junk, .junk, .junk, .junk, .junk, .junk, .junk, .junk, .junk, .junk, .junk, .junk, .junk, .junk, .junk, .junk, .junk, .junk, .junk, .junk, .junk, .junk, .junk, .junk, .junk, .junk, .junk, .junk, .junk, .junk, .junk, .junk, .junk, .junk, .junk, .junk, .junk, .junk, .junk, .junk, .junk, .junk, .junk, .junk, .junk, .junk, .junk, .junk, .junk, .junk, .junk, .junk, .junk, .junk, .junk, .junk, .junk, .junk, .junk, .junk, .junk, .junk, .junk, .junk, .junk, .junk, .junk, .junk, .junk, .junk, .junk, .junk, .junk, .junk, .junk, .junk, .junk, .junk, .junk] ∧ S = ⟨[[.int .u64 b], [.int .i64 len, .int .i64 wid, .int .i64 front, .int .i64 rear, .int .i64 turn, .int .i64 kilos, .int .i64 mid, .int .i64 high, .sl (ls.map Ld.av) none], [], [.int .i64 len, .int .i64 wid, .int .i64 front, .int .i64 rear, .int .i64 turn, .int .i64 kilos, .int .i64 mid, .int .i64 high, .sl (ms.map Ld.av) none]], []⟩

theorem nph0 (b0 : Int) : Ex 0 .plain Try.prog (NB 2 F6.code) ([.junk, .junk, .junk, .ptr 0 0, .junk, .junk, .junk, .junk, .junk, .junk, .junk, .junk, .junk, .junk, .junk, .junk, .junk, .junk, .junk, .junk, .junk, .junk, .junk, .junk, .junk, .junk, .junk, .junk, .junk, .junk, .junk, .junk, .junk, .junk, .junk, .junk, .junk, .junk, .junk, .junk, .junk, .junk, .junk, .junk, .junk, .junk, .junk, .junk, .junk, .junk, .junk, .junk, .junk, .junk, .junk, .junk, .junk, .junk, .junk, .junk, .junk, .junk, .junk, .junk, .junk, .junk, .junk, .junk, .junk, .junk, .junk, .junk, .junk, .junk, .junk, .junk, .junk, .junk, .junk, .junk, .junk, .junk, .junk, .junk, .junk, .junk, .junk, .junk, .junk, .junk, .junk, .junk, .junk, .junk, .junk, .junk, .junk, .junk, .junk, .junk, .junk, .junk, .junk, .junk, .junk, .junk, .junk, .junk, .junk, .junk, .junk, .junk, .junk, .junk, .junk, .junk, .junk, .junk, .junk, .junk, .junk, .junk, .junk, .junk, .junk, .junk, .junk, .junk, .junk, .junk, .junk, .junk, .junk, .junk, .junk, .junk, .junk, .junk, .junk, .junk, .junk, .junk, .junk, .junk, .junk, .junk, .junk, .junk, .junk, .junk, .junk, .junk, .junk, .junk, .junk, .junk, .junk, .junk, .junk, .junk, .junk, .junk, .junk, .junk, .junk, .junk, .junk, .junk, .junk, .junk, .junk, .junk, .junk, .junk, .junk, .junk, .junk, .junk, .junk, .junk, .junk, .junk, .junk, .junk, .junk, .junk, .junk, .junk, .junk, .junk, .junk, .junk, .junk, .junk, .junk, .junk, .junk, .junk, .junk, .junk, .junk, .junk, .junk, .junk]) ⟨[[.int .u64 b0]], []⟩ fun x a' S' => x = .norm ∧ ∃ a2 S2, Forgets 0 a' S' a2 S2 ∧ N0 a2 S2 := by
  unfold F6
  simp only [NB_s, NB_0]
  (repeat (first|((first|refine ExO.nil ?_|refine Ex.skip ?_|refine Ex.ret ?_|refine Ex.exit ?_); try dsimp only)|((first|(refine xI ?_; intro _ _)|refine xL ?_|(refine xB ?_; intro _ _)|refine xG ?_|refine xS ?_|refine xM ?_|(refine xC ?_; intro _ _)|refine xW ?_); try simp only [sA])|refine Ex.seq ?_|refine Ex.reg ?_|refine Ex.block ?_|refine eT ?_|refine eF ?_|simp only [reduceCtorEq, AEx.ex.injEq, Nat.reduceEqDiff, if_true, if_false]))
  refine ExO.call (f := 12) (xs := [.ptr 0 0, .int .i64 6]) (ys := [.ptr 0 0, .int .i64 6]) (bs := [0]) (cells := [[.int .u64 b0]]) (by rfl) (by rfl) (by rfl) (by rfl) (by rfl) (by rfl) (floatOf_m b0 6 (by omega) (by omega)) ?_
  rintro v c' ⟨f, L0, ls, b1, rfl, rfl, hL0, hF, hall, hlen⟩
  obtain ⟨len, wid, front, rear, turn, kilos, mid, high⟩ := f
  rcases hL0 with ⟨t, rfl⟩ | ⟨rfl, rfl⟩
  · refine ⟨.agg [.int .i64 len, .int .i64 wid, .int .i64 front, .int .i64 rear, .int .i64 turn, .int .i64 kilos, .int .i64 mid, .int .i64 high, .sl (ls.map Ld.av) none], by simp [back, back1, Fl.cells, AV.plain, AV.plain1, AV.clean, cleanL, clean_lds], rfl, ?_⟩
    simp only [List.map_cons, List.map_nil, putA, List.set_cons_zero, List.set_cons_succ, AV.plain, AV.plain1, setAll, List.length_cons, List.length_nil, List.drop_succ_cons, List.drop_zero, List.drop_nil, List.append_nil, Nat.reduceAdd]
    (repeat (first|((first|refine ExO.nil ?_|refine Ex.skip ?_|refine Ex.ret ?_|refine Ex.exit ?_); try dsimp only)|((first|(refine xI ?_; intro _ _)|refine xL ?_|(refine xB ?_; intro _ _)|refine xG ?_|refine xS ?_|refine xM ?_|(refine xC ?_; intro _ _)|refine xW ?_); try simp only [sA])|refine Ex.seq ?_|refine Ex.reg ?_|refine Ex.block ?_|refine eT ?_|refine eF ?_|simp only [reduceCtorEq, AEx.ex.injEq, Nat.reduceEqDiff, if_true, if_false]))
    exact ⟨by first | rfl | trivial, _, _, forgets 2 [] ([false, false, false, true, true, false, false, false, false, false, false, false, false, false, false, false, false, false, false, false, false, false, false, false, false, false, false, false, false, false, false, false, false, false, false, false, false, false, false, false, false, false, false, false, false, false, false, false, false, false, false, false, false, false, false, false, false, false, false, false, false, false, false, false, false, false, false, false, false, false, false, false, false, false, false, false, false, false, false, false, false, false, false, false, false, false, false, false, false, false, false, false, false, false, false, false, false, false, false, false, false, false, false, false, false, false, false, false, false, false, false, false, false, false, false, false, false, false, false, false, false, false, false, false, false, false, false, false, false, false, false, false, false, false, false, false, false, false, false, false, false, false, false, false, false, false, false, false, false, false, false, false, false, false, false, false, false, false, false, false, false, false, false, false, false, false, false, false, false, false, false, false, false, false, false, false, false, false, false, false, false, false, false, false, false, false, false, false, false, false, false, false, false, false, false, false, false, false, false, false, false, false, false, false]) (by decide) (by simp) (bx2 := [[.int .u64 b1], [.int .i64 len, .int .i64 wid, .int .i64 front, .int .i64 rear, .int .i64 turn, .int .i64 kilos, .int .i64 mid, .int .i64 high, .sl (ls.map Ld.av) none]]) (by simp [re, re1, AV.clean, clean_lds]) (by rfl) (by decide), len, wid, front, rear, turn, kilos, mid, high, ls, b1, ⟨hF, hall, hlen⟩, by rfl, by rfl⟩
  · refine ⟨.agg [.int .i64 len, .int .i64 wid, .int .i64 front, .int .i64 rear, .int .i64 turn, .int .i64 kilos, .int .i64 mid, .int .i64 high, .nils], by rfl, rfl, ?_⟩
    simp only [List.map_cons, List.map_nil, putA, List.set_cons_zero, List.set_cons_succ, AV.plain, AV.plain1, setAll, List.length_cons, List.length_nil, List.drop_succ_cons, List.drop_zero, List.drop_nil, List.append_nil, Nat.reduceAdd]
    (repeat (first|((first|refine ExO.nil ?_|refine Ex.skip ?_|refine Ex.ret ?_|refine Ex.exit ?_); try dsimp only)|((first|(refine xI ?_; intro _ _)|refine xL ?_|(refine xB ?_; intro _ _)|refine xG ?_|refine xS ?_|refine xM ?_|(refine xC ?_; intro _ _)|refine xW ?_); try simp only [sA])|refine Ex.seq ?_|refine Ex.reg ?_|refine Ex.block ?_|refine eT ?_|refine eF ?_|simp only [reduceCtorEq, AEx.ex.injEq, Nat.reduceEqDiff, if_true, if_false]))
    exact ⟨by first | rfl | trivial, _, _, (fade [] [[], [false, false, false, false, false, false, false, false, true]]).trans (forgets 2 [] ([false, false, false, true, true, false, false, false, false, false, false, false, false, false, false, false, false, false, false, false, false, false, false, false, false, false, false, false, false, false, false, false, false, false, false, false, false, false, false, false, false, false, false, false, false, false, false, false, false, false, false, false, false, false, false, false, false, false, false, false, false, false, false, false, false, false, false, false, false, false, false, false, false, false, false, false, false, false, false, false, false, false, false, false, false, false, false, false, false, false, false, false, false, false, false, false, false, false, false, false, false, false, false, false, false, false, false, false, false, false, false, false, false, false, false, false, false, false, false, false, false, false, false, false, false, false, false, false, false, false, false, false, false, false, false, false, false, false, false, false, false, false, false, false, false, false, false, false, false, false, false, false, false, false, false, false, false, false, false, false, false, false, false, false, false, false, false, false, false, false, false, false, false, false, false, false, false, false, false, false, false, false, false, false, false, false, false, false, false, false, false, false, false, false, false, false, false, false, false, false, false, false, false, false]) (by decide) (by simp [chillB]) (bx2 := [[.int .u64 b1], [.int .i64 len, .int .i64 wid, .int .i64 front, .int .i64 rear, .int .i64 turn, .int .i64 kilos, .int .i64 mid, .int .i64 high, .sl [] none]]) (by rfl) (by rfl) (by decide)), len, wid, front, rear, turn, kilos, mid, high, [], b1, ⟨hF, hall, hlen⟩, by rfl, by rfl⟩

theorem nph1 {a : List AV} {S : St} (h : N0 a S) : Ex 0 .plain Try.prog (NB 3 F6.code) a S fun x a' S' => x = .norm ∧ ∃ a2 S2, Forgets 0 a' S' a2 S2 ∧ N1 a2 S2 := by
  obtain ⟨len, wid, front, rear, turn, kilos, mid, high, ls, b, ⟨hF, hall, hlen⟩, rfl, rfl⟩ := h
  unfold F6
  simp only [NB_s, NB_0]
  (repeat (first|((first|refine ExO.nil ?_|refine Ex.skip ?_|refine Ex.ret ?_|refine Ex.exit ?_); try dsimp only)|((first|(refine xI ?_; intro _ _)|refine xL ?_|(refine xB ?_; intro _ _)|refine xG ?_|refine xS ?_|refine xM ?_|(refine xC ?_; intro _ _)|refine xW ?_); try simp only [sA])|refine Ex.seq ?_|refine Ex.reg ?_|refine Ex.block ?_|refine eT ?_|refine eF ?_|simp only [reduceCtorEq, AEx.ex.injEq, Nat.reduceEqDiff, if_true, if_false]))
  refine ExO.call (f := 13) (xs := [.ptr 0 0, .agg [.int .i64 len, .int .i64 wid, .int .i64 front, .int .i64 rear, .int .i64 turn, .int .i64 kilos, .int .i64 mid, .int .i64 high, .sl (ls.map Ld.av) none], .int .i64 5]) (ys := [.ptr 0 0, .agg [.int .i64 len, .int .i64 wid, .int .i64 front, .int .i64 rear, .int .i64 turn, .int .i64 kilos, .int .i64 mid, .int .i64 high, .sl (ls.map Ld.av) none], .int .i64 5]) (bs := [0]) (cells := [[.int .u64 b]]) (by rfl) (by rfl) (by rfl) (by simp [ren, ren1, AV.plain, AV.plain1, AV.clean, cleanL, clean_lds, List.idxOf?, List.findIdx?, List.findIdx?.go]) (by rfl) (by rfl) (routeOf_m b 5 (by omega) (by omega) len wid front rear turn kilos mid high hF ls (by omega) hall) ?_
  rintro v c' ⟨hs, b1, rfl, rfl, h1, h2⟩
  refine ⟨.sl (hs.map Hd.av) none, by simp [back, back1, AV.plain, AV.plain1, AV.clean, clean_hds], rfl, ?_⟩
  simp only [List.map_cons, List.map_nil, putA, List.set_cons_zero, List.set_cons_succ, AV.plain, AV.plain1, setAll, List.length_cons, List.length_nil, List.drop_succ_cons, List.drop_zero, List.drop_nil, List.append_nil, Nat.reduceAdd]
  (repeat (first|((first|refine ExO.nil ?_|refine Ex.skip ?_|refine Ex.ret ?_|refine Ex.exit ?_); try dsimp only)|((first|(refine xI ?_; intro _ _)|refine xL ?_|(refine xB ?_; intro _ _)|refine xG ?_|refine xS ?_|refine xM ?_|(refine xC ?_; intro _ _)|refine xW ?_); try simp only [sA])|refine Ex.seq ?_|refine Ex.reg ?_|refine Ex.block ?_|refine eT ?_|refine eF ?_|simp only [reduceCtorEq, AEx.ex.injEq, Nat.reduceEqDiff, if_true, if_false]))
  exact ⟨by first | rfl | trivial, _, _, forgets 2 [] ([false, false, false, true, true, true, false, false, false, false, false, false, false, false, false, false, false, false, false, false, false, false, false, false, false, false, false, false, false, false, false, false, false, false, false, false, false, false, false, false, false, false, false, false, false, false, false, false, false, false, false, false, false, false, false, false, false, false, false, false, false, false, false, false, false, false, false, false, false, false, false, false, false, false, false, false, false, false, false, false, false, false, false, false, false, false, false, false, false, false, false, false, false, false, false, false, false, false, false, false, false, false, false, false, false, false, false, false, false, false, false, false, false, false, false, false, false, false, false, false, false, false, false, false, false, false, false, false, false, false, false, false, false, false, false, false, false, false, false, false, false, false, false, false, false, false, false, false, false, false, false, false, false, false, false, false, false, false, false, false, false, false, false, false, false, false, false, false, false, false, false, false, false, false, false, false, false, false, false, false, false, false, false, false, false, false, false, false, false, false, false, false, false, false, false, false, false, false, false, false, false, false, false, false]) (by decide) (by simp) (bx2 := [[.int .u64 b1], [.int .i64 len, .int .i64 wid, .int .i64 front, .int .i64 rear, .int .i64 turn, .int .i64 kilos, .int .i64 mid, .int .i64 high, .sl (ls.map Ld.av) none]]) (by simp [re, re1, AV.clean, clean_lds]) (by rfl) (by decide), len, wid, front, rear, turn, kilos, mid, high, ls, b1, hs, ⟨hF, hall, hlen⟩, ⟨h1, h2⟩, (by simp [keepS, re, re1, AV.clean, clean_hds]), by rfl⟩

theorem nph2 {a : List AV} {S : St} (h : N1 a S) : Ex 0 .plain Try.prog (NB 4 F6.code) a S fun x a' S' => x = .norm ∧ ∃ a2 S2, Forgets 0 a' S' a2 S2 ∧ N2 a2 S2 := by
  obtain ⟨len, wid, front, rear, turn, kilos, mid, high, ls, b, hs, ⟨hF, hall, hlen⟩, hR, rfl, rfl⟩ := h
  unfold F6
  simp only [NB_s, NB_0]
  by_cases hne : ls = []
  · subst hne
    refine Ex.forget grow ?_
    simp only [List.cons_append, List.nil_append]
    (repeat (first|((first|refine ExO.nil ?_|refine Ex.skip ?_|refine Ex.ret ?_|refine Ex.exit ?_); try dsimp only)|((first|(refine xI ?_; intro _ _)|refine xL ?_|(refine xB ?_; intro _ _)|refine xG ?_|refine xS ?_|refine xM ?_|(refine xC ?_; intro _ _)|refine xW ?_); try simp only [sA])|refine Ex.seq ?_|refine Ex.reg ?_|refine Ex.block ?_|refine eT ?_|refine eF ?_|simp only [reduceCtorEq, AEx.ex.injEq, Nat.reduceEqDiff, if_true, if_false]))
    refine ExO.call (f := 36) (xs := [.agg [.int .i64 len, .int .i64 wid, .int .i64 front, .int .i64 rear, .int .i64 turn, .int .i64 kilos, .int .i64 mid, .int .i64 high, .sl [] none]]) (ys := [.agg [.int .i64 len, .int .i64 wid, .int .i64 front, .int .i64 rear, .int .i64 turn, .int .i64 kilos, .int .i64 mid, .int .i64 high, .sl [] none]]) (bs := []) (cells := []) (by rfl) (by rfl) (by rfl) (by rfl) (by rfl) (by rfl) (ownFloat_m ⟨len, wid, front, rear, turn, kilos, mid, high⟩ (.sl [] none) [] (by simp) (.inl ⟨none, rfl⟩)) ?_
    rintro v c' ⟨rfl, t, rfl, _⟩
    refine ⟨.agg [.int .i64 len, .int .i64 wid, .int .i64 front, .int .i64 rear, .int .i64 turn, .int .i64 kilos, .int .i64 mid, .int .i64 high, .sl [] none], by cases t <;> rfl, rfl, ?_⟩
    simp only [List.map_cons, List.map_nil, putA, List.set_cons_zero, List.set_cons_succ, AV.plain, AV.plain1, setAll, List.length_cons, List.length_nil, List.drop_succ_cons, List.drop_zero, List.drop_nil, List.append_nil, Nat.reduceAdd]
    (repeat (first|((first|refine ExO.nil ?_|refine Ex.skip ?_|refine Ex.ret ?_|refine Ex.exit ?_); try dsimp only)|((first|(refine xI ?_; intro _ _)|refine xL ?_|(refine xB ?_; intro _ _)|refine xG ?_|refine xS ?_|refine xM ?_|(refine xC ?_; intro _ _)|refine xW ?_); try simp only [sA])|refine Ex.seq ?_|refine Ex.reg ?_|refine Ex.block ?_|refine eT ?_|refine eF ?_|simp only [reduceCtorEq, AEx.ex.injEq, Nat.reduceEqDiff, if_true, if_false]))
    exact ⟨by first | rfl | trivial, _, _, forgets 4 [] ([false, false, false, true, true, true, true, false, false, false, false, false, false, false, false, false, false, false, false, false, false, false, false, false, false, false, false, false, false, false, false, false, false, false, false, false, false, false, false, false, false, false, false, false, false, false, false, false, false, false, false, false, false, false, false, false, false, false, false, false, false, false, false, false, false, false, false, false, false, false, false, false, false, false, false, false, false, false, false, false, false, false, false, false, false, false, false, false, false, false, false, false, false, false, false, false, false, false, false, false, false, false, false, false, false, false, false, false, false, false, false, false, false, false, false, false, false, false, false, false, false, false, false, false, false, false, false, false, false, false, false, false, false, false, false, false, false, false, false, false, false, false, false, false, false, false, false, false, false, false, false, false, false, false, false, false, false, false, false, false, false, false, false, false, false, false, false, false, false, false, false, false, false, false, false, false, false, false, false, false, false, false, false, false, false, false, false, false, false, false, false, false, false, false, false, false, false, false, false, false, false, false, false, false]) (by decide) (by simp) (bx2 := [[.int .u64 b], [.int .i64 len, .int .i64 wid, .int .i64 front, .int .i64 rear, .int .i64 turn, .int .i64 kilos, .int .i64 mid, .int .i64 high, .sl [] none], [], [.int .i64 len, .int .i64 wid, .int .i64 front, .int .i64 rear, .int .i64 turn, .int .i64 kilos, .int .i64 mid, .int .i64 high, .sl [] none]]) (by rfl) (by rfl) (by decide), len, wid, front, rear, turn, kilos, mid, high, [], b, hs, ⟨hF, hall, hlen⟩, hR, (by simp [keepS, re, re1, AV.clean, clean_hds]), [], .sl [] none, .inl ⟨rfl, rfl, rfl⟩, by rfl⟩
  · have hpos := List.length_pos_iff.2 hne
    (repeat (first|((first|refine ExO.nil ?_|refine Ex.skip ?_|refine Ex.ret ?_|refine Ex.exit ?_); try dsimp only)|((first|(refine xI ?_; intro _ _)|refine xL ?_|(refine xB ?_; intro _ _)|refine xG ?_|refine xS ?_|refine xM ?_|(refine xC ?_; intro _ _)|refine xW ?_); try simp only [sA])|refine Ex.seq ?_|refine Ex.reg ?_|refine Ex.block ?_|refine eT ?_|refine eF ?_|simp only [reduceCtorEq, AEx.ex.injEq, Nat.reduceEqDiff, if_true, if_false]))
    refine ExO.callT (f := 36) (xs := [.agg [.int .i64 len, .int .i64 wid, .int .i64 front, .int .i64 rear, .int .i64 turn, .int .i64 kilos, .int .i64 mid, .int .i64 high, .sl (ls.map Ld.av) none]]) (ys := [.agg [.int .i64 len, .int .i64 wid, .int .i64 front, .int .i64 rear, .int .i64 turn, .int .i64 kilos, .int .i64 mid, .int .i64 high, .sl (ls.map Ld.av) none]]) (by rfl) (by rfl) (by rfl) (by simp [ren, ren1, AV.plain, AV.plain1, AV.clean, cleanL, clean_lds]) (ownFloat_t ⟨len, wid, front, rear, turn, kilos, mid, high⟩ ls (by omega) hne) ?_
    rintro v lv ⟨rfl, hlv⟩
    refine ⟨_, 8, ls.map Ld.av, 0, ls.length, 7, rfl, rfl, ?_, hlv, by simp, hpos, by omega, lds_cells ls, lds_scal ls, ?_⟩
    · intro j y hy hj
      rcases j with _ | _ | _ | _ | _ | _ | _ | _ | _ | j <;> simp [Fl.cells] at hy <;> first | (subst hy; rfl) | omega
    simp only [Fl.cells, putA, List.set_cons_zero, List.set_cons_succ, List.length_cons, List.length_nil, List.cons_append, List.nil_append, Nat.reduceAdd]
    (repeat (first|((first|refine ExO.nil ?_|refine Ex.skip ?_|refine Ex.ret ?_|refine Ex.exit ?_); try dsimp only)|((first|(refine xI ?_; intro _ _)|refine xL ?_|(refine xB ?_; intro _ _)|refine xG ?_|refine xS ?_|refine xM ?_|(refine xC ?_; intro _ _)|refine xW ?_); try simp only [sA])|refine Ex.seq ?_|refine Ex.reg ?_|refine Ex.block ?_|refine eT ?_|refine eF ?_|simp only [reduceCtorEq, AEx.ex.injEq, Nat.reduceEqDiff, if_true, if_false]))
    exact ⟨by first | rfl | trivial, _, _, forgets 4 [] ([false, false, false, true, true, true, true, false, false, false, false, false, false, false, false, false, false, false, false, false, false, false, false, false, false, false, false, false, false, false, false, false, false, false, false, false, false, false, false, false, false, false, false, false, false, false, false, false, false, false, false, false, false, false, false, false, false, false, false, false, false, false, false, false, false, false, false, false, false, false, false, false, false, false, false, false, false, false, false, false, false, false, false, false, false, false, false, false, false, false, false, false, false, false, false, false, false, false, false, false, false, false, false, false, false, false, false, false, false, false, false, false, false, false, false, false, false, false, false, false, false, false, false, false, false, false, false, false, false, false, false, false, false, false, false, false, false, false, false, false, false, false, false, false, false, false, false, false, false, false, false, false, false, false, false, false, false, false, false, false, false, false, false, false, false, false, false, false, false, false, false, false, false, false, false, false, false, false, false, false, false, false, false, false, false, false, false, false, false, false, false, false, false, false, false, false, false, false, false, false, false, false, false, false]) (by decide) (by simp) (bx2 := [[.int .u64 b], [.int .i64 len, .int .i64 wid, .int .i64 front, .int .i64 rear, .int .i64 turn, .int .i64 kilos, .int .i64 mid, .int .i64 high, .sl (ls.map Ld.av) none], flat (ls.map Ld.av), [.int .i64 len, .int .i64 wid, .int .i64 front, .int .i64 rear, .int .i64 turn, .int .i64 kilos, .int .i64 mid, .int .i64 high, .ms 2 ls.length 7]]) (by simp [re, re1, AV.clean, clean_lds, lds_re]) (by rfl) (by decide), len, wid, front, rear, turn, kilos, mid, high, ls, b, hs, ⟨hF, hall, hlen⟩, hR, (by simp [keepS, re, re1, AV.clean, clean_hds]), _, _, .inr ⟨hne, rfl, rfl⟩, by rfl⟩

theorem nph3 {a : List AV} {S : St} (h : N2 a S) : Ex 0 .plain Try.prog (NB 5 F6.code) a S fun x a' S' => x = .norm ∧ ∃ a2 S2, Forgets 0 a' S' a2 S2 ∧ N3 a2 S2 := by
  obtain ⟨len, wid, front, rear, turn, kilos, mid, high, ls, b, hs, ⟨hF, hall, hlen⟩, hR, rfl, B2, YL, hc, rfl⟩ := h
  unfold F6
  simp only [NB_s, NB_0]
  rcases hc with ⟨rfl, rfl, rfl⟩ | ⟨hne, rfl, rfl⟩
  · (repeat (first|((first|refine ExO.nil ?_|refine Ex.skip ?_|refine Ex.ret ?_|refine Ex.exit ?_); try dsimp only)|((first|(refine xI ?_; intro _ _)|refine xL ?_|(refine xB ?_; intro _ _)|refine xG ?_|refine xS ?_|refine xM ?_|(refine xC ?_; intro _ _)|refine xW ?_); try simp only [sA])|refine Ex.seq ?_|refine Ex.reg ?_|refine Ex.block ?_|refine eT ?_|refine eF ?_|simp only [reduceCtorEq, AEx.ex.injEq, Nat.reduceEqDiff, if_true, if_false]))
    refine Ex.loopF (fun k a S => k = 0 ∧ a = [.junk, .junk, .junk, .ptr 0 0, .ptr 1 0, .sl (hs.map Hd.av) none, .ptr 3 0, .int .i64 0, .junk, .junk, .junk, .junk, .junk, .junk, .junk, .junk, .junk, .junk, .junk, .junk, .junk, .junk, .junk, .junk, .junk, .junk, .junk, .junk, .junk, .junk, .junk, .junk, .junk, .junk, .junk, .junk, .junk, .junk, .junk, .junk, .junk, .junk, .junk, .junk, .junk, .junk, .junk, .junk, .junk, .junk, .junk, .junk, .junk, .junk, .junk, .junk, .junk, .junk, .junk, .junk, .junk, .junk, .junk, .junk, .junk, .junk, .junk, .junk, .junk, .junk, .junk, .junk, .junk, .junk, .junk, .junk, .junk, .junk, .junk, .junk, .junk, .junk, .junk, .junk, .junk, .junk, .junk, .junk, .junk, .junk, .junk, .junk, .junk, .junk, .junk, .junk, .junk, .junk, .junk, .junk, .junk, .junk, .junk, .junk, .junk, .junk, .junk, .junk, .junk, .junk, .junk, .junk, .junk, .junk, .junk, .junk, .junk, .junk, .junk, .junk, .junk, .junk, .junk, .junk, .junk, .junk, .junk, .junk, .junk, .junk, .junk, .junk, .junk, .junk, .junk, .junk, .junk, .junk, .junk, .junk, .junk, .junk, .junk, .junk, .junk, .junk, .junk, .junk, .junk, .junk, .junk, .junk, .junk, .junk, .junk, .junk, .junk, .junk, .junk, .junk, .junk, .junk, .junk, .junk, .junk, .junk, .junk, .junk, .junk, .junk, .junk, .junk, .junk, .junk, .junk, .junk, .junk, .junk, .junk, .junk, .junk, .junk, .junk, .junk, .junk, .junk, .junk, .junk, .junk, .junk, .junk, .junk, .junk, .junk, .junk, .junk, .junk, .junk, .junk, .junk, .junk, .junk, .junk, .junk] ∧ S = ⟨[[.int .u64 b], [.int .i64 len, .int .i64 wid, .int .i64 front, .int .i64 rear, .int .i64 turn, .int .i64 kilos, .int .i64 mid, .int .i64 high, .sl [] none], [], [.int .i64 len, .int .i64 wid, .int .i64 front, .int .i64 rear, .int .i64 turn, .int .i64 kilos, .int .i64 mid, .int .i64 high, .sl [] none]], []⟩) 0 ⟨_, _, Forgets.refl _ _ _, rfl, by rfl, by rfl⟩ ?_
    rintro k a S ⟨rfl, rfl, rfl⟩
    (repeat (first|((first|refine ExO.nil ?_|refine Ex.skip ?_|refine Ex.ret ?_|refine Ex.exit ?_); try dsimp only)|((first|(refine xI ?_; intro _ _)|refine xL ?_|(refine xB ?_; intro _ _)|refine xG ?_|refine xS ?_|refine xM ?_|(refine xC ?_; intro _ _)|(refine xJ ?_; intro _ _)|refine xW ?_); try simp only [sA])|refine Ex.seq ?_|refine Ex.reg ?_|refine Ex.block ?_|refine eT ?_|refine eF ?_|simp only [reduceCtorEq, AEx.ex.injEq, Nat.reduceEqDiff, if_true, if_false]))
    exact ⟨by first | rfl | trivial, _, _, forgets 4 [] ([false, false, false, false, true, true, true, false, false, false, false, false, false, false, false, false, false, false, false, false, false, false, false, false, false, false, false, false, false, false, false, false, false, false, false, false, false, false, false, false, false, false, false, false, false, false, false, false, false, false, false, false, false, false, false, false, false, false, false, false, false, false, false, false, false, false, false, false, false, false, false, false, false, false, false, false, false, false, false, false, false, false, false, false, false, false, false, false, false, false, false, false, false, false, false, false, false, false, false, false, false, false, false, false, false, false, false, false, false, false, false, false, false, false, false, false, false, false, false, false, false, false, false, false, false, false, false, false, false, false, false, false, false, false, false, false, false, false, false, false, false, false, false, false, false, false, false, false, false, false, false, false, false, false, false, false, false, false, false, false, false, false, false, false, false, false, false, false, false, false, false, false, false, false, false, false, false, false, false, false, false, false, false, false, false, false, false, false, false, false, false, false, false, false, false, false, false, false, false, false, false, false, false, false]) (by decide) (by simp) (bx2 := [[.int .u64 b], [.int .i64 len, .int .i64 wid, .int .i64 front, .int .i64 rear, .int .i64 turn, .int .i64 kilos, .int .i64 mid, .int .i64 high, .sl [] none], [], [.int .i64 len, .int .i64 wid, .int .i64 front, .int .i64 rear, .int .i64 turn, .int .i64 kilos, .int .i64 mid, .int .i64 high, .sl [] none]]) (by rfl) (by rfl) (by decide), len, wid, front, rear, turn, kilos, mid, high, [], [], b, hs, ⟨hF, hall, hlen⟩, trivial, hR, (by simp [keepS, re, re1, AV.clean, clean_hds]), by rfl⟩
  · (repeat (first|((first|refine ExO.nil ?_|refine Ex.skip ?_|refine Ex.ret ?_|refine Ex.exit ?_); try dsimp only)|((first|(refine xI ?_; intro _ _)|refine xL ?_|(refine xB ?_; intro _ _)|refine xG ?_|refine xS ?_|refine xM ?_|(refine xC ?_; intro _ _)|refine xW ?_); try simp only [sA])|refine Ex.seq ?_|refine Ex.reg ?_|refine Ex.block ?_|refine eT ?_|refine eF ?_|simp only [reduceCtorEq, AEx.ex.injEq, Nat.reduceEqDiff, if_true, if_false]))
    refine Ex.loopF (fun k a S => ∃ (i : Nat) (bb : Int) (ys : List Ld), ys.length = ls.length ∧ (∀ (j : Nat) l m, ls[j]? = some l → ys[j]? = some m → Nar l m ∧ (i ≤ j → m = l)) ∧ i ≤ ls.length ∧ k = ls.length - i ∧ a = [.junk, .junk, .junk, .ptr 0 0, .ptr 1 0, .sl (hs.map Hd.av) none, .ptr 3 0, .int .i64 i, .junk, .junk, .junk, .junk, .junk, .junk, .junk, .junk, .junk, .junk, .junk, .junk, .junk, .junk, .junk, .junk, .junk, .junk, .junk, .junk, .junk, .junk, .junk, .junk, .junk, .junk, .junk, .junk, .junk, .junk, .junk, .junk, .junk, .junk, .junk, .junk, .junk, .junk, .junk, .junk, .junk, .junk, .junk, .junk, .junk, .junk, .junk, .junk, .junk, .junk, .junk, .junk, .junk, .junk, .junk, .junk, .junk, .junk, .junk, .junk, .junk, .junk, .junk, .junk, .junk, .junk, .junk, .junk, .junk, .junk, .junk, .junk, .junk, .junk, .junk, .junk, .junk, .junk, .junk, .junk, .junk, .junk, .junk, .junk, .junk, .junk, .junk, .junk, .junk, .junk, .junk, .junk, .junk, .junk, .junk, .junk, .junk, .junk, .junk, .junk, .junk, .junk, .junk, .junk, .junk, .junk, .junk, .junk, .junk, .junk, .junk, .junk, .junk, .junk, .junk, .junk, .junk, .junk, .junk, .junk, .junk, .junk, .junk, .junk, .junk, .junk, .junk, .junk, .junk, .junk, .junk, .junk, .junk, .junk, .junk, .junk, .junk, .junk, .junk, .junk, .junk, .junk, .junk, .junk, .junk, .junk, .junk, .junk, .junk, .junk, .junk, .junk, .junk, .junk, .junk, .junk, .junk, .junk, .junk, .junk, .junk, .junk, .junk, .junk, .junk, .junk, .junk, .junk, .junk, .junk, .junk, .junk, .junk, .junk, .junk, .junk, .junk, .junk, .junk, .junk, .junk, .junk, .junk, .junk, .junk, .junk, .junk, .junk, .junk, .junk, .junk, .junk, .junk, .junk, .junk, .junk] ∧ S = ⟨[[.int .u64 bb], [.int .i64 len, .int .i64 wid, .int .i64 front, .int .i64 rear, .int .i64 turn, .int .i64 kilos, .int .i64 mid, .int .i64 high, .sl (ls.map Ld.av) none], flat (ys.map Ld.av), [.int .i64 len, .int .i64 wid, .int .i64 front, .int .i64 rear, .int .i64 turn, .int .i64 kilos, .int .i64 mid, .int .i64 high, .ms 2 ls.length 7]], []⟩) ls.length ⟨_, _, Forgets.refl _ _ _, 0, b, ls, rfl, ?_, Nat.zero_le _, rfl, by rfl, by rfl⟩ ?_
    · intro j l m h1 h2
      rw [h1] at h2; cases h2
      have := hall l (List.mem_of_getElem? h1)
      have h3 : front ≤ l.pt ∧ l.pt ≤ rear ∧ 0 ≤ l.klo ∧ l.klo ≤ l.khi ∧ l.khi ≤ 900 ∧ 0 ≤ l.tlo ∧ l.tlo ≤ l.thi ∧ l.thi ≤ 700 ∧ 1 ≤ l.kind ∧ l.kind ≤ 4 ∧ 0 ≤ l.watts ∧ l.watts < 3000 ∧ (l.watts = 0 ∨ l.kind = 2 ∨ l.kind = 3) := this
      exact ⟨⟨rfl, rfl, rfl, Int.le_refl _, by omega, Int.le_refl _, Int.le_refl _, by omega, Int.le_refl _⟩, fun _ => rfl⟩
    rintro k a S ⟨i, bb, ys, hyl, hnr, hin, rfl, rfl, rfl⟩
    (repeat (first|((first|refine ExO.nil ?_|refine Ex.skip ?_|refine Ex.ret ?_|refine Ex.exit ?_); try dsimp only)|((first|(refine xI ?_; intro _ _)|refine xL ?_|(refine xB ?_; intro _ _)|refine xG ?_|refine xS ?_|refine xM ?_|(refine xC ?_; intro _ _)|(refine xJ ?_; intro _ _)|refine xW ?_); try simp only [sA])|refine Ex.seq ?_|refine Ex.reg ?_|refine Ex.block ?_|refine eT ?_|refine eF ?_|simp only [reduceCtorEq, AEx.ex.injEq, Nat.reduceEqDiff, if_true, if_false]))
    rename_i c hc
    cases c
    · have hge : ls.length ≤ i := by have := hc.symm; simp at this; omega
      have hyne : ys ≠ [] := by
        intro h0; rw [h0] at hyl; have := List.length_pos_iff.2 hne; simp at hyl; omega
      (repeat (first|((first|refine ExO.nil ?_|refine Ex.skip ?_|refine Ex.ret ?_|refine Ex.exit ?_); try dsimp only)|((first|(refine xI ?_; intro _ _)|refine xL ?_|(refine xB ?_; intro _ _)|refine xG ?_|refine xS ?_|refine xM ?_|(refine xC ?_; intro _ _)|(refine xJ ?_; intro _ _)|refine xW ?_); try simp only [sA])|refine Ex.seq ?_|refine Ex.reg ?_|refine Ex.block ?_|refine eT ?_|refine eF ?_|simp only [reduceCtorEq, AEx.ex.injEq, Nat.reduceEqDiff, if_true, if_false]))
      exact ⟨by first | rfl | trivial, _, _, (chill 2 ls.length 7 (ys.map Ld.av) [] [[], [], [], [false, false, false, false, false, false, false, false, true]] rfl (lds_ne ys hyne) (by simp [hyl]) (lds_cells ys)).trans (forgets 4 [] ([false, false, false, false, true, true, true, false, false, false, false, false, false, false, false, false, false, false, false, false, false, false, false, false, false, false, false, false, false, false, false, false, false, false, false, false, false, false, false, false, false, false, false, false, false, false, false, false, false, false, false, false, false, false, false, false, false, false, false, false, false, false, false, false, false, false, false, false, false, false, false, false, false, false, false, false, false, false, false, false, false, false, false, false, false, false, false, false, false, false, false, false, false, false, false, false, false, false, false, false, false, false, false, false, false, false, false, false, false, false, false, false, false, false, false, false, false, false, false, false, false, false, false, false, false, false, false, false, false, false, false, false, false, false, false, false, false, false, false, false, false, false, false, false, false, false, false, false, false, false, false, false, false, false, false, false, false, false, false, false, false, false, false, false, false, false, false, false, false, false, false, false, false, false, false, false, false, false, false, false, false, false, false, false, false, false, false, false, false, false, false, false, false, false, false, false, false, false, false, false, false, false, false, false]) (by decide) (by simp [chillB]) (bx2 := [[.int .u64 bb], [.int .i64 len, .int .i64 wid, .int .i64 front, .int .i64 rear, .int .i64 turn, .int .i64 kilos, .int .i64 mid, .int .i64 high, .sl (ls.map Ld.av) none], [], [.int .i64 len, .int .i64 wid, .int .i64 front, .int .i64 rear, .int .i64 turn, .int .i64 kilos, .int .i64 mid, .int .i64 high, .sl (ys.map Ld.av) none]]) (by simp [chillB, chillL, chillV, re_int, re, re1, AV.clean, clean_lds]) (by rfl) (by decide)), len, wid, front, rear, turn, kilos, mid, high, ls, ys, bb, hs, ⟨hF, hall, hlen⟩, narL_of ls ys hyl (fun j l m h1 h2 => (hnr j l m h1 h2).1), hR, by simp [chillL, keepS, re, re1, AV.clean, clean_hds], by rfl⟩
    · have hlt : i < ls.length := by have := hc.symm; simp at this; omega
      (repeat (first|((first|refine ExO.nil ?_|refine Ex.skip ?_|refine Ex.ret ?_|refine Ex.exit ?_); try dsimp only)|((first|(refine xI ?_; intro _ _)|refine xL ?_|(refine xB ?_; intro _ _)|refine xG ?_|refine xS ?_|refine xM ?_|(refine xC ?_; intro _ _)|(refine xJ ?_; intro _ _)|refine xW ?_); try simp only [sA])|refine Ex.seq ?_|refine Ex.reg ?_|refine Ex.block ?_|refine eT ?_|refine eF ?_|simp only [reduceCtorEq, AEx.ex.injEq, Nat.reduceEqDiff, if_true, if_false]))
      have hl : ls[i]? = some ls[i] := List.getElem?_eq_getElem (by omega)
      have hlo := hall ls[i] (List.getElem_mem (by omega))
      have hyi : ys[i]? = some ys[i] := List.getElem?_eq_getElem (by omega)
      have hyl2 := (hnr i _ _ hl hyi).2 (Nat.le_refl _)
      rw [hyl2] at hyi
      clear hyl2
      generalize ls[i] = l at hl hlo hyi
      obtain ⟨pt, klo, khi, tlo, thi, kind, watts⟩ := l
      have hlo' : front ≤ pt ∧ pt ≤ rear ∧ 0 ≤ klo ∧ klo ≤ khi ∧ khi ≤ 900 ∧ 0 ≤ tlo ∧ tlo ≤ thi ∧ thi ≤ 700 ∧ 1 ≤ kind ∧ kind ≤ 4 ∧ 0 ≤ watts ∧ watts < 3000 ∧ (watts = 0 ∨ kind = 2 ∨ kind = 3) := hlo
      obtain ⟨p1, q1, b2, o1, m1, m2, m3⟩ := less_o bb klo khi (by omega) (by omega) (by omega)
      obtain ⟨p2, q2, b3, o2, m4, m5, m6⟩ := less_o b2 tlo thi (by omega) (by omega) (by omega)
      have hlt' : (i : Int) < (ls.length : Int) := by omega
      have hy2 : (ys.set i (⟨pt, p1, q1, tlo, thi, kind, watts⟩ : Ld))[i]? = some (⟨pt, p1, q1, tlo, thi, kind, watts⟩ : Ld) := by rw [List.getElem?_set_self (by omega)]
      have hs1 := lds_setkk p1 q1 hyi
      have hs2 := lds_settt p2 q2 hy2
      rw [List.set_set] at hs2
      simp only [] at hs1 hs2
      have hz1 : i * 7 + 1 + 2 ≤ (flat (ys.map Ld.av)).length := by rw [lds_flatlen, hyl]; omega
      have hz2 : i * 7 + 3 + 2 ≤ (flat ((ys.set i (⟨pt, p1, q1, tlo, thi, kind, watts⟩ : Ld)).map Ld.av)).length := by rw [lds_flatlen, List.length_set, hyl]; omega
      apply Ex.drawE T6_ok [] [] [⟨[[.int .u64 b2], [.int .i64 len, .int .i64 wid, .int .i64 front, .int .i64 rear, .int .i64 turn, .int .i64 kilos, .int .i64 mid, .int .i64 high, .sl (ls.map Ld.av) none], flat (ys.map Ld.av), [.int .i64 len, .int .i64 wid, .int .i64 front, .int .i64 rear, .int .i64 turn, .int .i64 kilos, .int .i64 mid, .int .i64 high, .ms 2 ls.length 7]], []⟩, ⟨[[.int .u64 b3], [.int .i64 len, .int .i64 wid, .int .i64 front, .int .i64 rear, .int .i64 turn, .int .i64 kilos, .int .i64 mid, .int .i64 high, .sl (ls.map Ld.av) none], flat (ys.map Ld.av), [.int .i64 len, .int .i64 wid, .int .i64 front, .int .i64 rear, .int .i64 turn, .int .i64 kilos, .int .i64 mid, .int .i64 high, .ms 2 ls.length 7]], []⟩, ⟨[[.int .u64 b3], [.int .i64 len, .int .i64 wid, .int .i64 front, .int .i64 rear, .int .i64 turn, .int .i64 kilos, .int .i64 mid, .int .i64 high, .sl (ls.map Ld.av) none], flat ((ys.set i (⟨pt, p1, q1, tlo, thi, kind, watts⟩ : Ld)).map Ld.av), [.int .i64 len, .int .i64 wid, .int .i64 front, .int .i64 rear, .int .i64 turn, .int .i64 kilos, .int .i64 mid, .int .i64 high, .ms 2 ls.length 7]], []⟩]
      case hD =>
        simp only [List.take_succ_cons, List.take_zero, List.append_nil]
        (repeat (apply DrO.pure; (case hw => rfl); (case hd => rfl); (case hv => (simp only [List.mem_cons, List.not_mem_nil, or_false, forall_eq_or_imp, forall_eq]; simp [vA, fRes_eq, hl, hlt', Ld.av_cells]; first | done | exact ⟨⟨rfl, rfl⟩, rfl⟩ | exact ⟨rfl, rfl⟩ | exact rfl | (refine ⟨rfl, ?_⟩; first | done | rfl | simp))); (try simp only [sA])))
        apply DrO.eff (.agg [.int .i64 p1, .int .i64 q1]) (⟨[[.int .u64 bb], [.int .i64 len, .int .i64 wid, .int .i64 front, .int .i64 rear, .int .i64 turn, .int .i64 kilos, .int .i64 mid, .int .i64 high, .sl (ls.map Ld.av) none], flat (ys.map Ld.av), [.int .i64 len, .int .i64 wid, .int .i64 front, .int .i64 rear, .int .i64 turn, .int .i64 kilos, .int .i64 mid, .int .i64 high, .ms 2 ls.length 7]], []⟩) (⟨[[.int .u64 b2], [.int .i64 len, .int .i64 wid, .int .i64 front, .int .i64 rear, .int .i64 turn, .int .i64 kilos, .int .i64 mid, .int .i64 high, .sl (ls.map Ld.av) none], flat (ys.map Ld.av), [.int .i64 len, .int .i64 wid, .int .i64 front, .int .i64 rear, .int .i64 turn, .int .i64 kilos, .int .i64 mid, .int .i64 high, .ms 2 ls.length 7]], []⟩) rfl rfl rfl rfl rfl (by rw [evOp_call (f := 37) (xs := [.ptr 0 0, .agg [.int .i64 klo, .int .i64 khi]]) rfl]; exact drum_callA rfl rfl o1)
        simp only [putA, List.set_cons_zero, List.set_cons_succ]
        (repeat (apply DrO.pure; (case hw => rfl); (case hd => rfl); (case hv => (simp only [List.mem_cons, List.not_mem_nil, or_false, forall_eq_or_imp, forall_eq]; simp [vA, fRes_eq, hl, hlt', Ld.av_cells]; first | done | exact ⟨⟨rfl, rfl⟩, rfl⟩ | exact ⟨rfl, rfl⟩ | exact rfl | (refine ⟨rfl, ?_⟩; first | done | rfl | simp))); (try simp only [sA])))
        apply DrO.eff (.agg [.int .i64 p2, .int .i64 q2]) (⟨[[.int .u64 b2], [.int .i64 len, .int .i64 wid, .int .i64 front, .int .i64 rear, .int .i64 turn, .int .i64 kilos, .int .i64 mid, .int .i64 high, .sl (ls.map Ld.av) none], flat (ys.map Ld.av), [.int .i64 len, .int .i64 wid, .int .i64 front, .int .i64 rear, .int .i64 turn, .int .i64 kilos, .int .i64 mid, .int .i64 high, .ms 2 ls.length 7]], []⟩) (⟨[[.int .u64 b3], [.int .i64 len, .int .i64 wid, .int .i64 front, .int .i64 rear, .int .i64 turn, .int .i64 kilos, .int .i64 mid, .int .i64 high, .sl (ls.map Ld.av) none], flat (ys.map Ld.av), [.int .i64 len, .int .i64 wid, .int .i64 front, .int .i64 rear, .int .i64 turn, .int .i64 kilos, .int .i64 mid, .int .i64 high, .ms 2 ls.length 7]], []⟩) rfl rfl rfl rfl rfl (by rw [evOp_call (f := 37) (xs := [.ptr 0 0, .agg [.int .i64 tlo, .int .i64 thi]]) rfl]; exact drum_callA rfl rfl o2)
        simp only [putA, List.set_cons_zero, List.set_cons_succ]
        (apply DrO.pure; (case hw => rfl); (case hd => rfl); (case hv => (simp only [List.mem_cons, List.not_mem_nil, or_false, forall_eq_or_imp, forall_eq]; simp [vA, fRes_eq, hlt']; first | done | exact ⟨⟨rfl, rfl⟩, rfl⟩ | exact ⟨rfl, rfl⟩ | exact rfl | (refine ⟨rfl, ?_⟩; first | done | rfl | simp))); (try simp only [sA]))
        (apply DrO.pure; (case hw => rfl); (case hd => rfl); (case hv => (simp only [List.mem_cons, List.not_mem_nil, or_false, forall_eq_or_imp, forall_eq]; simp [vA, fRes_eq]; first | done | exact ⟨⟨rfl, rfl⟩, rfl⟩ | exact ⟨rfl, rfl⟩ | exact rfl | (refine ⟨rfl, ?_⟩; first | done | rfl | simp))); (try simp only [sA]))
        apply DrO.eff (.tup []) (⟨[[.int .u64 b3], [.int .i64 len, .int .i64 wid, .int .i64 front, .int .i64 rear, .int .i64 turn, .int .i64 kilos, .int .i64 mid, .int .i64 high, .sl (ls.map Ld.av) none], flat (ys.map Ld.av), [.int .i64 len, .int .i64 wid, .int .i64 front, .int .i64 rear, .int .i64 turn, .int .i64 kilos, .int .i64 mid, .int .i64 high, .ms 2 ls.length 7]], []⟩) (⟨[[.int .u64 b3], [.int .i64 len, .int .i64 wid, .int .i64 front, .int .i64 rear, .int .i64 turn, .int .i64 kilos, .int .i64 mid, .int .i64 high, .sl (ls.map Ld.av) none], flat ((ys.set i (⟨pt, p1, q1, tlo, thi, kind, watts⟩ : Ld)).map Ld.av), [.int .i64 len, .int .i64 wid, .int .i64 front, .int .i64 rear, .int .i64 turn, .int .i64 kilos, .int .i64 mid, .int .i64 high, .ms 2 ls.length 7]], []⟩) rfl rfl rfl rfl rfl (by
          simp [evOp, evf_eq, fRes_eq, aop, evd, finish, AV.okCells, AV.cells, AV.scalar, hz1]
          rw [hs1, List.map_set])
        simp only [putA, List.set_cons_zero, List.set_cons_succ]
        exact DrO.nil rfl
      simp only [List.drop_succ_cons, List.drop_zero, List.getLastD_cons, List.getLastD_nil, List.append_nil, List.cons_append, List.nil_append]
      (apply ExO.stG; (case hk => rfl); (case hv => (simp [vA, fRes_eq, hlt']; first|done|exact ⟨⟨rfl,rfl⟩,rfl⟩|exact ⟨rfl,rfl⟩|exact rfl)); (try simp only [sA]))
      (apply ExO.stG; (case hk => rfl); (case hv => (simp [vA, fRes_eq]; first|done|exact ⟨⟨rfl,rfl⟩,rfl⟩|exact ⟨rfl,rfl⟩|exact rfl)); (try simp only [sA]))
      refine ExO.stG (.tup []) (⟨[[.int .u64 b3], [.int .i64 len, .int .i64 wid, .int .i64 front, .int .i64 rear, .int .i64 turn, .int .i64 kilos, .int .i64 mid, .int .i64 high, .sl (ls.map Ld.av) none], flat ((ys.set i (⟨pt, p1, q1, p2, q2, kind, watts⟩ : Ld)).map Ld.av), [.int .i64 len, .int .i64 wid, .int .i64 front, .int .i64 rear, .int .i64 turn, .int .i64 kilos, .int .i64 mid, .int .i64 high, .ms 2 ls.length 7]], []⟩) rfl (by
        rw [List.map_set] at hz2
        rw [List.map_set, List.map_set] at hs2
        simp [evOp, evf_eq, fRes_eq, aop, evd, finish, AV.okCells, AV.cells, AV.scalar, hz2]
        exact hs2) ?_
      (repeat (first|((first|refine ExO.nil ?_|refine Ex.skip ?_|refine Ex.ret ?_|refine Ex.exit ?_); try dsimp only)|((first|(refine xI ?_; intro _ _)|refine xL ?_|(refine xB ?_; intro _ _)|refine xG ?_|refine xS ?_|refine xM ?_|(refine xC ?_; intro _ _)|(refine xJ ?_; intro _ _)|refine xW ?_); try simp only [sA])|refine Ex.seq ?_|refine Ex.reg ?_|refine Ex.block ?_|refine eT ?_|refine eF ?_|simp only [reduceCtorEq, AEx.ex.injEq, Nat.reduceEqDiff, if_true, if_false]))
      rename_i i2 hi2
      rw [i64_in (by omega) (by omega)] at hi2
      have hre := lds_re 4 [] (ys.set i (⟨pt, p1, q1, p2, q2, kind, watts⟩ : Ld))
      rw [List.map_set] at hre
      refine ⟨_, _, forgets 4 [] ([false, false, false, true, true, true, true, true, false, false, false, false, false, false, false, false, false, false, false, false, false, false, false, false, false, false, false, false, false, false, false, false, false, false, false, false, false, false, false, false, false, false, false, false, false, false, false, false, false, false, false, false, false, false, false, false, false, false, false, false, false, false, false, false, false, false, false, false, false, false, false, false, false, false, false, false, false, false, false, false, false, false, false, false, false, false, false, false, false, false, false, false, false, false, false, false, false, false, false, false, false, false, false, false, false, false, false, false, false, false, false, false, false, false, false, false, false, false, false, false, false, false, false, false, false, false, false, false, false, false, false, false, false, false, false, false, false, false, false, false, false, false, false, false, false, false, false, false, false, false, false, false, false, false, false, false, false, false, false, false, false, false, false, false, false, false, false, false, false, false, false, false, false, false, false, false, false, false, false, false, false, false, false, false, false, false, false, false, false, false, false, false, false, false, false, false, false, false, false, false, false, false, false, false]) (by decide) (by simp) (bx2 := [[.int .u64 b3], [.int .i64 len, .int .i64 wid, .int .i64 front, .int .i64 rear, .int .i64 turn, .int .i64 kilos, .int .i64 mid, .int .i64 high, .sl (ls.map Ld.av) none], flat ((ys.set i (⟨pt, p1, q1, p2, q2, kind, watts⟩ : Ld)).map Ld.av), [.int .i64 len, .int .i64 wid, .int .i64 front, .int .i64 rear, .int .i64 turn, .int .i64 kilos, .int .i64 mid, .int .i64 high, .ms 2 ls.length 7]]) (by simp [re, re1, AV.clean, clean_lds, hre]) (by rfl) (by decide), ls.length - (i + 1), by omega, i + 1, b3, ys.set i (⟨pt, p1, q1, p2, q2, kind, watts⟩ : Ld), by rw [List.length_set]; exact hyl, fun j l m h1 h2 => ?_, by omega, rfl, by rw [hi2]; simp [keepS, re, re1, AV.clean, clean_hds], by rfl⟩
      rw [List.getElem?_set] at h2
      split at h2
      · rename_i hij
        subst hij
        split at h2
        · cases h2
          rw [hl] at h1; cases h1
          exact ⟨⟨rfl, rfl, rfl, m1, m2, m3, m4, m5, m6⟩, fun h => by omega⟩
        · cases h2
      · rename_i hij
        exact ⟨(hnr j l m h1 h2).1, fun h => (hnr j l m h1 h2).2 (by omega)⟩
end Go.Proofs.Ytoefpcpijolofaa
end
section
namespace Go.Proofs.Ytoefpcpijolofaa
open Go.RowKit
set_option linter.unusedVariables false
set_option linter.unusedSimpArgs false

inductive QO (S : St) : List AOper → List AV → List AV → Prop
  | nil {a : List AV} : QO S [] a a
  | val {x : AOper} {l : List AOper} {a a1 : List AV} (v : AV) (hw : wantedA x.guard a = some true) (hv : aop x.op (evd a) S = some (.val v)) (h : QO S l (putA a x.dst v) a1) : QO S (x :: l) a a1
  | skip {x : AOper} {l : List AOper} {a a1 : List AV} (hw : wantedA x.guard a = some false) (h : QO S l (putA a x.dst (.tup [])) a1) : QO S (x :: l) a a1
theorem QO.evQ {S : St} {l : List AOper} {a a1 : List AV} (h : QO S l a a1) : Proofs.Ytoefpcpijolofaa.evQ noClr l a S = some a1 := by
  induction h with
  | nil => rfl
  | val v hw hv h ih =>
    rw [evQ_cons]
    unfold stepQ
    rw [hw, evf_eq, hv]
    exact ih
  | skip hw h ih =>
    rw [evQ_cons]
    unfold stepQ
    rw [hw]
    exact ih
theorem QO.evOps {S : St} {l : List AOper} {a a1 : List AV} (h : QO S l a a1) : Proofs.Ytoefpcpijolofaa.evOps noClr l a S = some (a1, S) := by
  induction h with
  | nil => rfl
  | val v hw hv h ih => simp [Proofs.Ytoefpcpijolofaa.evOps, hw, evOp, evf_eq, hv, fRes_eq, finish, fv_eq, putK_eq, sp_eq, ih]
  | skip hw h ih => simp [Proofs.Ytoefpcpijolofaa.evOps, hw, fv_eq, putK_eq, ih]
theorem Ex.drawQ {n0 : Nat} {md : Md} {P : Program} {m : Nat} {xs : List AOper} {a a1 a2 : List AV} {S : St} {Q : AEx → List AV → St → Prop} (hq : ((xs.take m).all fun x => quietA x.op && (match x.dst with | some d => decide (d < a.length) | none => true)) = true) (h : QO S (xs.take m) a a1) (h2 : QO S (xs.drop m) a1 a2) (k : Q .norm a2 S) : Ex n0 md P (.dreg m xs) a S Q := by
  refine Ex.dreg (noClr_ok P) (a' := a2) (S' := S) ?_ k
  have key : ∀ (B : Bool), B = true → (match (bif B then evQ noClr (xs.take m) a S else none) with
    | some a1 => evOps noClr (xs.drop m) a1 S
    | none => evDrawG noClr m xs a S) = some (a2, S) := by
    rintro _ rfl
    rw [cond_true, h.evQ]
    exact h2.evOps
  unfold evDraw
  exact key _ hq
end Go.Proofs.Ytoefpcpijolofaa
end
section
namespace Go.Proofs.Ytoefpcpijolofaa
open Go.RowKit
set_option linter.unusedVariables false
set_option maxRecDepth 100000

def inl (f : FuncId) : Bool := Nat.beq f 87
noncomputable def X4 : Clr := clrN tab inl noClr 300 14
theorem X4_ok : ClrOk Try.prog X4 := clrN_ok (noClr_ok _) tab_ok 300 14
def ld (a b c d e f g : Int) : AV := .agg [.int .i64 a, .int .i64 b, .int .i64 c, .int .i64 d, .int .i64 e, .int .i64 f, .int .i64 g]
def swanC (m : Int) : List AV := [.int .i64 1000, .int .i64 300, .int .i64 200, .int .i64 800, .int .i64 900, .int .i64 4000, .int .i64 m, .int .i64 400, .sl [ld 300 500 600 450 500 1 0, ld 700 1000 1000 380 380 2 5000, ld 500 100 200 300 350 3 3000, ld 600 50 50 400 520 4 0] none]
def mid9 : List AV := swanC 900
end Go.Proofs.Ytoefpcpijolofaa
end
section
namespace Go.Proofs.Ytoefpcpijolofaa
open Go.RowKit
set_option linter.unusedVariables false
set_option maxRecDepth 100000
theorem b1_50000 : evFn X4 300 F71 [.int .i64 50000, .ptr 0 0, .ptr 1 0] [mid9, [.int .i64 200]] = some (.bool true, [mid9, [.int .i64 200]]) := by kernel_rfl
theorem b1_25000 : evFn X4 300 F71 [.int .i64 25000, .ptr 0 0, .ptr 1 0] [mid9, [.int .i64 200]] = some (.bool true, [mid9, [.int .i64 200]]) := by kernel_rfl
theorem b1_12500 : evFn X4 300 F71 [.int .i64 12500, .ptr 0 0, .ptr 1 0] [mid9, [.int .i64 200]] = some (.bool true, [mid9, [.int .i64 200]]) := by kernel_rfl
theorem b1_6250 : evFn X4 300 F71 [.int .i64 6250, .ptr 0 0, .ptr 1 0] [mid9, [.int .i64 200]] = some (.bool true, [mid9, [.int .i64 200]]) := by kernel_rfl
theorem b1_3125 : evFn X4 300 F71 [.int .i64 3125, .ptr 0 0, .ptr 1 0] [mid9, [.int .i64 200]] = some (.bool true, [mid9, [.int .i64 200]]) := by kernel_rfl
theorem b1_1562 : evFn X4 300 F71 [.int .i64 1562, .ptr 0 0, .ptr 1 0] [mid9, [.int .i64 200]] = some (.bool true, [mid9, [.int .i64 200]]) := by kernel_rfl
theorem b1_781 : evFn X4 300 F71 [.int .i64 781, .ptr 0 0, .ptr 1 0] [mid9, [.int .i64 200]] = some (.bool true, [mid9, [.int .i64 200]]) := by kernel_rfl
theorem b1_390 : evFn X4 300 F71 [.int .i64 390, .ptr 0 0, .ptr 1 0] [mid9, [.int .i64 200]] = some (.bool true, [mid9, [.int .i64 200]]) := by kernel_rfl
theorem b1_195 : evFn X4 300 F71 [.int .i64 195, .ptr 0 0, .ptr 1 0] [mid9, [.int .i64 200]] = some (.bool true, [mid9, [.int .i64 200]]) := by kernel_rfl
end Go.Proofs.Ytoefpcpijolofaa
end
section
namespace Go.Proofs.Ytoefpcpijolofaa
open Go.RowKit
set_option linter.unusedVariables false
set_option maxRecDepth 100000
theorem b1_97 : evFn X4 300 F71 [.int .i64 97, .ptr 0 0, .ptr 1 0] [mid9, [.int .i64 200]] = some (.bool true, [mid9, [.int .i64 200]]) := by kernel_rfl
theorem b1_48 : evFn X4 300 F71 [.int .i64 48, .ptr 0 0, .ptr 1 0] [mid9, [.int .i64 200]] = some (.bool true, [mid9, [.int .i64 200]]) := by kernel_rfl
theorem b1_24 : evFn X4 300 F71 [.int .i64 24, .ptr 0 0, .ptr 1 0] [mid9, [.int .i64 200]] = some (.bool true, [mid9, [.int .i64 200]]) := by kernel_rfl
theorem b1_12 : evFn X4 300 F71 [.int .i64 12, .ptr 0 0, .ptr 1 0] [mid9, [.int .i64 200]] = some (.bool false, [mid9, [.int .i64 200]]) := by kernel_rfl
theorem b1_18 : evFn X4 300 F71 [.int .i64 18, .ptr 0 0, .ptr 1 0] [mid9, [.int .i64 200]] = some (.bool true, [mid9, [.int .i64 200]]) := by kernel_rfl
theorem b1_15 : evFn X4 300 F71 [.int .i64 15, .ptr 0 0, .ptr 1 0] [mid9, [.int .i64 200]] = some (.bool false, [mid9, [.int .i64 200]]) := by kernel_rfl
theorem b1_17 : evFn X4 300 F71 [.int .i64 17, .ptr 0 0, .ptr 1 0] [mid9, [.int .i64 200]] = some (.bool true, [mid9, [.int .i64 200]]) := by kernel_rfl
theorem b1_16 : evFn X4 300 F71 [.int .i64 16, .ptr 0 0, .ptr 1 0] [mid9, [.int .i64 200]] = some (.bool false, [mid9, [.int .i64 200]]) := by kernel_rfl
end Go.Proofs.Ytoefpcpijolofaa
end
section
namespace Go.Proofs.Ytoefpcpijolofaa
open Go.RowKit
set_option linter.unusedVariables false
set_option maxRecDepth 100000
theorem b2_50000 : evFn X4 300 F73 [.int .i64 50000, .ptr 0 0, .ptr 1 0, .ptr 2 0] [mid9, [.int .i64 200], [.nils]] = some (.bool false, [mid9, [.int .i64 200], [.nils]]) := by kernel_rfl
theorem b2_75001 : evFn X4 300 F73 [.int .i64 75001, .ptr 0 0, .ptr 1 0, .ptr 2 0] [mid9, [.int .i64 200], [.nils]] = some (.bool false, [mid9, [.int .i64 200], [.nils]]) := by kernel_rfl
theorem b2_87501 : evFn X4 300 F73 [.int .i64 87501, .ptr 0 0, .ptr 1 0, .ptr 2 0] [mid9, [.int .i64 200], [.nils]] = some (.bool false, [mid9, [.int .i64 200], [.nils]]) := by kernel_rfl
theorem b2_93751 : evFn X4 300 F73 [.int .i64 93751, .ptr 0 0, .ptr 1 0, .ptr 2 0] [mid9, [.int .i64 200], [.nils]] = some (.bool false, [mid9, [.int .i64 200], [.nils]]) := by kernel_rfl
theorem b2_96876 : evFn X4 300 F73 [.int .i64 96876, .ptr 0 0, .ptr 1 0, .ptr 2 0] [mid9, [.int .i64 200], [.nils]] = some (.bool false, [mid9, [.int .i64 200], [.nils]]) := by kernel_rfl
theorem b2_98439 : evFn X4 300 F73 [.int .i64 98439, .ptr 0 0, .ptr 1 0, .ptr 2 0] [mid9, [.int .i64 200], [.nils]] = some (.bool false, [mid9, [.int .i64 200], [.nils]]) := by kernel_rfl
theorem b2_99220 : evFn X4 300 F73 [.int .i64 99220, .ptr 0 0, .ptr 1 0, .ptr 2 0] [mid9, [.int .i64 200], [.nils]] = some (.bool false, [mid9, [.int .i64 200], [.nils]]) := by kernel_rfl
theorem b2_99611 : evFn X4 300 F73 [.int .i64 99611, .ptr 0 0, .ptr 1 0, .ptr 2 0] [mid9, [.int .i64 200], [.nils]] = some (.bool false, [mid9, [.int .i64 200], [.nils]]) := by kernel_rfl
theorem b2_99806 : evFn X4 300 F73 [.int .i64 99806, .ptr 0 0, .ptr 1 0, .ptr 2 0] [mid9, [.int .i64 200], [.nils]] = some (.bool false, [mid9, [.int .i64 200], [.nils]]) := by kernel_rfl
end Go.Proofs.Ytoefpcpijolofaa
end
section
namespace Go.Proofs.Ytoefpcpijolofaa
open Go.RowKit
set_option linter.unusedVariables false
set_option maxRecDepth 100000
theorem b2_99904 : evFn X4 300 F73 [.int .i64 99904, .ptr 0 0, .ptr 1 0, .ptr 2 0] [mid9, [.int .i64 200], [.nils]] = some (.bool false, [mid9, [.int .i64 200], [.nils]]) := by kernel_rfl
theorem b2_99953 : evFn X4 300 F73 [.int .i64 99953, .ptr 0 0, .ptr 1 0, .ptr 2 0] [mid9, [.int .i64 200], [.nils]] = some (.bool false, [mid9, [.int .i64 200], [.nils]]) := by kernel_rfl
theorem b2_99977 : evFn X4 300 F73 [.int .i64 99977, .ptr 0 0, .ptr 1 0, .ptr 2 0] [mid9, [.int .i64 200], [.nils]] = some (.bool false, [mid9, [.int .i64 200], [.nils]]) := by kernel_rfl
theorem b2_99989 : evFn X4 300 F73 [.int .i64 99989, .ptr 0 0, .ptr 1 0, .ptr 2 0] [mid9, [.int .i64 200], [.nils]] = some (.bool false, [mid9, [.int .i64 200], [.nils]]) := by kernel_rfl
theorem b2_99995 : evFn X4 300 F73 [.int .i64 99995, .ptr 0 0, .ptr 1 0, .ptr 2 0] [mid9, [.int .i64 200], [.nils]] = some (.bool false, [mid9, [.int .i64 200], [.nils]]) := by kernel_rfl
theorem b2_99998 : evFn X4 300 F73 [.int .i64 99998, .ptr 0 0, .ptr 1 0, .ptr 2 0] [mid9, [.int .i64 200], [.nils]] = some (.bool false, [mid9, [.int .i64 200], [.nils]]) := by kernel_rfl
theorem b2_100000 : evFn X4 300 F73 [.int .i64 100000, .ptr 0 0, .ptr 1 0, .ptr 2 0] [mid9, [.int .i64 200], [.nils]] = some (.bool false, [mid9, [.int .i64 200], [.nils]]) := by kernel_rfl
end Go.Proofs.Ytoefpcpijolofaa
end
section
namespace Go.Proofs.Ytoefpcpijolofaa
open Go.RowKit
set_option linter.unusedVariables false
set_option maxRecDepth 100000

structure Known (P : Program) where
  f : FuncId
  xs : List AV
  cells : List (List AV)
  v : AV
  cells' : List (List AV)
  h : Contract P f xs cells v cells'
def knO {P : Program} : List (Known P) → Orc
  | [], _, _, _ => none
  | e :: l, f, xs, cells => bif Nat.beq e.f f && (beqL e.xs xs && bxBeq e.cells cells) then some (e.v, e.cells') else knO l f xs cells
theorem knO_ok {P : Program} : ∀ (l : List (Known P)), OrcOk P (knO l)
  | [], _, _, _, _, _, h => by cases h
  | e :: l, f, xs, cells, v, c', h => by
    simp only [knO] at h
    cases hc : (Nat.beq e.f f && (beqL e.xs xs && bxBeq e.cells cells)) with
    | true =>
      rw [hc, cond_true] at h
      cases h
      simp only [Bool.and_eq_true] at hc
      have := e.h
      rw [Nat.eq_of_beq_eq_true hc.1, beqL_eq _ _ hc.2.1, bxBeq_eq _ _ hc.2.2] at this
      exact this
    | false =>
      rw [hc, cond_false] at h
      exact knO_ok l f xs cells v c' h
def known1 : List (Known Try.prog) := [⟨71, [.int .i64 50000, .ptr 0 0, .ptr 1 0], [mid9, [.int .i64 200]], .bool true, [mid9, [.int .i64 200]], evFn_ok X4_ok comp71 b1_50000⟩,⟨71, [.int .i64 25000, .ptr 0 0, .ptr 1 0], [mid9, [.int .i64 200]], .bool true, [mid9, [.int .i64 200]], evFn_ok X4_ok comp71 b1_25000⟩,⟨71, [.int .i64 12500, .ptr 0 0, .ptr 1 0], [mid9, [.int .i64 200]], .bool true, [mid9, [.int .i64 200]], evFn_ok X4_ok comp71 b1_12500⟩,⟨71, [.int .i64 6250, .ptr 0 0, .ptr 1 0], [mid9, [.int .i64 200]], .bool true, [mid9, [.int .i64 200]], evFn_ok X4_ok comp71 b1_6250⟩,⟨71, [.int .i64 3125, .ptr 0 0, .ptr 1 0], [mid9, [.int .i64 200]], .bool true, [mid9, [.int .i64 200]], evFn_ok X4_ok comp71 b1_3125⟩,⟨71, [.int .i64 1562, .ptr 0 0, .ptr 1 0], [mid9, [.int .i64 200]], .bool true, [mid9, [.int .i64 200]], evFn_ok X4_ok comp71 b1_1562⟩,⟨71, [.int .i64 781, .ptr 0 0, .ptr 1 0], [mid9, [.int .i64 200]], .bool true, [mid9, [.int .i64 200]], evFn_ok X4_ok comp71 b1_781⟩,⟨71, [.int .i64 390, .ptr 0 0, .ptr 1 0], [mid9, [.int .i64 200]], .bool true, [mid9, [.int .i64 200]], evFn_ok X4_ok comp71 b1_390⟩,⟨71, [.int .i64 195, .ptr 0 0, .ptr 1 0], [mid9, [.int .i64 200]], .bool true, [mid9, [.int .i64 200]], evFn_ok X4_ok comp71 b1_195⟩,⟨71, [.int .i64 97, .ptr 0 0, .ptr 1 0], [mid9, [.int .i64 200]], .bool true, [mid9, [.int .i64 200]], evFn_ok X4_ok comp71 b1_97⟩,⟨71, [.int .i64 48, .ptr 0 0, .ptr 1 0], [mid9, [.int .i64 200]], .bool true, [mid9, [.int .i64 200]], evFn_ok X4_ok comp71 b1_48⟩,⟨71, [.int .i64 24, .ptr 0 0, .ptr 1 0], [mid9, [.int .i64 200]], .bool true, [mid9, [.int .i64 200]], evFn_ok X4_ok comp71 b1_24⟩,⟨71, [.int .i64 12, .ptr 0 0, .ptr 1 0], [mid9, [.int .i64 200]], .bool false, [mid9, [.int .i64 200]], evFn_ok X4_ok comp71 b1_12⟩,⟨71, [.int .i64 18, .ptr 0 0, .ptr 1 0], [mid9, [.int .i64 200]], .bool true, [mid9, [.int .i64 200]], evFn_ok X4_ok comp71 b1_18⟩,⟨71, [.int .i64 15, .ptr 0 0, .ptr 1 0], [mid9, [.int .i64 200]], .bool false, [mid9, [.int .i64 200]], evFn_ok X4_ok comp71 b1_15⟩,⟨71, [.int .i64 17, .ptr 0 0, .ptr 1 0], [mid9, [.int .i64 200]], .bool true, [mid9, [.int .i64 200]], evFn_ok X4_ok comp71 b1_17⟩,⟨71, [.int .i64 16, .ptr 0 0, .ptr 1 0], [mid9, [.int .i64 200]], .bool false, [mid9, [.int .i64 200]], evFn_ok X4_ok comp71 b1_16⟩]
def known2 : List (Known Try.prog) := [⟨73, [.int .i64 50000, .ptr 0 0, .ptr 1 0, .ptr 2 0], [mid9, [.int .i64 200], [.nils]], .bool false, [mid9, [.int .i64 200], [.nils]], evFn_ok X4_ok comp73 b2_50000⟩,⟨73, [.int .i64 75001, .ptr 0 0, .ptr 1 0, .ptr 2 0], [mid9, [.int .i64 200], [.nils]], .bool false, [mid9, [.int .i64 200], [.nils]], evFn_ok X4_ok comp73 b2_75001⟩,⟨73, [.int .i64 87501, .ptr 0 0, .ptr 1 0, .ptr 2 0], [mid9, [.int .i64 200], [.nils]], .bool false, [mid9, [.int .i64 200], [.nils]], evFn_ok X4_ok comp73 b2_87501⟩,⟨73, [.int .i64 93751, .ptr 0 0, .ptr 1 0, .ptr 2 0], [mid9, [.int .i64 200], [.nils]], .bool false, [mid9, [.int .i64 200], [.nils]], evFn_ok X4_ok comp73 b2_93751⟩,⟨73, [.int .i64 96876, .ptr 0 0, .ptr 1 0, .ptr 2 0], [mid9, [.int .i64 200], [.nils]], .bool false, [mid9, [.int .i64 200], [.nils]], evFn_ok X4_ok comp73 b2_96876⟩,⟨73, [.int .i64 98439, .ptr 0 0, .ptr 1 0, .ptr 2 0], [mid9, [.int .i64 200], [.nils]], .bool false, [mid9, [.int .i64 200], [.nils]], evFn_ok X4_ok comp73 b2_98439⟩,⟨73, [.int .i64 99220, .ptr 0 0, .ptr 1 0, .ptr 2 0], [mid9, [.int .i64 200], [.nils]], .bool false, [mid9, [.int .i64 200], [.nils]], evFn_ok X4_ok comp73 b2_99220⟩,⟨73, [.int .i64 99611, .ptr 0 0, .ptr 1 0, .ptr 2 0], [mid9, [.int .i64 200], [.nils]], .bool false, [mid9, [.int .i64 200], [.nils]], evFn_ok X4_ok comp73 b2_99611⟩,⟨73, [.int .i64 99806, .ptr 0 0, .ptr 1 0, .ptr 2 0], [mid9, [.int .i64 200], [.nils]], .bool false, [mid9, [.int .i64 200], [.nils]], evFn_ok X4_ok comp73 b2_99806⟩,⟨73, [.int .i64 99904, .ptr 0 0, .ptr 1 0, .ptr 2 0], [mid9, [.int .i64 200], [.nils]], .bool false, [mid9, [.int .i64 200], [.nils]], evFn_ok X4_ok comp73 b2_99904⟩,⟨73, [.int .i64 99953, .ptr 0 0, .ptr 1 0, .ptr 2 0], [mid9, [.int .i64 200], [.nils]], .bool false, [mid9, [.int .i64 200], [.nils]], evFn_ok X4_ok comp73 b2_99953⟩,⟨73, [.int .i64 99977, .ptr 0 0, .ptr 1 0, .ptr 2 0], [mid9, [.int .i64 200], [.nils]], .bool false, [mid9, [.int .i64 200], [.nils]], evFn_ok X4_ok comp73 b2_99977⟩,⟨73, [.int .i64 99989, .ptr 0 0, .ptr 1 0, .ptr 2 0], [mid9, [.int .i64 200], [.nils]], .bool false, [mid9, [.int .i64 200], [.nils]], evFn_ok X4_ok comp73 b2_99989⟩,⟨73, [.int .i64 99995, .ptr 0 0, .ptr 1 0, .ptr 2 0], [mid9, [.int .i64 200], [.nils]], .bool false, [mid9, [.int .i64 200], [.nils]], evFn_ok X4_ok comp73 b2_99995⟩,⟨73, [.int .i64 99998, .ptr 0 0, .ptr 1 0, .ptr 2 0], [mid9, [.int .i64 200], [.nils]], .bool false, [mid9, [.int .i64 200], [.nils]], evFn_ok X4_ok comp73 b2_99998⟩,⟨73, [.int .i64 100000, .ptr 0 0, .ptr 1 0, .ptr 2 0], [mid9, [.int .i64 200], [.nils]], .bool false, [mid9, [.int .i64 200], [.nils]], evFn_ok X4_ok comp73 b2_100000⟩]
def tabB (f : FuncId) : Option AFn := bif Nat.beq f 71 || Nat.beq f 73 then none else tab f
theorem tabB_ok : ∀ f F, tabB f = some F → compFn Try.prog f = some F := by
  intro f F h
  unfold tabB at h
  cases hc : (Nat.beq f 71 || Nat.beq f 73) with
  | true => rw [hc] at h; cases h
  | false => rw [hc] at h; exact tab_ok f F h
noncomputable def X5 : Clr := clrN tabB inl (clrOf (knO (known1 ++ known2))) 300 14
theorem X5_ok : ClrOk Try.prog X5 := clrN_ok (clr_ok (knO_ok _)) tabB_ok 300 14
def spanA (a b : Int) : AV := .agg [.int .i64 a, .int .i64 b]
theorem ballast_run : evFn X5 300 F43 [.agg mid9, .nils, .int .i64 200] [] = some (.tup [spanA 17 100000, .int .i64 0], []) := by kernel_rfl
theorem axles_run : evFn X5 300 F15 [.agg (swanC 500)] [] = some (.tup [spanA 2650 2784, spanA 3000 3067, .int .i64 0], []) := by kernel_rfl
end Go.Proofs.Ytoefpcpijolofaa
end
section
namespace Go.Proofs.Ytoefpcpijolofaa
open Go.RowKit
set_option linter.unusedVariables false
set_option maxRecDepth 100000

def hur (k a b : Int) : AV := .agg [.int .i64 k, .int .i64 a, .int .i64 b]
theorem passes_run : evFn X5 300 F18 [.agg (swanC 500), .sl [hur 1 700 1400, hur 2 519 0, hur 3 5649 3067] none] [] = some (.tup [.sl [.int .i64 1, .int .i64 3, .int .i64 2] none, .int .i64 0], []) := by kernel_rfl
def known3 : List (Known Try.prog) := [⟨15, _, _, _, _, evFn_ok X5_ok comp15 axles_run⟩, ⟨18, _, _, _, _, evFn_ok X5_ok comp18 passes_run⟩, ⟨43, _, _, _, _, evFn_ok X5_ok comp43 ballast_run⟩]
def tabC (f : FuncId) : Option AFn := bif Nat.beq f 15 || (Nat.beq f 18 || Nat.beq f 43) then none else tab f
theorem tabC_ok : ∀ f F, tabC f = some F → compFn Try.prog f = some F := by
  intro f F h
  unfold tabC at h
  cases hc : (Nat.beq f 15 || (Nat.beq f 18 || Nat.beq f 43)) with
  | true => rw [hc] at h; cases h
  | false => rw [hc] at h; exact tab_ok f F h
noncomputable def X6 : Clr := clrN tabC inl (clrOf (knO known3)) 300 14
theorem X6_ok : ClrOk Try.prog X6 := clrN_ok (clr_ok (knO_ok _)) tabC_ok 300 14
theorem awake_run : evFn X6 300 F26 [] [] = some (.bool true, []) := by kernel_rfl
theorem awake_m : Meets Try.prog 26 [] [] fun v c' => v = .bool true ∧ c' = [] :=
  ⟨_, _, evFn_ok X6_ok comp26 awake_run, rfl, rfl⟩
end Go.Proofs.Ytoefpcpijolofaa
end
section
namespace Go.Proofs.Ytoefpcpijolofaa
open Go.RowKit
set_option linter.unusedVariables false
set_option linter.unusedSimpArgs false
set_option maxRecDepth 10000
set_option maxHeartbeats 4000000

def NR : Nat → ACode → ACode := fun n c => match n, c with
  | 0, c => c
  | n + 1, .seq _ d => NR n d
  | _, c => c
theorem NR_s (n : Nat) (c d : ACode) : NR (n + 1) (.seq c d) = NR n d := rfl
theorem NR_0 (c : ACode) : NR 0 c = c := by cases c <;> rfl
theorem vdl_get (P2 P1 : Hd → Bool) {hs : List Hd} {i : Nat} {h : Hd} (e : hs[i]? = some h) : (vdl P2 P1 hs)[i]? = some (.int .i64 (verd (P2 h) (P1 h))) := by
  unfold vdl
  rw [List.getElem?_map, e]
  rfl
theorem inside_m (a b c d : Int) (h1 : c ≤ a) (h2 : b ≤ d) : Does Try.prog 38 [.agg [.int .i64 a, .int .i64 b], .agg [.int .i64 c, .int .i64 d]] [] fun v c' => v = .bool true ∧ c' = [] := by
  refine Does.of comp38 ?_
  unfold F38
  simp only [start, List.length_cons, List.length_nil, List.replicate, List.cons_append, List.nil_append, Nat.reduceAdd, Nat.reduceSub]
  (repeat (first|((first|refine ExO.nil ?_|refine Ex.skip ?_|refine Ex.ret ?_|refine Ex.exit ?_); try dsimp only)|((first|(refine xI ?_; intro _ _)|refine xL ?_|(refine xB ?_; intro _ _)|refine xG ?_|refine xS ?_|refine xM ?_|(refine xC ?_; intro _ _)|refine xW ?_); try simp only [sA])|refine Ex.seq ?_|refine Ex.reg ?_|refine Ex.block ?_|refine eT ?_|refine eF ?_|simp only [reduceCtorEq, AEx.ex.injEq, Nat.reduceEqDiff, if_true, if_false]))
  (rename_i m hm; have hm2 : m = true := (by rw [hm]; simp; try omega); clear hm; subst hm2; (repeat (first|((first|refine ExO.nil ?_|refine Ex.skip ?_|refine Ex.ret ?_|refine Ex.exit ?_); try dsimp only)|((first|(refine xI ?_; intro _ _)|refine xL ?_|(refine xB ?_; intro _ _)|refine xG ?_|refine xS ?_|refine xM ?_|(refine xC ?_; intro _ _)|refine xW ?_); try simp only [sA])|refine Ex.seq ?_|refine Ex.reg ?_|refine Ex.block ?_|refine eT ?_|refine eF ?_|simp only [reduceCtorEq, AEx.ex.injEq, Nat.reduceEqDiff, if_true, if_false])))
  (rename_i m hm; have hm2 : m = true := (by rw [hm]; simp; try omega); clear hm; subst hm2; (repeat (first|((first|refine ExO.nil ?_|refine Ex.skip ?_|refine Ex.ret ?_|refine Ex.exit ?_); try dsimp only)|((first|(refine xI ?_; intro _ _)|refine xL ?_|(refine xB ?_; intro _ _)|refine xG ?_|refine xS ?_|refine xM ?_|(refine xC ?_; intro _ _)|refine xW ?_); try simp only [sA])|refine Ex.seq ?_|refine Ex.reg ?_|refine Ex.block ?_|refine eT ?_|refine eF ?_|simp only [reduceCtorEq, AEx.ex.injEq, Nat.reduceEqDiff, if_true, if_false])))
  simp [evRes, evRes1, one, AV.names, takeCells]
theorem down_le (k a b : Int) (hk : 0 < k) (h : a ≤ b) : a / k ≤ b / k := Int.ediv_le_ediv hk h
theorem up_le (k a b : Int) (hk : 0 < k) (h : a ≤ b) : -(-a / k) ≤ -(-b / k) := by
  have := Int.ediv_le_ediv hk (show -b ≤ -a by omega)
  omega

theorem nph4 {a : List AV} {S : St} (h : N3 a S) : Ex 0 .plain Try.prog (NR 6 F6.code) a S fun x a' S' => (x = .norm ∨ x = .ret) ∧ evRes a' S' [.tmp 2] = some (.bool true) := by
  obtain ⟨len, wid, front, rear, turn, kilos, mid, high, ls, ms, b, hs, ⟨hF, hall, hlen⟩, hn, ⟨hr1, hr2⟩, rfl, rfl⟩ := h
  have hF' : 2 ≤ len ∧ len ≤ 1200 ∧ 1 ≤ wid ∧ wid ≤ 400 ∧ 0 ≤ front ∧ front < rear ∧ rear ≤ len ∧ 0 ≤ turn ∧ turn < 1500 ∧ 0 ≤ kilos ∧ kilos < 5000 ∧ 0 ≤ mid ∧ mid ≤ len ∧ 0 ≤ high ∧ high < 500 := hF
  have hml := nar_len ls ms hn
  have hlo : ∀ l ∈ ls, front ≤ l.pt ∧ l.pt ≤ rear ∧ 0 ≤ l.klo ∧ l.klo ≤ l.khi ∧ l.khi ≤ 900 ∧ 0 ≤ l.tlo ∧ l.tlo ≤ l.thi ∧ l.thi ≤ 700 ∧ 1 ≤ l.kind ∧ l.kind ≤ 4 ∧ 0 ≤ l.watts ∧ l.watts < 3000 ∧ (l.watts = 0 ∨ l.kind = 2 ∨ l.kind = 3) := fun l hl => hall l hl
  have hmall : ∀ l ∈ ms, LOk ⟨len, wid, front, rear, turn, kilos, mid, high⟩ l := by
    intro m hm
    obtain ⟨l, h1, h2⟩ := nar_mem ls ms hn m hm
    have h3 := hlo l h1
    obtain ⟨e1, e2, e3, e4, e5, e6, e7, e8, e9⟩ := h2
    show front ≤ m.pt ∧ m.pt ≤ rear ∧ 0 ≤ m.klo ∧ m.klo ≤ m.khi ∧ m.khi ≤ 900 ∧ 0 ≤ m.tlo ∧ m.tlo ≤ m.thi ∧ m.thi ≤ 700 ∧ 1 ≤ m.kind ∧ m.kind ≤ 4 ∧ 0 ≤ m.watts ∧ m.watts < 3000 ∧ (m.watts = 0 ∨ m.kind = 2 ∨ m.kind = 3)
    omega
  have hmo : ∀ l ∈ ms, front ≤ l.pt ∧ l.pt ≤ rear ∧ 0 ≤ l.klo ∧ l.klo ≤ l.khi ∧ l.khi ≤ 900 ∧ 0 ≤ l.tlo ∧ l.tlo ≤ l.thi ∧ l.thi ≤ 700 ∧ 1 ≤ l.kind ∧ l.kind ≤ 4 ∧ 0 ≤ l.watts ∧ l.watts < 3000 ∧ (l.watts = 0 ∨ l.kind = 2 ∨ l.kind = 3) := fun l hl => hmall l hl
  have hmm : narL ms ms := narL_of ms ms rfl fun j l m h1 h2 => by
    rw [h1] at h2; cases h2
    have h3 := hmo l (List.mem_of_getElem? h1)
    exact ⟨rfl, rfl, rfl, Int.le_refl _, by omega, Int.le_refl _, Int.le_refl _, by omega, Int.le_refl _⟩
  have A := lt_of front rear kilos mid high Ld.klo Ld.tlo Ld.klo Ld.tlo ls ms hn (fun l hl => by have := hlo l hl; omega) (fun l m h => h.k1) (fun l m h => h.t1)
  have B := lt_of front rear kilos mid high Ld.klo Ld.tlo Ld.khi Ld.thi ms ms hmm (fun l hl => by have := hmo l hl; omega) (fun l m h => by have := h.k1; have := h.k2; omega) (fun l m h => by have := h.t1; have := h.t2; omega)
  have C := lt_of' front rear kilos mid high Ld.khi Ld.thi Ld.khi Ld.thi ls ms hn (fun l hl => by have := hlo l hl; omega) (fun l m h => h.k3) (fun l m h => h.t3)
  have hw1 := wts_ok _ hF Ld.klo (klo_ok _) ls hall
  have hw2 := wts_ok _ hF Ld.khi (khi_ok _) ls hall
  have hv1 := wts_ok _ hF Ld.klo (klo_ok _) ms hmall
  have hv2 := wts_ok _ hF Ld.khi (khi_ok _) ms hmall
  have hl20 : ls.length ≤ 20 := by omega
  have hm20 : ms.length ≤ 20 := by omega
  have d1 := Total_m len wid front rear turn kilos mid high hF ls hl20 hall hw1 hw2
  have d2 := Total_m len wid front rear turn kilos mid high hF ms hm20 hmall hv1 hv2
  have d3 := Axles_m len wid front rear turn kilos mid high hF ls hl20 hall hw1 hw2
  have d4 := Axles_m len wid front rear turn kilos mid high hF ms hm20 hmall hv1 hv2
  have d5 := StandsAll_m len wid front rear turn kilos mid high hF ls hl20 hall
  have d6 := StandsAll_m len wid front rear turn kilos mid high hF ms hm20 hmall
  have d7 := PassesAll_m len wid front rear turn kilos mid high hF ls hl20 hall hs (by omega) hr1
  have d8 := PassesAll_m len wid front rear turn kilos mid high hF ms hm20 hmall hs (by omega) hr1
  unfold parts at d3 d4
  unfold vroute at d7 d8
  have hstay : ∀ h, verd (passB len wid front rear turn kilos mid high Ld.khi Ld.thi ls h) (passB len wid front rear turn kilos mid high Ld.klo Ld.tlo ls h) = 3 ∨ verd (passB len wid front rear turn kilos mid high Ld.khi Ld.thi ls h) (passB len wid front rear turn kilos mid high Ld.klo Ld.tlo ls h) = verd (passB len wid front rear turn kilos mid high Ld.khi Ld.thi ms h) (passB len wid front rear turn kilos mid high Ld.klo Ld.tlo ms h) :=
    fun h => verd_stays (C.passB len wid turn h) (A.passB len wid turn h) (B.passB len wid turn h)
  have hst := verd_stays (p := standB front rear (wts kilos mid Ld.klo ls)) (q := standB front rear (wts kilos mid Ld.khi ls)) (p' := standB front rear (wts kilos mid Ld.klo ms)) (q' := standB front rear (wts kilos mid Ld.khi ms)) A.standB C.standB B.standB
  have hK : 0 < rear - front := by omega
  have i1 := A.l1
  have i2 := C.l1
  have i3 := down_le (rear - front) _ _ hK A.l2
  have i4 := up_le (rear - front) _ _ hK C.l2
  have i5 := down_le (rear - front) _ _ hK A.l3
  have i6 := up_le (rear - front) _ _ hK C.l3
  clear A B C hw1 hw2 hv1 hv2
  generalize passB len wid front rear turn kilos mid high Ld.khi Ld.thi ls = P2 at d7 hstay
  generalize passB len wid front rear turn kilos mid high Ld.klo Ld.tlo ls = P1 at d7 hstay
  generalize passB len wid front rear turn kilos mid high Ld.khi Ld.thi ms = Q2 at d8 hstay
  generalize passB len wid front rear turn kilos mid high Ld.klo Ld.tlo ms = Q1 at d8 hstay
  generalize verd (standB front rear (wts kilos mid Ld.klo ls)) (standB front rear (wts kilos mid Ld.khi ls)) = V at d5 hst
  generalize verd (standB front rear (wts kilos mid Ld.klo ms)) (standB front rear (wts kilos mid Ld.khi ms)) = W at d6 hst
  generalize tot (wts kilos mid Ld.klo ls) = T1 at d1 i1
  generalize tot (wts kilos mid Ld.khi ls) = T2 at d1 i2
  generalize tot (wts kilos mid Ld.klo ms) = T3 at d2 i1
  generalize tot (wts kilos mid Ld.khi ms) = T4 at d2 i2
  generalize -mom rear (wts kilos mid Ld.klo ls) / (rear - front) = A1 at d3 i3
  generalize -(- -mom rear (wts kilos mid Ld.khi ls) / (rear - front)) = A2 at d3 i4
  generalize mom front (wts kilos mid Ld.klo ls) / (rear - front) = A3 at d3 i5
  generalize -(-mom front (wts kilos mid Ld.khi ls) / (rear - front)) = A4 at d3 i6
  generalize -mom rear (wts kilos mid Ld.klo ms) / (rear - front) = B1 at d4 i3
  generalize -(- -mom rear (wts kilos mid Ld.khi ms) / (rear - front)) = B2 at d4 i4
  generalize mom front (wts kilos mid Ld.klo ms) / (rear - front) = B3 at d4 i5
  generalize -(-mom front (wts kilos mid Ld.khi ms) / (rear - front)) = B4 at d4 i6
  have n1 := vdl_len P2 P1 hs
  have n2 := vdl_len Q2 Q1 hs
  have hvd := fun (i : Nat) h (e : hs[i]? = some h) => vdl_get P2 P1 e
  have hvq := fun (i : Nat) h (e : hs[i]? = some h) => vdl_get Q2 Q1 e
  have cl1 := clean_vdl P2 P1 hs
  have cl2 := clean_vdl Q2 Q1 hs
  clear hlo hmo hmm hn hall hmall hr1
  unfold F6
  simp only [NR_s, NR_0]
  (repeat (first|((first|refine ExO.nil ?_|refine Ex.skip ?_|refine Ex.ret ?_|refine Ex.exit ?_); try dsimp only)|((first|(refine xI ?_; intro _ _)|refine xL ?_|(refine xB ?_; intro _ _)|refine xG ?_|refine xS ?_|refine xM ?_|(refine xC ?_; intro _ _)|(refine xJ ?_; intro _ _)|refine xW ?_); try simp only [sA])|refine Ex.seq ?_|refine Ex.reg ?_|refine Ex.block ?_|refine eT ?_|refine eF ?_|simp only [reduceCtorEq, AEx.ex.injEq, Nat.reduceEqDiff, if_true, if_false]))
  refine ExO.call (f := 14) (xs := [.agg [.int .i64 len, .int .i64 wid, .int .i64 front, .int .i64 rear, .int .i64 turn, .int .i64 kilos, .int .i64 mid, .int .i64 high, .sl (ls.map Ld.av) none]]) (ys := [.agg [.int .i64 len, .int .i64 wid, .int .i64 front, .int .i64 rear, .int .i64 turn, .int .i64 kilos, .int .i64 mid, .int .i64 high, .sl (ls.map Ld.av) none]]) (bs := []) (cells := []) (by rfl) (by rfl) (by rfl) (by simp [ren, ren1, AV.plain, AV.plain1, AV.clean, cleanL, clean_lds, clean_hds]) (by rfl) (by rfl) (d1) ?_
  rintro v c' ⟨rfl, rfl⟩
  refine ⟨_, rfl, rfl, ?_⟩
  simp only [List.map_cons, List.map_nil, putA, List.set_cons_zero, List.set_cons_succ, AV.plain, AV.plain1, setAll, List.length_cons, List.length_nil, List.drop_succ_cons, List.drop_zero, List.drop_nil, List.append_nil, Nat.reduceAdd]
  (repeat (first|((first|refine ExO.nil ?_|refine Ex.skip ?_|refine Ex.ret ?_|refine Ex.exit ?_); try dsimp only)|((first|(refine xI ?_; intro _ _)|refine xL ?_|(refine xB ?_; intro _ _)|refine xG ?_|refine xS ?_|refine xM ?_|(refine xC ?_; intro _ _)|(refine xJ ?_; intro _ _)|refine xW ?_); try simp only [sA])|refine Ex.seq ?_|refine Ex.reg ?_|refine Ex.block ?_|refine eT ?_|refine eF ?_|simp only [reduceCtorEq, AEx.ex.injEq, Nat.reduceEqDiff, if_true, if_false]))
  refine ExO.call (f := 14) (xs := [.agg [.int .i64 len, .int .i64 wid, .int .i64 front, .int .i64 rear, .int .i64 turn, .int .i64 kilos, .int .i64 mid, .int .i64 high, .sl (ms.map Ld.av) none]]) (ys := [.agg [.int .i64 len, .int .i64 wid, .int .i64 front, .int .i64 rear, .int .i64 turn, .int .i64 kilos, .int .i64 mid, .int .i64 high, .sl (ms.map Ld.av) none]]) (bs := []) (cells := []) (by rfl) (by rfl) (by rfl) (by simp [ren, ren1, AV.plain, AV.plain1, AV.clean, cleanL, clean_lds, clean_hds]) (by rfl) (by rfl) (d2) ?_
  rintro v c' ⟨rfl, rfl⟩
  refine ⟨_, rfl, rfl, ?_⟩
  simp only [List.map_cons, List.map_nil, putA, List.set_cons_zero, List.set_cons_succ, AV.plain, AV.plain1, setAll, List.length_cons, List.length_nil, List.drop_succ_cons, List.drop_zero, List.drop_nil, List.append_nil, Nat.reduceAdd]
  (repeat (first|((first|refine ExO.nil ?_|refine Ex.skip ?_|refine Ex.ret ?_|refine Ex.exit ?_); try dsimp only)|((first|(refine xI ?_; intro _ _)|refine xL ?_|(refine xB ?_; intro _ _)|refine xG ?_|refine xS ?_|refine xM ?_|(refine xC ?_; intro _ _)|(refine xJ ?_; intro _ _)|refine xW ?_); try simp only [sA])|refine Ex.seq ?_|refine Ex.reg ?_|refine Ex.block ?_|refine eT ?_|refine eF ?_|simp only [reduceCtorEq, AEx.ex.injEq, Nat.reduceEqDiff, if_true, if_false]))
  refine ExO.call (f := 15) (xs := [.agg [.int .i64 len, .int .i64 wid, .int .i64 front, .int .i64 rear, .int .i64 turn, .int .i64 kilos, .int .i64 mid, .int .i64 high, .sl (ls.map Ld.av) none]]) (ys := [.agg [.int .i64 len, .int .i64 wid, .int .i64 front, .int .i64 rear, .int .i64 turn, .int .i64 kilos, .int .i64 mid, .int .i64 high, .sl (ls.map Ld.av) none]]) (bs := []) (cells := []) (by rfl) (by rfl) (by rfl) (by simp [ren, ren1, AV.plain, AV.plain1, AV.clean, cleanL, clean_lds, clean_hds]) (by rfl) (by rfl) (d3) ?_
  rintro v c' ⟨rfl, rfl⟩
  refine ⟨_, rfl, rfl, ?_⟩
  simp only [List.map_cons, List.map_nil, putA, List.set_cons_zero, List.set_cons_succ, AV.plain, AV.plain1, setAll, List.length_cons, List.length_nil, List.drop_succ_cons, List.drop_zero, List.drop_nil, List.append_nil, Nat.reduceAdd]
  (repeat (first|((first|refine ExO.nil ?_|refine Ex.skip ?_|refine Ex.ret ?_|refine Ex.exit ?_); try dsimp only)|((first|(refine xI ?_; intro _ _)|refine xL ?_|(refine xB ?_; intro _ _)|refine xG ?_|refine xS ?_|refine xM ?_|(refine xC ?_; intro _ _)|(refine xJ ?_; intro _ _)|refine xW ?_); try simp only [sA])|refine Ex.seq ?_|refine Ex.reg ?_|refine Ex.block ?_|refine eT ?_|refine eF ?_|simp only [reduceCtorEq, AEx.ex.injEq, Nat.reduceEqDiff, if_true, if_false]))
  refine ExO.call (f := 15) (xs := [.agg [.int .i64 len, .int .i64 wid, .int .i64 front, .int .i64 rear, .int .i64 turn, .int .i64 kilos, .int .i64 mid, .int .i64 high, .sl (ms.map Ld.av) none]]) (ys := [.agg [.int .i64 len, .int .i64 wid, .int .i64 front, .int .i64 rear, .int .i64 turn, .int .i64 kilos, .int .i64 mid, .int .i64 high, .sl (ms.map Ld.av) none]]) (bs := []) (cells := []) (by rfl) (by rfl) (by rfl) (by simp [ren, ren1, AV.plain, AV.plain1, AV.clean, cleanL, clean_lds, clean_hds]) (by rfl) (by rfl) (d4) ?_
  rintro v c' ⟨rfl, rfl⟩
  refine ⟨_, rfl, rfl, ?_⟩
  simp only [List.map_cons, List.map_nil, putA, List.set_cons_zero, List.set_cons_succ, AV.plain, AV.plain1, setAll, List.length_cons, List.length_nil, List.drop_succ_cons, List.drop_zero, List.drop_nil, List.append_nil, Nat.reduceAdd]
  (repeat (first|((first|refine ExO.nil ?_|refine Ex.skip ?_|refine Ex.ret ?_|refine Ex.exit ?_); try dsimp only)|((first|(refine xI ?_; intro _ _)|refine xL ?_|(refine xB ?_; intro _ _)|refine xG ?_|refine xS ?_|refine xM ?_|(refine xC ?_; intro _ _)|(refine xJ ?_; intro _ _)|refine xW ?_); try simp only [sA])|refine Ex.seq ?_|refine Ex.reg ?_|refine Ex.block ?_|refine eT ?_|refine eF ?_|simp only [reduceCtorEq, AEx.ex.injEq, Nat.reduceEqDiff, if_true, if_false]))
  refine ExO.call (f := 17) (xs := [.agg [.int .i64 len, .int .i64 wid, .int .i64 front, .int .i64 rear, .int .i64 turn, .int .i64 kilos, .int .i64 mid, .int .i64 high, .sl (ls.map Ld.av) none]]) (ys := [.agg [.int .i64 len, .int .i64 wid, .int .i64 front, .int .i64 rear, .int .i64 turn, .int .i64 kilos, .int .i64 mid, .int .i64 high, .sl (ls.map Ld.av) none]]) (bs := []) (cells := []) (by rfl) (by rfl) (by rfl) (by simp [ren, ren1, AV.plain, AV.plain1, AV.clean, cleanL, clean_lds, clean_hds]) (by rfl) (by rfl) (d5) ?_
  rintro v c' ⟨rfl, rfl⟩
  refine ⟨_, rfl, rfl, ?_⟩
  simp only [List.map_cons, List.map_nil, putA, List.set_cons_zero, List.set_cons_succ, AV.plain, AV.plain1, setAll, List.length_cons, List.length_nil, List.drop_succ_cons, List.drop_zero, List.drop_nil, List.append_nil, Nat.reduceAdd]
  (repeat (first|((first|refine ExO.nil ?_|refine Ex.skip ?_|refine Ex.ret ?_|refine Ex.exit ?_); try dsimp only)|((first|(refine xI ?_; intro _ _)|refine xL ?_|(refine xB ?_; intro _ _)|refine xG ?_|refine xS ?_|refine xM ?_|(refine xC ?_; intro _ _)|(refine xJ ?_; intro _ _)|refine xW ?_); try simp only [sA])|refine Ex.seq ?_|refine Ex.reg ?_|refine Ex.block ?_|refine eT ?_|refine eF ?_|simp only [reduceCtorEq, AEx.ex.injEq, Nat.reduceEqDiff, if_true, if_false]))
  refine ExO.call (f := 17) (xs := [.agg [.int .i64 len, .int .i64 wid, .int .i64 front, .int .i64 rear, .int .i64 turn, .int .i64 kilos, .int .i64 mid, .int .i64 high, .sl (ms.map Ld.av) none]]) (ys := [.agg [.int .i64 len, .int .i64 wid, .int .i64 front, .int .i64 rear, .int .i64 turn, .int .i64 kilos, .int .i64 mid, .int .i64 high, .sl (ms.map Ld.av) none]]) (bs := []) (cells := []) (by rfl) (by rfl) (by rfl) (by simp [ren, ren1, AV.plain, AV.plain1, AV.clean, cleanL, clean_lds, clean_hds]) (by rfl) (by rfl) (d6) ?_
  rintro v c' ⟨rfl, rfl⟩
  refine ⟨_, rfl, rfl, ?_⟩
  simp only [List.map_cons, List.map_nil, putA, List.set_cons_zero, List.set_cons_succ, AV.plain, AV.plain1, setAll, List.length_cons, List.length_nil, List.drop_succ_cons, List.drop_zero, List.drop_nil, List.append_nil, Nat.reduceAdd]
  (repeat (first|((first|refine ExO.nil ?_|refine Ex.skip ?_|refine Ex.ret ?_|refine Ex.exit ?_); try dsimp only)|((first|(refine xI ?_; intro _ _)|refine xL ?_|(refine xB ?_; intro _ _)|refine xG ?_|refine xS ?_|refine xM ?_|(refine xC ?_; intro _ _)|(refine xJ ?_; intro _ _)|refine xW ?_); try simp only [sA])|refine Ex.seq ?_|refine Ex.reg ?_|refine Ex.block ?_|refine eT ?_|refine eF ?_|simp only [reduceCtorEq, AEx.ex.injEq, Nat.reduceEqDiff, if_true, if_false]))
  refine ExO.call (f := 18) (xs := [.agg [.int .i64 len, .int .i64 wid, .int .i64 front, .int .i64 rear, .int .i64 turn, .int .i64 kilos, .int .i64 mid, .int .i64 high, .sl (ls.map Ld.av) none], .sl (hs.map Hd.av) none]) (ys := [.agg [.int .i64 len, .int .i64 wid, .int .i64 front, .int .i64 rear, .int .i64 turn, .int .i64 kilos, .int .i64 mid, .int .i64 high, .sl (ls.map Ld.av) none], .sl (hs.map Hd.av) none]) (bs := []) (cells := []) (by rfl) (by rfl) (by rfl) (by simp [ren, ren1, AV.plain, AV.plain1, AV.clean, cleanL, clean_lds, clean_hds]) (by rfl) (by rfl) (d7) ?_
  rintro v c' ⟨rfl, rfl⟩
  refine ⟨.tup [.sl (vdl P2 P1 hs) none, .int .i64 0], by simp [back, back1, AV.plain, AV.plain1, AV.clean, cleanL, clean_vdl], rfl, ?_⟩
  simp only [List.map_cons, List.map_nil, putA, List.set_cons_zero, List.set_cons_succ, AV.plain, AV.plain1, setAll, List.length_cons, List.length_nil, List.drop_succ_cons, List.drop_zero, List.drop_nil, List.append_nil, Nat.reduceAdd]
  (repeat (first|((first|refine ExO.nil ?_|refine Ex.skip ?_|refine Ex.ret ?_|refine Ex.exit ?_); try dsimp only)|((first|(refine xI ?_; intro _ _)|refine xL ?_|(refine xB ?_; intro _ _)|refine xG ?_|refine xS ?_|refine xM ?_|(refine xC ?_; intro _ _)|(refine xJ ?_; intro _ _)|refine xW ?_); try simp only [sA])|refine Ex.seq ?_|refine Ex.reg ?_|refine Ex.block ?_|refine eT ?_|refine eF ?_|simp only [reduceCtorEq, AEx.ex.injEq, Nat.reduceEqDiff, if_true, if_false]))
  refine ExO.call (f := 18) (xs := [.agg [.int .i64 len, .int .i64 wid, .int .i64 front, .int .i64 rear, .int .i64 turn, .int .i64 kilos, .int .i64 mid, .int .i64 high, .sl (ms.map Ld.av) none], .sl (hs.map Hd.av) none]) (ys := [.agg [.int .i64 len, .int .i64 wid, .int .i64 front, .int .i64 rear, .int .i64 turn, .int .i64 kilos, .int .i64 mid, .int .i64 high, .sl (ms.map Ld.av) none], .sl (hs.map Hd.av) none]) (bs := []) (cells := []) (by rfl) (by rfl) (by rfl) (by simp [ren, ren1, AV.plain, AV.plain1, AV.clean, cleanL, clean_lds, clean_hds]) (by rfl) (by rfl) (d8) ?_
  rintro v c' ⟨rfl, rfl⟩
  refine ⟨.tup [.sl (vdl Q2 Q1 hs) none, .int .i64 0], by simp [back, back1, AV.plain, AV.plain1, AV.clean, cleanL, clean_vdl], rfl, ?_⟩
  simp only [List.map_cons, List.map_nil, putA, List.set_cons_zero, List.set_cons_succ, AV.plain, AV.plain1, setAll, List.length_cons, List.length_nil, List.drop_succ_cons, List.drop_zero, List.drop_nil, List.append_nil, Nat.reduceAdd]
  (repeat (first|((first|refine ExO.nil ?_|refine Ex.skip ?_|refine Ex.ret ?_|refine Ex.exit ?_); try dsimp only)|((first|(refine xI ?_; intro _ _)|refine xL ?_|(refine xB ?_; intro _ _)|refine xG ?_|refine xS ?_|refine xM ?_|(refine xC ?_; intro _ _)|(refine xJ ?_; intro _ _)|refine xW ?_); try simp only [sA])|refine Ex.seq ?_|refine Ex.reg ?_|refine Ex.block ?_|refine eT ?_|refine eF ?_|simp only [reduceCtorEq, AEx.ex.injEq, Nat.reduceEqDiff, if_true, if_false]))
  (rename_i m hm; have hm2 : m = false := (by rw [hm, n1]; simp); clear hm; subst hm2)
  (repeat (first|((first|refine ExO.nil ?_|refine Ex.skip ?_|refine Ex.ret ?_|refine Ex.exit ?_); try dsimp only)|((first|(refine xI ?_; intro _ _)|refine xL ?_|(refine xB ?_; intro _ _)|refine xG ?_|refine xS ?_|refine xM ?_|(refine xC ?_; intro _ _)|(refine xJ ?_; intro _ _)|refine xW ?_); try simp only [sA])|refine Ex.seq ?_|refine Ex.reg ?_|refine Ex.block ?_|refine eT ?_|refine eF ?_|simp only [reduceCtorEq, AEx.ex.injEq, Nat.reduceEqDiff, if_true, if_false]))
  (rename_i m hm; have hm2 : m = false := (by rw [hm, n2]; simp); clear hm; subst hm2)
  (repeat (first|((first|refine ExO.nil ?_|refine Ex.skip ?_|refine Ex.ret ?_|refine Ex.exit ?_); try dsimp only)|((first|(refine xI ?_; intro _ _)|refine xL ?_|(refine xB ?_; intro _ _)|refine xG ?_|refine xS ?_|refine xM ?_|(refine xC ?_; intro _ _)|(refine xJ ?_; intro _ _)|refine xW ?_); try simp only [sA])|refine Ex.seq ?_|refine Ex.reg ?_|refine Ex.block ?_|refine eT ?_|refine eF ?_|simp only [reduceCtorEq, AEx.ex.injEq, Nat.reduceEqDiff, if_true, if_false]))
  generalize vdl P2 P1 hs = L1 at n1 hvd cl1 ⊢
  generalize vdl Q2 Q1 hs = L2 at n2 hvq cl2 ⊢
  refine Ex.loopF (fun k a S => ∃ (i : Nat), i ≤ hs.length ∧ k = hs.length - i ∧ a = [.junk, .junk, .junk, .junk, .junk, .junk, .junk, .junk, .ptr 4 0, .junk, .ptr 5 0, .junk, .ptr 6 0, .ptr 7 0, .junk, .ptr 8 0, .ptr 9 0, .junk, .int .i64 V, .junk, .int .i64 W, .junk, .sl L1 none, .junk, .sl L2 none, .junk, .int .i64 (i : Nat), .junk, .junk, .junk, .junk, .junk, .junk, .junk, .junk, .junk, .junk, .junk, .junk, .junk, .junk, .junk, .junk, .junk, .junk, .junk, .junk, .junk, .junk, .junk, .junk, .junk, .junk, .junk, .junk, .junk, .junk, .junk, .junk, .junk, .junk, .junk, .junk, .junk, .junk, .junk, .junk, .junk, .junk, .junk, .junk, .junk, .junk, .junk, .junk, .junk, .junk, .junk, .junk, .junk, .junk, .junk, .junk, .junk, .junk, .junk, .junk, .junk, .junk, .junk, .junk, .junk, .junk, .junk, .junk, .junk, .junk, .junk, .junk, .junk, .junk, .junk, .junk, .junk, .junk, .junk, .junk, .junk, .junk, .junk, .junk, .junk, .junk, .junk, .junk, .junk, .junk, .junk, .junk, .junk, .junk, .junk, .junk, .junk, .junk, .junk, .junk, .junk, .junk, .junk, .junk, .junk, .junk, .junk, .junk, .junk, .junk, .junk, .junk, .junk, .junk, .junk, .junk, .junk, .junk, .junk, .junk, .junk, .junk, .junk, .junk, .junk, .junk, .junk, .junk, .junk, .junk, .junk, .junk, .junk, .junk, .junk, .junk, .junk, .junk, .junk, .junk, .junk, .junk, .junk, .junk, .junk, .junk, .junk, .junk, .junk, .junk, .junk, .junk, .junk, .junk, .junk, .junk, .junk, .junk, .junk, .junk, .junk, .junk, .junk, .junk, .junk, .junk, .junk, .junk, .junk, .junk, .junk, .junk, .junk, .junk, .junk, .junk, .junk] ∧ S = ⟨[[.int .u64 b], [.int .i64 len, .int .i64 wid, .int .i64 front, .int .i64 rear, .int .i64 turn, .int .i64 kilos, .int .i64 mid, .int .i64 high, .sl (ls.map Ld.av) none], [], [.int .i64 len, .int .i64 wid, .int .i64 front, .int .i64 rear, .int .i64 turn, .int .i64 kilos, .int .i64 mid, .int .i64 high, .sl (ms.map Ld.av) none], [.int .i64 T1, .int .i64 T2], [.int .i64 T3, .int .i64 T4], [.int .i64 A1, .int .i64 A2], [.int .i64 A3, .int .i64 A4], [.int .i64 B1, .int .i64 B2], [.int .i64 B3, .int .i64 B4]], []⟩) hs.length ⟨_, _, forgets 10 [] ([false, false, false, false, false, false, false, false, true, false, true, false, true, true, false, true, true, false, true, false, true, false, true, false, true, false, true, false, false, false, false, false, false, false, false, false, false, false, false, false, false, false, false, false, false, false, false, false, false, false, false, false, false, false, false, false, false, false, false, false, false, false, false, false, false, false, false, false, false, false, false, false, false, false, false, false, false, false, false, false, false, false, false, false, false, false, false, false, false, false, false, false, false, false, false, false, false, false, false, false, false, false, false, false, false, false, false, false, false, false, false, false, false, false, false, false, false, false, false, false, false, false, false, false, false, false, false, false, false, false, false, false, false, false, false, false, false, false, false, false, false, false, false, false, false, false, false, false, false, false, false, false, false, false, false, false, false, false, false, false, false, false, false, false, false, false, false, false, false, false, false, false, false, false, false, false, false, false, false, false, false, false, false, false, false, false, false, false, false, false, false, false, false, false, false, false, false, false, false, false, false, false, false, false]) (by decide) (by simp) (bx2 := [[.int .u64 b], [.int .i64 len, .int .i64 wid, .int .i64 front, .int .i64 rear, .int .i64 turn, .int .i64 kilos, .int .i64 mid, .int .i64 high, .sl (ls.map Ld.av) none], [], [.int .i64 len, .int .i64 wid, .int .i64 front, .int .i64 rear, .int .i64 turn, .int .i64 kilos, .int .i64 mid, .int .i64 high, .sl (ms.map Ld.av) none], [.int .i64 T1, .int .i64 T2], [.int .i64 T3, .int .i64 T4], [.int .i64 A1, .int .i64 A2], [.int .i64 A3, .int .i64 A4], [.int .i64 B1, .int .i64 B2], [.int .i64 B3, .int .i64 B4]]) (by simp [re, re1, AV.clean, clean_lds]) (by rfl) (by decide), 0, by omega, by omega, by simp [keepS, re, re1, AV.clean, cl1, cl2], by rfl⟩ ?_
  rintro k a S ⟨i, hi, rfl, rfl, rfl⟩
  (repeat (first|((first|refine ExO.nil ?_|refine Ex.skip ?_|refine Ex.ret ?_|refine Ex.exit ?_); try dsimp only)|((first|(refine xI ?_; intro _ _)|refine xL ?_|(refine xB ?_; intro _ _)|refine xG ?_|refine xS ?_|refine xM ?_|(refine xC ?_; intro _ _)|(refine xJ ?_; intro _ _)|refine xW ?_); try simp only [sA])|refine Ex.seq ?_|refine Ex.reg ?_|refine Ex.block ?_|refine eT ?_|refine eF ?_|simp only [reduceCtorEq, AEx.ex.injEq, Nat.reduceEqDiff, if_true, if_false]))
  rename_i c hc
  cases c
  · (repeat (first|((first|refine ExO.nil ?_|refine Ex.skip ?_|refine Ex.ret ?_|refine Ex.exit ?_); try dsimp only)|((first|(refine xI ?_; intro _ _)|refine xL ?_|(refine xB ?_; intro _ _)|refine xG ?_|refine xS ?_|refine xM ?_|(refine xC ?_; intro _ _)|(refine xJ ?_; intro _ _)|refine xW ?_); try simp only [sA])|refine Ex.seq ?_|refine Ex.reg ?_|refine Ex.block ?_|refine eT ?_|refine eF ?_|simp only [reduceCtorEq, AEx.ex.injEq, Nat.reduceEqDiff, if_true, if_false]))
    have j1 := inside_m T3 T4 T1 T2 i1 i2
    have j2 := inside_m B1 B2 A1 A2 i3 i4
    have j3 := inside_m B3 B4 A3 A4 i5 i6
    refine ExO.call (f := 38) (xs := [.agg [.int .i64 T3, .int .i64 T4], .agg [.int .i64 T1, .int .i64 T2]]) (ys := [.agg [.int .i64 T3, .int .i64 T4], .agg [.int .i64 T1, .int .i64 T2]]) (bs := []) (cells := []) (by rfl) (by rfl) (by rfl) (by rfl) (by rfl) (by rfl) j1 ?_
    rintro v c' ⟨rfl, rfl⟩
    refine ⟨_, rfl, rfl, ?_⟩
    simp only [List.map_cons, List.map_nil, putA, List.set_cons_zero, List.set_cons_succ, AV.plain, AV.plain1, setAll, List.length_cons, List.length_nil, List.drop_succ_cons, List.drop_zero, List.drop_nil, List.append_nil, Nat.reduceAdd]
    (repeat (first|((first|refine ExO.nil ?_|refine Ex.skip ?_|refine Ex.ret ?_|refine Ex.exit ?_); try dsimp only)|((first|(refine xI ?_; intro _ _)|refine xL ?_|(refine xB ?_; intro _ _)|refine xG ?_|refine xS ?_|refine xM ?_|(refine xC ?_; intro _ _)|(refine xJ ?_; intro _ _)|refine xW ?_); try simp only [sA])|refine Ex.seq ?_|refine Ex.reg ?_|refine Ex.block ?_|refine eT ?_|refine eF ?_|simp only [reduceCtorEq, AEx.ex.injEq, Nat.reduceEqDiff, if_true, if_false]))
    refine ExO.call (f := 38) (xs := [.agg [.int .i64 B1, .int .i64 B2], .agg [.int .i64 A1, .int .i64 A2]]) (ys := [.agg [.int .i64 B1, .int .i64 B2], .agg [.int .i64 A1, .int .i64 A2]]) (bs := []) (cells := []) (by rfl) (by rfl) (by rfl) (by rfl) (by rfl) (by rfl) j2 ?_
    rintro v c' ⟨rfl, rfl⟩
    refine ⟨_, rfl, rfl, ?_⟩
    simp only [List.map_cons, List.map_nil, putA, List.set_cons_zero, List.set_cons_succ, AV.plain, AV.plain1, setAll, List.length_cons, List.length_nil, List.drop_succ_cons, List.drop_zero, List.drop_nil, List.append_nil, Nat.reduceAdd]
    (repeat (first|((first|refine ExO.nil ?_|refine Ex.skip ?_|refine Ex.ret ?_|refine Ex.exit ?_); try dsimp only)|((first|(refine xI ?_; intro _ _)|refine xL ?_|(refine xB ?_; intro _ _)|refine xG ?_|refine xS ?_|refine xM ?_|(refine xC ?_; intro _ _)|(refine xJ ?_; intro _ _)|refine xW ?_); try simp only [sA])|refine Ex.seq ?_|refine Ex.reg ?_|refine Ex.block ?_|refine eT ?_|refine eF ?_|simp only [reduceCtorEq, AEx.ex.injEq, Nat.reduceEqDiff, if_true, if_false]))
    refine ExO.call (f := 38) (xs := [.agg [.int .i64 B3, .int .i64 B4], .agg [.int .i64 A3, .int .i64 A4]]) (ys := [.agg [.int .i64 B3, .int .i64 B4], .agg [.int .i64 A3, .int .i64 A4]]) (bs := []) (cells := []) (by rfl) (by rfl) (by rfl) (by rfl) (by rfl) (by rfl) j3 ?_
    rintro v c' ⟨rfl, rfl⟩
    refine ⟨_, rfl, rfl, ?_⟩
    simp only [List.map_cons, List.map_nil, putA, List.set_cons_zero, List.set_cons_succ, AV.plain, AV.plain1, setAll, List.length_cons, List.length_nil, List.drop_succ_cons, List.drop_zero, List.drop_nil, List.append_nil, Nat.reduceAdd]
    (repeat (first|((first|refine ExO.nil ?_|refine Ex.skip ?_|refine Ex.ret ?_|refine Ex.exit ?_); try dsimp only)|((first|(refine xI ?_; intro _ _)|refine xL ?_|(refine xB ?_; intro _ _)|refine xG ?_|refine xS ?_|refine xM ?_|(refine xC ?_; intro _ _)|(refine xJ ?_; intro _ _)|refine xW ?_); try simp only [sA])|refine Ex.seq ?_|refine Ex.reg ?_|refine Ex.block ?_|refine eT ?_|refine eF ?_|simp only [reduceCtorEq, AEx.ex.injEq, Nat.reduceEqDiff, if_true, if_false]))
    rename_i m1 hm1 m2 hm2
    by_cases hV : V = 3
    · have e1 : m1 = true := by rw [hm1, hV]; rfl
      have e2 : m2 = true := hm2.trans e1
      clear hm1 hm2
      subst e1
      subst e2
      (repeat (first|((first|refine ExO.nil ?_|refine Ex.skip ?_|refine Ex.ret ?_|refine Ex.exit ?_); try dsimp only)|((first|(refine xI ?_; intro _ _)|refine xL ?_|(refine xB ?_; intro _ _)|refine xG ?_|refine xS ?_|refine xM ?_|(refine xC ?_; intro _ _)|(refine xJ ?_; intro _ _)|refine xW ?_); try simp only [sA])|refine Ex.seq ?_|refine Ex.reg ?_|refine Ex.block ?_|refine eT ?_|refine eF ?_|simp only [reduceCtorEq, AEx.ex.injEq, Nat.reduceEqDiff, if_true, if_false]))
      refine ExO.call (f := 26) (xs := []) (ys := []) (bs := []) (cells := []) (by rfl) (by rfl) (by rfl) (by rfl) (by rfl) (by rfl) awake_m.does ?_
      rintro v c' ⟨rfl, rfl⟩
      refine ⟨_, rfl, rfl, ?_⟩
      simp only [List.map_cons, List.map_nil, putA, List.set_cons_zero, List.set_cons_succ, AV.plain, AV.plain1, setAll, List.length_cons, List.length_nil, List.drop_succ_cons, List.drop_zero, List.drop_nil, List.append_nil, Nat.reduceAdd]
      (repeat (first|((first|refine ExO.nil ?_|refine Ex.skip ?_|refine Ex.ret ?_|refine Ex.exit ?_); try dsimp only)|((first|(refine xI ?_; intro _ _)|refine xL ?_|(refine xB ?_; intro _ _)|refine xG ?_|refine xS ?_|refine xM ?_|(refine xC ?_; intro _ _)|(refine xJ ?_; intro _ _)|refine xW ?_); try simp only [sA])|refine Ex.seq ?_|refine Ex.reg ?_|refine Ex.block ?_|refine eT ?_|refine eF ?_|simp only [reduceCtorEq, AEx.ex.injEq, Nat.reduceEqDiff, if_true, if_false]))
      exact ⟨by simp, by simp [evRes, evRes1, one]⟩
    · have e1 : m1 = false := by rw [hm1]; simpa using hV
      have e2 : m2 = false := hm2.trans e1
      clear hm1 hm2
      subst e1
      subst e2
      obtain rfl : V = W := by rcases hst with h | h; exact absurd h hV; exact h
      (repeat (first|((first|refine ExO.nil ?_|refine Ex.skip ?_|refine Ex.ret ?_|refine Ex.exit ?_); try dsimp only)|((first|(refine xI ?_; intro _ _)|refine xL ?_|(refine xB ?_; intro _ _)|refine xG ?_|refine xS ?_|refine xM ?_|(refine xC ?_; intro _ _)|(refine xJ ?_; intro _ _)|refine xW ?_); try simp only [sA])|refine Ex.seq ?_|refine Ex.reg ?_|refine Ex.block ?_|refine eT ?_|refine eF ?_|simp only [reduceCtorEq, AEx.ex.injEq, Nat.reduceEqDiff, if_true, if_false]))
      refine ExO.call (f := 26) (xs := []) (ys := []) (bs := []) (cells := []) (by rfl) (by rfl) (by rfl) (by rfl) (by rfl) (by rfl) awake_m.does ?_
      rintro v c' ⟨rfl, rfl⟩
      refine ⟨_, rfl, rfl, ?_⟩
      simp only [List.map_cons, List.map_nil, putA, List.set_cons_zero, List.set_cons_succ, AV.plain, AV.plain1, setAll, List.length_cons, List.length_nil, List.drop_succ_cons, List.drop_zero, List.drop_nil, List.append_nil, Nat.reduceAdd]
      (repeat (first|((first|refine ExO.nil ?_|refine Ex.skip ?_|refine Ex.ret ?_|refine Ex.exit ?_); try dsimp only)|((first|(refine xI ?_; intro _ _)|refine xL ?_|(refine xB ?_; intro _ _)|refine xG ?_|refine xS ?_|refine xM ?_|(refine xC ?_; intro _ _)|(refine xJ ?_; intro _ _)|refine xW ?_); try simp only [sA])|refine Ex.seq ?_|refine Ex.reg ?_|refine Ex.block ?_|refine eT ?_|refine eF ?_|simp only [reduceCtorEq, AEx.ex.injEq, Nat.reduceEqDiff, if_true, if_false]))
      exact ⟨by simp, by simp [evRes, evRes1, one]⟩
  · have hil : i < hs.length := by
      have h0 := hc.symm
      rw [n1] at h0
      simpa using h0
    have e0 : hs[i]? = some hs[i] := List.getElem?_eq_getElem hil
    have e1 := hvd i _ e0
    have e2 := hvq i _ e0
    have hv := hstay hs[i]
    generalize verd (P2 hs[i]) (P1 hs[i]) = v1 at e1 hv
    generalize verd (Q2 hs[i]) (Q1 hs[i]) = v2 at e2 hv
    have l1 : (i : Int) < (hs.length : Int) := by omega
    (repeat (first|((first|refine ExO.nil ?_|refine Ex.skip ?_|refine Ex.ret ?_|refine Ex.exit ?_); try dsimp only)|((first|(refine xI ?_; intro _ _)|refine xL ?_|(refine xB ?_; intro _ _)|refine xG ?_|refine xS ?_|refine xM ?_|(refine xC ?_; intro _ _)|(refine xJ ?_; intro _ _)|refine xW ?_); try simp only [sA])|refine Ex.seq ?_|refine Ex.reg ?_|refine Ex.block ?_|refine eT ?_|refine eF ?_|simp only [reduceCtorEq, AEx.ex.injEq, Nat.reduceEqDiff, if_true, if_false]))
    by_cases h3 : v1 = 3
    · subst h3
      apply Ex.drawQ
      case hq => rfl
      case h =>
        simp only [List.take_succ_cons, List.take_zero]
        (apply QO.val; (case hw => rfl); (case hv => (simp [vA, fRes_eq, n1, n2, l1, e1, e2]; first|done|exact rfl|(refine ⟨rfl,?_⟩; rfl))); simp only [sA])
        (apply QO.val; (case hw => rfl); (case hv => (simp [vA, fRes_eq, n1, n2, l1, e1, e2]; first|done|exact rfl|(refine ⟨rfl,?_⟩; rfl))); simp only [sA])
        (apply QO.val; (case hw => rfl); (case hv => (simp [vA, fRes_eq, n1, n2, l1, e1, e2]; first|done|exact rfl|(refine ⟨rfl,?_⟩; rfl))); simp only [sA])
        (apply QO.val; (case hw => rfl); (case hv => (simp [vA, fRes_eq, n1, n2, l1, e1, e2]; first|done|exact rfl|(refine ⟨rfl,?_⟩; rfl))); simp only [sA])
        (apply QO.val; (case hw => rfl); (case hv => (simp [vA, fRes_eq, n1, n2, l1, e1, e2]; first|done|exact rfl|(refine ⟨rfl,?_⟩; rfl))); simp only [sA])
        (apply QO.val; (case hw => rfl); (case hv => (simp [vA, fRes_eq, n1, n2, l1, e1, e2]; first|done|exact rfl|(refine ⟨rfl,?_⟩; rfl))); simp only [sA])
        (apply QO.skip; (case hw => rfl); simp only [sA])
        (apply QO.skip; (case hw => rfl); simp only [sA])
        (apply QO.skip; (case hw => rfl); simp only [sA])
        (apply QO.skip; (case hw => rfl); simp only [sA])
        (apply QO.skip; (case hw => rfl); simp only [sA])
        (apply QO.skip; (case hw => rfl); simp only [sA])
        (apply QO.skip; (case hw => rfl); simp only [sA])
        (apply QO.skip; (case hw => rfl); simp only [sA])
        exact QO.nil
      case h2 =>
        simp only [List.drop_succ_cons, List.drop_zero]
        (apply QO.skip; (case hw => rfl); simp only [sA])
        (apply QO.val; (case hw => rfl); (case hv => (simp [vA, fRes_eq, n1, n2, l1, e1, e2]; first|done|exact rfl|(refine ⟨rfl,?_⟩; rfl))); simp only [sA])
        exact QO.nil
      (repeat (first|((first|refine ExO.nil ?_|refine Ex.skip ?_|refine Ex.ret ?_|refine Ex.exit ?_); try dsimp only)|((first|(refine xI ?_; intro _ _)|refine xL ?_|(refine xB ?_; intro _ _)|refine xG ?_|refine xS ?_|refine xM ?_|(refine xC ?_; intro _ _)|(refine xJ ?_; intro _ _)|refine xW ?_); try simp only [sA])|refine Ex.seq ?_|refine Ex.reg ?_|refine Ex.block ?_|refine eT ?_|refine eF ?_|simp only [reduceCtorEq, AEx.ex.injEq, Nat.reduceEqDiff, if_true, if_false]))
      rename_i i2 hi2
      rw [i64_in (by omega) (by omega)] at hi2
      exact ⟨_, _, forgets 10 [] ([false, false, false, false, false, false, false, false, true, false, true, false, true, true, false, true, true, false, true, false, true, false, true, false, true, false, true, false, false, false, false, false, false, false, false, false, false, false, false, false, false, false, false, false, false, false, false, false, false, false, false, false, false, false, false, false, false, false, false, false, false, false, false, false, false, false, false, false, false, false, false, false, false, false, false, false, false, false, false, false, false, false, false, false, false, false, false, false, false, false, false, false, false, false, false, false, false, false, false, false, false, false, false, false, false, false, false, false, false, false, false, false, false, false, false, false, false, false, false, false, false, false, false, false, false, false, false, false, false, false, false, false, false, false, false, false, false, false, false, false, false, false, false, false, false, false, false, false, false, false, false, false, false, false, false, false, false, false, false, false, false, false, false, false, false, false, false, false, false, false, false, false, false, false, false, false, false, false, false, false, false, false, false, false, false, false, false, false, false, false, false, false, false, false, false, false, false, false, false, false, false, false, false, false]) (by decide) (by simp) (bx2 := [[.int .u64 b], [.int .i64 len, .int .i64 wid, .int .i64 front, .int .i64 rear, .int .i64 turn, .int .i64 kilos, .int .i64 mid, .int .i64 high, .sl (ls.map Ld.av) none], [], [.int .i64 len, .int .i64 wid, .int .i64 front, .int .i64 rear, .int .i64 turn, .int .i64 kilos, .int .i64 mid, .int .i64 high, .sl (ms.map Ld.av) none], [.int .i64 T1, .int .i64 T2], [.int .i64 T3, .int .i64 T4], [.int .i64 A1, .int .i64 A2], [.int .i64 A3, .int .i64 A4], [.int .i64 B1, .int .i64 B2], [.int .i64 B3, .int .i64 B4]]) (by simp [re, re1, AV.clean, clean_lds]) (by rfl) (by decide), hs.length - (i + 1), by omega, i + 1, by omega, rfl, by rw [hi2]; simp [keepS, re, re1, AV.clean, cl1, cl2], by rfl⟩
    · obtain rfl : v1 = v2 := by rcases hv with h | h; exact absurd h h3; exact h
      have h3b : (v1 == 3) = false := by simpa using h3
      have h3c : (v1 != 3) = true := by simpa using h3
      apply Ex.drawQ
      case hq => rfl
      case h =>
        simp only [List.take_succ_cons, List.take_zero]
        (apply QO.val; (case hw => rfl); (case hv => (simp [vA, fRes_eq, n1, n2, l1, e1, e2, h3, h3b, h3c]; first|done|exact rfl|(refine ⟨rfl,?_⟩; rfl))); simp only [sA])
        (apply QO.val; (case hw => rfl); (case hv => (simp [vA, fRes_eq, n1, n2, l1, e1, e2, h3, h3b, h3c]; first|done|exact rfl|(refine ⟨rfl,?_⟩; rfl))); simp only [sA])
        (apply QO.val; (case hw => rfl); (case hv => (simp [vA, fRes_eq, n1, n2, l1, e1, e2, h3, h3b, h3c]; first|done|exact rfl|(refine ⟨rfl,?_⟩; rfl))); simp only [sA])
        (apply QO.val; (case hw => rfl); (case hv => (simp [vA, fRes_eq, n1, n2, l1, e1, e2, h3, h3b, h3c]; first|done|exact rfl|(refine ⟨rfl,?_⟩; rfl))); simp only [sA])
        (apply QO.val; (case hw => rfl); (case hv => (simp [vA, fRes_eq, n1, n2, l1, e1, e2, h3, h3b, h3c]; first|done|exact rfl|(refine ⟨rfl,?_⟩; rfl))); simp only [sA])
        (apply QO.val; (case hw => rfl); (case hv => (simp [vA, fRes_eq, n1, n2, l1, e1, e2, h3, h3b, h3c]; first|done|exact rfl|(refine ⟨rfl,?_⟩; rfl))); simp only [sA])
        (apply QO.val; (case hw => rfl); (case hv => (simp [vA, fRes_eq, n1, n2, l1, e1, e2, h3, h3b, h3c]; first|done|exact rfl|(refine ⟨rfl,?_⟩; rfl))); simp only [sA])
        (apply QO.val; (case hw => rfl); (case hv => (simp [vA, fRes_eq, n1, n2, l1, e1, e2, h3, h3b, h3c]; first|done|exact rfl|(refine ⟨rfl,?_⟩; rfl))); simp only [sA])
        (apply QO.val; (case hw => rfl); (case hv => (simp [vA, fRes_eq, n1, n2, l1, e1, e2, h3, h3b, h3c]; first|done|exact rfl|(refine ⟨rfl,?_⟩; rfl))); simp only [sA])
        (apply QO.val; (case hw => rfl); (case hv => (simp [vA, fRes_eq, n1, n2, l1, e1, e2, h3, h3b, h3c]; first|done|exact rfl|(refine ⟨rfl,?_⟩; rfl))); simp only [sA])
        (apply QO.val; (case hw => rfl); (case hv => (simp [vA, fRes_eq, n1, n2, l1, e1, e2, h3, h3b, h3c]; first|done|exact rfl|(refine ⟨rfl,?_⟩; rfl))); simp only [sA])
        (apply QO.val; (case hw => rfl); (case hv => (simp [vA, fRes_eq, n1, n2, l1, e1, e2, h3, h3b, h3c]; first|done|exact rfl|(refine ⟨rfl,?_⟩; rfl))); simp only [sA])
        (apply QO.val; (case hw => rfl); (case hv => (simp [vA, fRes_eq, n1, n2, l1, e1, e2, h3, h3b, h3c]; first|done|exact rfl|(refine ⟨rfl,?_⟩; rfl))); simp only [sA])
        (apply QO.val; (case hw => rfl); (case hv => (simp [vA, fRes_eq, n1, n2, l1, e1, e2, h3, h3b, h3c]; first|done|exact rfl|(refine ⟨rfl,?_⟩; rfl))); simp only [sA])
        exact QO.nil
      case h2 =>
        simp only [List.drop_succ_cons, List.drop_zero]
        (apply QO.val; (case hw => rfl); (case hv => (simp [vA, fRes_eq, h3, h3b, h3c]; first|done|exact rfl|(refine ⟨rfl,?_⟩; rfl))); simp only [sA])
        (apply QO.val; (case hw => rfl); (case hv => (simp [vA, fRes_eq, h3, h3b, h3c]; first|done|exact rfl|(refine ⟨rfl,?_⟩; rfl))); simp only [sA])
        exact QO.nil
      (repeat (first|((first|refine ExO.nil ?_|refine Ex.skip ?_|refine Ex.ret ?_|refine Ex.exit ?_); try dsimp only)|((first|(refine xI ?_; intro _ _)|refine xL ?_|(refine xB ?_; intro _ _)|refine xG ?_|refine xS ?_|refine xM ?_|(refine xC ?_; intro _ _)|(refine xJ ?_; intro _ _)|refine xW ?_); try simp only [sA])|refine Ex.seq ?_|refine Ex.reg ?_|refine Ex.block ?_|refine eT ?_|refine eF ?_|simp only [reduceCtorEq, AEx.ex.injEq, Nat.reduceEqDiff, if_true, if_false]))
      rename_i i2 hi2
      rw [i64_in (by omega) (by omega)] at hi2
      exact ⟨_, _, forgets 10 [] ([false, false, false, false, false, false, false, false, true, false, true, false, true, true, false, true, true, false, true, false, true, false, true, false, true, false, true, false, false, false, false, false, false, false, false, false, false, false, false, false, false, false, false, false, false, false, false, false, false, false, false, false, false, false, false, false, false, false, false, false, false, false, false, false, false, false, false, false, false, false, false, false, false, false, false, false, false, false, false, false, false, false, false, false, false, false, false, false, false, false, false, false, false, false, false, false, false, false, false, false, false, false, false, false, false, false, false, false, false, false, false, false, false, false, false, false, false, false, false, false, false, false, false, false, false, false, false, false, false, false, false, false, false, false, false, false, false, false, false, false, false, false, false, false, false, false, false, false, false, false, false, false, false, false, false, false, false, false, false, false, false, false, false, false, false, false, false, false, false, false, false, false, false, false, false, false, false, false, false, false, false, false, false, false, false, false, false, false, false, false, false, false, false, false, false, false, false, false, false, false, false, false, false, false]) (by decide) (by simp) (bx2 := [[.int .u64 b], [.int .i64 len, .int .i64 wid, .int .i64 front, .int .i64 rear, .int .i64 turn, .int .i64 kilos, .int .i64 mid, .int .i64 high, .sl (ls.map Ld.av) none], [], [.int .i64 len, .int .i64 wid, .int .i64 front, .int .i64 rear, .int .i64 turn, .int .i64 kilos, .int .i64 mid, .int .i64 high, .sl (ms.map Ld.av) none], [.int .i64 T1, .int .i64 T2], [.int .i64 T3, .int .i64 T4], [.int .i64 A1, .int .i64 A2], [.int .i64 A3, .int .i64 A4], [.int .i64 B1, .int .i64 B2], [.int .i64 B3, .int .i64 B4]]) (by simp [re, re1, AV.clean, clean_lds]) (by rfl) (by decide), hs.length - (i + 1), by omega, i + 1, by omega, rfl, by rw [hi2]; simp [keepS, re, re1, AV.clean, cl1, cl2], by rfl⟩

theorem narrows_m (zs : List Int) (hz : zs.length ≤ 9223372036854775807) : Does Try.prog 6 [.sl (zs.map fun z => .int .i64 z) none] [] fun v _ => v = .bool true := by
  refine Does.of comp6 ?_
  have hcz : cleanL (zs.map fun z => AV.int .i64 z) = true := by
    rw [cleanL_iff]
    intro x hx
    obtain ⟨z, _, rfl⟩ := List.mem_map.1 hx
    rfl
  have p0 := nph0
  have p1 := @nph1
  have p2 := @nph2
  have p3 := @nph3
  have p4 := @nph4
  unfold F6 at p0 p1 p2 p3 p4 ⊢
  simp only [NB_s, NB_0, NR_s, NR_0] at p0 p1 p2 p3 p4
  simp only [start, List.length_cons, List.length_nil, List.replicate, List.cons_append, List.nil_append, Nat.reduceAdd, Nat.reduceSub]
  (repeat (first|((first|refine ExO.nil ?_|refine Ex.skip ?_|refine Ex.ret ?_|refine Ex.exit ?_); try dsimp only)|((first|(refine xI ?_; intro _ _)|refine xL ?_|(refine xB ?_; intro _ _)|refine xG ?_|refine xS ?_|refine xM ?_|(refine xC ?_; intro _ _)|refine xW ?_); try simp only [sA])|refine Ex.seq ?_|refine Ex.reg ?_|refine Ex.block ?_|refine eT ?_|refine eF ?_|simp only [reduceCtorEq, AEx.ex.injEq, Nat.reduceEqDiff, if_true, if_false]))
  refine ExO.call (f := 11) (xs := [.sl (zs.map fun z => .int .i64 z) none]) (ys := [.sl (zs.map fun z => .int .i64 z) none]) (bs := []) (cells := []) (by rfl) (by rfl) (by rfl) (by simp [ren, ren1, AV.plain, AV.plain1, AV.clean, hcz]) (by rfl) (by rfl) (drumOf_m zs hz) ?_
  rintro v c' ⟨b0, rfl, rfl⟩
  refine ⟨.ptr 0 0, rfl, rfl, ?_⟩
  simp only [List.map_cons, List.map_nil, putA, List.set_cons_zero, List.set_cons_succ, AV.plain, AV.plain1, setAll, List.length_cons, List.length_nil, List.drop_succ_cons, List.drop_zero, List.drop_nil, List.append_nil, Nat.reduceAdd]
  (first | (refine ExO.nil ?_; try dsimp only) | (refine xI ?_; intro _ _; simp only [sA]) | (refine xL ?_; simp only [sA]) | (refine xB ?_; intro _ _; simp only [sA]) | (refine xG ?_; try simp only [sA]) | (refine xS ?_; try simp only [sA]) | (refine xM ?_; simp only [sA]) | (refine xC ?_; intro _ _; simp only [sA]) | (refine xW ?_; try simp only [sA]) | refine Ex.seq ?_ | refine Ex.reg ?_ | refine Ex.block ?_ | (refine Ex.skip ?_; try dsimp only) | (refine Ex.ret ?_; try dsimp only) | (refine Ex.exit ?_; try dsimp only) | refine eT ?_ | refine eF ?_ | simp only [reduceCtorEq, AEx.ex.injEq, Nat.reduceEqDiff, if_true, if_false])
  (first | (refine ExO.nil ?_; try dsimp only) | (refine xI ?_; intro _ _; simp only [sA]) | (refine xL ?_; simp only [sA]) | (refine xB ?_; intro _ _; simp only [sA]) | (refine xG ?_; try simp only [sA]) | (refine xS ?_; try simp only [sA]) | (refine xM ?_; simp only [sA]) | (refine xC ?_; intro _ _; simp only [sA]) | (refine xW ?_; try simp only [sA]) | refine Ex.seq ?_ | refine Ex.reg ?_ | refine Ex.block ?_ | (refine Ex.skip ?_; try dsimp only) | (refine Ex.ret ?_; try dsimp only) | (refine Ex.exit ?_; try dsimp only) | refine eT ?_ | refine eF ?_ | simp only [reduceCtorEq, AEx.ex.injEq, Nat.reduceEqDiff, if_true, if_false])
  refine Ex.forget (a2 := [.junk, .junk, .junk, .ptr 0 0, .junk, .junk, .junk, .junk, .junk, .junk, .junk, .junk, .junk, .junk, .junk, .junk, .junk, .junk, .junk, .junk, .junk, .junk, .junk, .junk, .junk, .junk, .junk, .junk, .junk, .junk, .junk, .junk, .junk, .junk, .junk, .junk, .junk, .junk, .junk, .junk, .junk, .junk, .junk, .junk, .junk, .junk, .junk, .junk, .junk, .junk, .junk, .junk, .junk, .junk, .junk, .junk, .junk, .junk, .junk, .junk, .junk, .junk, .junk, .junk, .junk, .junk, .junk, .junk, .junk, .junk, .junk, .junk, .junk, .junk, .junk, .junk, .junk, .junk, .junk, .junk, .junk, .junk, .junk, .junk, .junk, .junk, .junk, .junk, .junk, .junk, .junk, .junk, .junk, .junk, .junk, .junk, .junk, .junk, .junk, .junk, .junk, .junk, .junk, .junk, .junk, .junk, .junk, .junk, .junk, .junk, .junk, .junk, .junk, .junk, .junk, .junk, .junk, .junk, .junk, .junk, .junk, .junk, .junk, .junk, .junk, .junk, .junk, .junk, .junk, .junk, .junk, .junk, .junk, .junk, .junk, .junk, .junk, .junk, .junk, .junk, .junk, .junk, .junk, .junk, .junk, .junk, .junk, .junk, .junk, .junk, .junk, .junk, .junk, .junk, .junk, .junk, .junk, .junk, .junk, .junk, .junk, .junk, .junk, .junk, .junk, .junk, .junk, .junk, .junk, .junk, .junk, .junk, .junk, .junk, .junk, .junk, .junk, .junk, .junk, .junk, .junk, .junk, .junk, .junk, .junk, .junk, .junk, .junk, .junk, .junk, .junk, .junk, .junk, .junk, .junk, .junk, .junk, .junk, .junk, .junk, .junk, .junk, .junk, .junk]) (forgets 1 [] ([false, false, false, true, false, false, false, false, false, false, false, false, false, false, false, false, false, false, false, false, false, false, false, false, false, false, false, false, false, false, false, false, false, false, false, false, false, false, false, false, false, false, false, false, false, false, false, false, false, false, false, false, false, false, false, false, false, false, false, false, false, false, false, false, false, false, false, false, false, false, false, false, false, false, false, false, false, false, false, false, false, false, false, false, false, false, false, false, false, false, false, false, false, false, false, false, false, false, false, false, false, false, false, false, false, false, false, false, false, false, false, false, false, false, false, false, false, false, false, false, false, false, false, false, false, false, false, false, false, false, false, false, false, false, false, false, false, false, false, false, false, false, false, false, false, false, false, false, false, false, false, false, false, false, false, false, false, false, false, false, false, false, false, false, false, false, false, false, false, false, false, false, false, false, false, false, false, false, false, false, false, false, false, false, false, false, false, false, false, false, false, false, false, false, false, false, false, false, false, false, false, false, false, false]) (by decide) (by simp) (bx2 := [[.int .u64 b0]]) (by rfl) (by rfl) (by decide)) ?_
  refine Ex.join N0 (p0 b0) fun a0 S0 h0 => ?_
  refine Ex.join N1 (p1 h0) fun a1 S1 h1 => ?_
  refine Ex.join N2 (p2 h1) fun a2 S2 h2 => ?_
  refine Ex.join N3 (p3 h2) fun a3 S3 h3 => ?_
  refine Ex.mono (p4 h3) ?_
  rintro x a' S' ⟨hx, hr⟩
  exact ⟨hx, _, hr, by simp, rfl⟩
end Go.Proofs.Ytoefpcpijolofaa
end
section
namespace Go.Proofs.Ytoefpcpijolofaa
open Go.RowKit Go.ChangeShapes Go.WideShapes Go.ChangeAt
set_option linter.unusedVariables false
set_option linter.unusedSimpArgs false

def nums (zs : List Int) : AV := .sl (zs.map fun z => .int .i64 z) none
theorem prog_own : ownKnob Try.prog.godebug = none := by kernel_rfl
theorem prog_laid : laidOutB Try.prog = true := by kernel_rfl

namespace floatNarrows
set_option maxRecDepth 100000 in
theorem lifted (hM : ∀ zs : List Int, (∀ z ∈ zs, (Lit.int .i64 z).wf = true) → zs.length ≤ maxLen → Does Try.prog 6 [nums zs] [] fun v _ => v = .bool true) (os : Os) (started : os.Started) (H : Type) (enc : TypeId × Value → H) :
    ReturnsInHanded {} Try.checked os 6 .any (Rows.floatNarrowsSpec.pre6 enc Try.prog Try.f6 Rows.floatNarrowsRow.domain false) (Rows.floatNarrowsSpec.post enc Try.prog Try.f6 false true false false) := by
  refine returnsInHanded_of_change (C := Try.checked) prog_own started (by kernel_rfl) Try.func6
    (ChangeSpec.witness6 (enc := enc) (C := Try.checked) false ⟨#[], #[.slice none 0 0], []⟩ 8 (by kernel_rfl) (by kernel_rfl) (by kernel_rfl) (by kernel_rfl)) ?_
  intro W base args ds gs before hval0 hW hcnd _
  have hval : ∀ (j : Nat) t v, Try.f6.params[j]? = some t → args[j]? = some v → Value.okWide Try.prog W .any base t v := hval0
  have hW' := hW
  obtain ⟨p, q, hA0, hV, rfl, hfz, hnd⟩ := hW
  have hA : DataW.TrodAll enc Try.prog W 0 (fun _ => true) true Try.f6.params.toList args.toList ds p := hA0
  rw [Try.params6] at hA hval
  obtain ⟨v0, vs0, d0, ds0, p0, q0, hargs, rfl, rfl, h0, r0⟩ := trodAll_cons hA
  obtain ⟨rfl, rfl, rfl⟩ := trodAll_nil r0
  obtain rfl : args = #[v0] := by cases args; simp_all
  obtain ⟨rfl, rfl⟩ := trodVars_none hV
  obtain ⟨a0, len0, cap0, rfl⟩ := okWide_slice Try.underlying22 (hval 0 22 v0 rfl rfl)
  have k0 := h0
  have lt0 : ∀ x ∈ p0, x.block < W.heap.size := by obtain ⟨m, hm⟩ := k0; exact DataW.trod_lt m _ _ _ hm
  obtain ⟨zs, hwf, hlen, hvr⟩ := ints_vr Try.underlying22 Try.underlying3 (by kernel_rfl) h0
  clear hA0 hval0
  refine ((hM zs hwf hlen).law (us := #[.slice a0 len0 cap0]) ⟨rfl, fun i x u hx hu => ?_⟩).mono fun e W' ⟨he, bel⟩ => ?_
  · cases i with
    | zero => simp at hx hu; subst hx; subst hu; exact hvr
    | succ i => simp at hx
  subst he
  exact ⟨_, rfl, _, _, _, [], _, [], hW', trodAll_mk1 (shut_bool Try.underlying4 _), (trodAll_cons_mk (Below.trod prog_laid (by kernel_rfl) (of_decide_eq_true (by kernel_rfl)) k0 bel lt0) trodAll_mk0), rfl, bel.frame _, fun h => by cases h⟩

theorem frame (hM : ∀ zs : List Int, (∀ z ∈ zs, (Lit.int .i64 z).wf = true) → zs.length ≤ maxLen → Does Try.prog 6 [nums zs] [] fun v _ => v = .bool true) : Rows.FloatNarrowsSaid :=
  OpenClaim.holds_of_wide 6 Try.f6 rfl rfl rfl rfl rfl rfl rfl ⟨rfl, rfl, rfl, rfl, rfl⟩ rfl rfl rfl rfl rfl (by kernel_rfl) Try.func6 (by kernel_rfl)
    (of_decide_eq_true (by kernel_rfl)) (by unfold Func.isWrapper; first | (rw [if_pos (by decide +kernel)]; kernel_rfl) | (rw [if_neg (by decide +kernel)]; exact ⟨rfl, rfl⟩))
    (fun os started H enc _ => lifted hM os started H enc)
end floatNarrows
end Go.Proofs.Ytoefpcpijolofaa
end
