/- Part 4 of what the law needs: own work, put together. -/
import Derived.Test.YtoefpcpijolofaaFloatTru2
section
namespace Go.Proofs.Ytoefpcpijolofaa
open Go.RowKit
set_option linter.unusedVariables false
set_option linter.unusedSimpArgs false
set_option maxRecDepth 10000

def T1 : FnPost := look [(48, sHit), (40, sRoll), (41, sMid), (39, sAny), (49, sSpan)]
theorem T1_ok : ClrOk Try.prog (clrOf (orcOf Try.prog T1)) := clr_ok (orcOf_ok _ _)

theorem hit_f (b : Int) : Meets Try.prog 48 [.ptr 0 0] [[.int .u64 b]] (sHit [.ptr 0 0] [[.int .u64 b]]) := by
  refine Meets.of (noClr_ok _) comp48 ?_
  unfold F48
  simp only [start, List.length_cons, List.length_nil, List.replicate, List.cons_append, List.nil_append, Nat.reduceAdd, Nat.reduceSub]
  (repeat (first | (refine EvO.nil ?_; try dsimp only) | (apply EvO.stI; (case hk => rfl); (case hv => (simp [evOp, evf_eq, fRes_eq, aop, evd, finish, binA, cmpI, takeCells, layAt, AV.cells, AV.okCells, AV.scalar, isNilA, eqT, eqSc]; first | done | exact ⟨⟨rfl, rfl⟩, rfl⟩ | exact ⟨rfl, rfl⟩ | exact rfl)); (intro _ _; simp only [putA, List.set_cons_zero, List.set_cons_succ])) | (apply EvO.stB; (case hk => rfl); (case hv => (simp [evOp, evf_eq, fRes_eq, aop, evd, finish, binA, cmpI, takeCells, layAt, AV.cells, AV.okCells, AV.scalar, isNilA, eqT, eqSc]; first | done | exact ⟨⟨rfl, rfl⟩, rfl⟩ | exact ⟨rfl, rfl⟩ | exact rfl)); (intro _ _; (first | (rename_i m hm; have hm2 : m = true := hm; clear hm; subst hm2) | (rename_i m hm; have hm2 : m = false := hm; clear hm; subst hm2) | skip); simp only [putA, List.set_cons_zero, List.set_cons_succ])) | (apply EvO.stG; (case hk => rfl); (case hv => (simp [evOp, evf_eq, fRes_eq, aop, evd, finish, binA, cmpI, takeCells, layAt, AV.cells, AV.okCells, AV.scalar, isNilA, eqT, eqSc]; first | done | exact ⟨⟨rfl, rfl⟩, rfl⟩ | exact ⟨rfl, rfl⟩ | exact rfl)); (try simp only [putA, List.set_cons_zero, List.set_cons_succ])) | refine Ev.seq ?_ | refine Ev.reg ?_ | refine Ev.block ?_ | (refine Ev.skip ?_; try dsimp only) | (refine Ev.ret ?_; try dsimp only) | (refine Ev.exit ?_; try dsimp only) | simp only [reduceCtorEq, AEx.ex.injEq, Nat.reduceEqDiff, if_true, if_false]))
  rename_i m hm
  simp [evRes, evRes1, one, AV.names, takeCells]
  refine ⟨_, _, rfl, rfl, ?_⟩
  rw [hm]
  exact wrap_u64 _

theorem roll_f (b n : Int) (hn : n < 9223372036854775808) : Meets Try.prog 40 [.ptr 0 0, .int .i64 n] [[.int .u64 b]] (sRoll [.ptr 0 0, .int .i64 n] [[.int .u64 b]]) := by
  refine Meets.of T1_ok comp40 ?_
  unfold F40
  simp only [start, List.length_cons, List.length_nil, List.replicate, List.cons_append, List.nil_append, Nat.reduceAdd, Nat.reduceSub]
  (repeat (first | (refine EvO.nil ?_; try dsimp only) | (apply EvO.stI; (case hk => rfl); (case hv => (simp [evOp, evf_eq, fRes_eq, aop, evd, finish, binA, cmpI, takeCells, layAt, AV.cells, AV.okCells, AV.scalar, isNilA, eqT, eqSc]; first | done | exact ⟨⟨rfl, rfl⟩, rfl⟩ | exact ⟨rfl, rfl⟩ | exact rfl)); (intro _ _; simp only [putA, List.set_cons_zero, List.set_cons_succ])) | (apply EvO.stB; (case hk => rfl); (case hv => (simp [evOp, evf_eq, fRes_eq, aop, evd, finish, binA, cmpI, takeCells, layAt, AV.cells, AV.okCells, AV.scalar, isNilA, eqT, eqSc]; first | done | exact ⟨⟨rfl, rfl⟩, rfl⟩ | exact ⟨rfl, rfl⟩ | exact rfl)); (intro _ _; (first | (rename_i m hm; have hm2 : m = true := hm; clear hm; subst hm2) | (rename_i m hm; have hm2 : m = false := hm; clear hm; subst hm2) | skip); simp only [putA, List.set_cons_zero, List.set_cons_succ])) | (apply EvO.stG; (case hk => rfl); (case hv => (simp [evOp, evf_eq, fRes_eq, aop, evd, finish, binA, cmpI, takeCells, layAt, AV.cells, AV.okCells, AV.scalar, isNilA, eqT, eqSc]; first | done | exact ⟨⟨rfl, rfl⟩, rfl⟩ | exact ⟨rfl, rfl⟩ | exact rfl)); (try simp only [putA, List.set_cons_zero, List.set_cons_succ])) | refine Ev.seq ?_ | refine Ev.reg ?_ | refine Ev.block ?_ | (refine Ev.skip ?_; try dsimp only) | (refine Ev.ret ?_; try dsimp only) | (refine Ev.exit ?_; try dsimp only) | simp only [reduceCtorEq, AEx.ex.injEq, Nat.reduceEqDiff, if_true, if_false]))
  rename_i c hc
  cases c
  · (refine Ev.cond (b := false) (by first | rfl | simp [evd]) ?_; simp only [Bool.false_eq_true, if_false])
    have hn2 : 2 ≤ n := by simpa using hc
    (repeat (first | (refine EvO.nil ?_; try dsimp only) | (apply EvO.stI; (case hk => rfl); (case hv => (simp [evOp, evf_eq, fRes_eq, aop, evd, finish, binA, cmpI, takeCells, layAt, AV.cells, AV.okCells, AV.scalar, isNilA, eqT, eqSc]; first | done | exact ⟨⟨rfl, rfl⟩, rfl⟩ | exact ⟨rfl, rfl⟩ | exact rfl)); (intro _ _; simp only [putA, List.set_cons_zero, List.set_cons_succ])) | (apply EvO.stB; (case hk => rfl); (case hv => (simp [evOp, evf_eq, fRes_eq, aop, evd, finish, binA, cmpI, takeCells, layAt, AV.cells, AV.okCells, AV.scalar, isNilA, eqT, eqSc]; first | done | exact ⟨⟨rfl, rfl⟩, rfl⟩ | exact ⟨rfl, rfl⟩ | exact rfl)); (intro _ _; (first | (rename_i m hm; have hm2 : m = true := hm; clear hm; subst hm2) | (rename_i m hm; have hm2 : m = false := hm; clear hm; subst hm2) | skip); simp only [putA, List.set_cons_zero, List.set_cons_succ])) | (apply EvO.stG; (case hk => rfl); (case hv => (simp [evOp, evf_eq, fRes_eq, aop, evd, finish, binA, cmpI, takeCells, layAt, AV.cells, AV.okCells, AV.scalar, isNilA, eqT, eqSc]; first | done | exact ⟨⟨rfl, rfl⟩, rfl⟩ | exact ⟨rfl, rfl⟩ | exact rfl)); (try simp only [putA, List.set_cons_zero, List.set_cons_succ])) | refine Ev.seq ?_ | refine Ev.reg ?_ | refine Ev.block ?_ | (refine Ev.skip ?_; try dsimp only) | (refine Ev.ret ?_; try dsimp only) | (refine Ev.exit ?_; try dsimp only) | simp only [reduceCtorEq, AEx.ex.injEq, Nat.reduceEqDiff, if_true, if_false]))
    refine EvO.callM (f := (48)) (xs := ([.ptr 0 0])) (bs := ([0])) (cells := ([[.int .u64 b]])) (by rfl) (by rfl) (by rfl) (by rfl) (by rfl) (by rfl) ((hit_f b)) (by rfl) ?_
    rintro v c' ⟨y, b', rfl, rfl, h1, h2⟩
    refine ⟨_, rfl, rfl, ?_⟩
    simp only [putA, List.set_cons_zero, List.set_cons_succ, AV.plain, AV.plain1, setAll, List.length_cons, List.length_nil, List.drop_succ_cons, List.drop_zero, List.drop_nil, List.append_nil, Nat.reduceAdd]
    (repeat (first | (refine EvO.nil ?_; try dsimp only) | (apply EvO.stI; (case hk => rfl); (case hv => (simp [evOp, evf_eq, fRes_eq, aop, evd, finish, binA, cmpI, takeCells, layAt, AV.cells, AV.okCells, AV.scalar, isNilA, eqT, eqSc]; first | done | exact ⟨⟨rfl, rfl⟩, rfl⟩ | exact ⟨rfl, rfl⟩ | exact rfl)); (intro _ _; simp only [putA, List.set_cons_zero, List.set_cons_succ])) | (apply EvO.stB; (case hk => rfl); (case hv => (simp [evOp, evf_eq, fRes_eq, aop, evd, finish, binA, cmpI, takeCells, layAt, AV.cells, AV.okCells, AV.scalar, isNilA, eqT, eqSc]; first | done | exact ⟨⟨rfl, rfl⟩, rfl⟩ | exact ⟨rfl, rfl⟩ | exact rfl)); (intro _ _; (first | (rename_i m hm; have hm2 : m = true := hm; clear hm; subst hm2) | (rename_i m hm; have hm2 : m = false := hm; clear hm; subst hm2) | skip); simp only [putA, List.set_cons_zero, List.set_cons_succ])) | (apply EvO.stG; (case hk => rfl); (case hv => (simp [evOp, evf_eq, fRes_eq, aop, evd, finish, binA, cmpI, takeCells, layAt, AV.cells, AV.okCells, AV.scalar, isNilA, eqT, eqSc]; first | done | exact ⟨⟨rfl, rfl⟩, rfl⟩ | exact ⟨rfl, rfl⟩ | exact rfl)); (try simp only [putA, List.set_cons_zero, List.set_cons_succ])) | refine Ev.seq ?_ | refine Ev.reg ?_ | refine Ev.block ?_ | (refine Ev.skip ?_; try dsimp only) | (refine Ev.ret ?_; try dsimp only) | (refine Ev.exit ?_; try dsimp only) | simp only [reduceCtorEq, AEx.ex.injEq, Nat.reduceEqDiff, if_true, if_false]))
    rename_i m1 hm1 m2 hm2
    have e2 : m2 = n := by rw [hm2]; show n % 2 ^ 64 = n; omega
    have e1 : m1 = y / 2 := by rw [hm1]; show y.fdiv 2 = y / 2; rw [Int.fdiv_eq_ediv_of_nonneg _ (by omega)]
    have hne : ¬ m2 = 0 := by omega
    (apply EvO.stI; (case hk => rfl); (case hv => (simp [evOp, evf_eq, fRes_eq, aop, evd, finish, binA, cmpI, takeCells, layAt, AV.cells, AV.okCells, AV.scalar, isNilA, eqT, eqSc, hne]; first | done | exact ⟨⟨rfl, rfl⟩, rfl⟩ | exact ⟨rfl, rfl⟩ | exact rfl)); (intro _ _; simp only [putA, List.set_cons_zero, List.set_cons_succ]))
    (repeat (first | (refine EvO.nil ?_; try dsimp only) | (apply EvO.stI; (case hk => rfl); (case hv => (simp [evOp, evf_eq, fRes_eq, aop, evd, finish, binA, cmpI, takeCells, layAt, AV.cells, AV.okCells, AV.scalar, isNilA, eqT, eqSc]; first | done | exact ⟨⟨rfl, rfl⟩, rfl⟩ | exact ⟨rfl, rfl⟩ | exact rfl)); (intro _ _; simp only [putA, List.set_cons_zero, List.set_cons_succ])) | (apply EvO.stB; (case hk => rfl); (case hv => (simp [evOp, evf_eq, fRes_eq, aop, evd, finish, binA, cmpI, takeCells, layAt, AV.cells, AV.okCells, AV.scalar, isNilA, eqT, eqSc]; first | done | exact ⟨⟨rfl, rfl⟩, rfl⟩ | exact ⟨rfl, rfl⟩ | exact rfl)); (intro _ _; (first | (rename_i m hm; have hm2 : m = true := hm; clear hm; subst hm2) | (rename_i m hm; have hm2 : m = false := hm; clear hm; subst hm2) | skip); simp only [putA, List.set_cons_zero, List.set_cons_succ])) | (apply EvO.stG; (case hk => rfl); (case hv => (simp [evOp, evf_eq, fRes_eq, aop, evd, finish, binA, cmpI, takeCells, layAt, AV.cells, AV.okCells, AV.scalar, isNilA, eqT, eqSc]; first | done | exact ⟨⟨rfl, rfl⟩, rfl⟩ | exact ⟨rfl, rfl⟩ | exact rfl)); (try simp only [putA, List.set_cons_zero, List.set_cons_succ])) | refine Ev.seq ?_ | refine Ev.reg ?_ | refine Ev.block ?_ | (refine Ev.skip ?_; try dsimp only) | (refine Ev.ret ?_; try dsimp only) | (refine Ev.exit ?_; try dsimp only) | simp only [reduceCtorEq, AEx.ex.injEq, Nat.reduceEqDiff, if_true, if_false]))
    rename_i m3 hm3 m4 hm4
    have e3 : m3 = m1 % m2 := by rw [hm3, Int.tmod_eq_emod_of_nonneg (by omega)]
    have b1 := Int.emod_nonneg m1 hne
    have b2 := Int.emod_lt_of_pos m1 (show 0 < m2 by omega)
    rw [i64_in (by omega) (by omega)] at hm4
    simp [evRes, evRes1, one, AV.names, takeCells]
    exact ⟨_, _, rfl, rfl, by omega, fun _ => by omega, fun _ => by omega⟩
  · (refine Ev.cond (b := true) (by first | rfl | simp [evd]) ?_; simp only [if_true])
    have hn2 : n < 2 := by simpa using hc
    (repeat (first | (refine EvO.nil ?_; try dsimp only) | (apply EvO.stI; (case hk => rfl); (case hv => (simp [evOp, evf_eq, fRes_eq, aop, evd, finish, binA, cmpI, takeCells, layAt, AV.cells, AV.okCells, AV.scalar, isNilA, eqT, eqSc]; first | done | exact ⟨⟨rfl, rfl⟩, rfl⟩ | exact ⟨rfl, rfl⟩ | exact rfl)); (intro _ _; simp only [putA, List.set_cons_zero, List.set_cons_succ])) | (apply EvO.stB; (case hk => rfl); (case hv => (simp [evOp, evf_eq, fRes_eq, aop, evd, finish, binA, cmpI, takeCells, layAt, AV.cells, AV.okCells, AV.scalar, isNilA, eqT, eqSc]; first | done | exact ⟨⟨rfl, rfl⟩, rfl⟩ | exact ⟨rfl, rfl⟩ | exact rfl)); (intro _ _; (first | (rename_i m hm; have hm2 : m = true := hm; clear hm; subst hm2) | (rename_i m hm; have hm2 : m = false := hm; clear hm; subst hm2) | skip); simp only [putA, List.set_cons_zero, List.set_cons_succ])) | (apply EvO.stG; (case hk => rfl); (case hv => (simp [evOp, evf_eq, fRes_eq, aop, evd, finish, binA, cmpI, takeCells, layAt, AV.cells, AV.okCells, AV.scalar, isNilA, eqT, eqSc]; first | done | exact ⟨⟨rfl, rfl⟩, rfl⟩ | exact ⟨rfl, rfl⟩ | exact rfl)); (try simp only [putA, List.set_cons_zero, List.set_cons_succ])) | refine Ev.seq ?_ | refine Ev.reg ?_ | refine Ev.block ?_ | (refine Ev.skip ?_; try dsimp only) | (refine Ev.ret ?_; try dsimp only) | (refine Ev.exit ?_; try dsimp only) | simp only [reduceCtorEq, AEx.ex.injEq, Nat.reduceEqDiff, if_true, if_false]))
    simp [evRes, evRes1, one, AV.names, takeCells]
    exact ⟨_, _, rfl, rfl, by omega, fun _ => rfl, fun _ => by omega⟩

theorem mid_f (b lo hi : Int) (h0 : 0 ≤ lo) (h1 : lo ≤ 4611686018427387904) (h2 : 0 ≤ hi) (h3 : hi ≤ 4611686018427387904) : Meets Try.prog 41 [.ptr 0 0, .int .i64 lo, .int .i64 hi] [[.int .u64 b]] (sMid [.ptr 0 0, .int .i64 lo, .int .i64 hi] [[.int .u64 b]]) := by
  refine Meets.of T1_ok comp41 ?_
  unfold F41
  simp only [start, List.length_cons, List.length_nil, List.replicate, List.cons_append, List.nil_append, Nat.reduceAdd, Nat.reduceSub]
  (repeat (first | (refine EvO.nil ?_; try dsimp only) | (apply EvO.stI; (case hk => rfl); (case hv => (simp [evOp, evf_eq, fRes_eq, aop, evd, finish, binA, cmpI, takeCells, layAt, AV.cells, AV.okCells, AV.scalar, isNilA, eqT, eqSc]; first | done | exact ⟨⟨rfl, rfl⟩, rfl⟩ | exact ⟨rfl, rfl⟩ | exact rfl)); (intro _ _; simp only [putA, List.set_cons_zero, List.set_cons_succ])) | (apply EvO.stB; (case hk => rfl); (case hv => (simp [evOp, evf_eq, fRes_eq, aop, evd, finish, binA, cmpI, takeCells, layAt, AV.cells, AV.okCells, AV.scalar, isNilA, eqT, eqSc]; first | done | exact ⟨⟨rfl, rfl⟩, rfl⟩ | exact ⟨rfl, rfl⟩ | exact rfl)); (intro _ _; (first | (rename_i m hm; have hm2 : m = true := hm; clear hm; subst hm2) | (rename_i m hm; have hm2 : m = false := hm; clear hm; subst hm2) | skip); simp only [putA, List.set_cons_zero, List.set_cons_succ])) | (apply EvO.stG; (case hk => rfl); (case hv => (simp [evOp, evf_eq, fRes_eq, aop, evd, finish, binA, cmpI, takeCells, layAt, AV.cells, AV.okCells, AV.scalar, isNilA, eqT, eqSc]; first | done | exact ⟨⟨rfl, rfl⟩, rfl⟩ | exact ⟨rfl, rfl⟩ | exact rfl)); (try simp only [putA, List.set_cons_zero, List.set_cons_succ])) | refine Ev.seq ?_ | refine Ev.reg ?_ | refine Ev.block ?_ | (refine Ev.skip ?_; try dsimp only) | (refine Ev.ret ?_; try dsimp only) | (refine Ev.exit ?_; try dsimp only) | simp only [reduceCtorEq, AEx.ex.injEq, Nat.reduceEqDiff, if_true, if_false]))
  rename_i m1 hm1 m2 hm2
  rw [i64_in (by omega) (by omega)] at hm1
  rw [i64_in (by omega) (by omega)] at hm2
  refine EvO.callM (f := (40)) (xs := ([.ptr 0 0, .int .i64 m2])) (bs := ([0])) (cells := ([[.int .u64 b]])) (by rfl) (by rfl) (by rfl) (by rfl) (by rfl) (by rfl) ((roll_f b m2 (by omega))) (by rfl) ?_
  rintro v c' ⟨m, b', rfl, rfl, g1, g2, g3⟩
  refine ⟨_, rfl, rfl, ?_⟩
  simp only [putA, List.set_cons_zero, List.set_cons_succ, AV.plain, AV.plain1, setAll, List.length_cons, List.length_nil, List.drop_succ_cons, List.drop_zero, List.drop_nil, List.append_nil, Nat.reduceAdd]
  (repeat (first | (refine EvO.nil ?_; try dsimp only) | (apply EvO.stI; (case hk => rfl); (case hv => (simp [evOp, evf_eq, fRes_eq, aop, evd, finish, binA, cmpI, takeCells, layAt, AV.cells, AV.okCells, AV.scalar, isNilA, eqT, eqSc]; first | done | exact ⟨⟨rfl, rfl⟩, rfl⟩ | exact ⟨rfl, rfl⟩ | exact rfl)); (intro _ _; simp only [putA, List.set_cons_zero, List.set_cons_succ])) | (apply EvO.stB; (case hk => rfl); (case hv => (simp [evOp, evf_eq, fRes_eq, aop, evd, finish, binA, cmpI, takeCells, layAt, AV.cells, AV.okCells, AV.scalar, isNilA, eqT, eqSc]; first | done | exact ⟨⟨rfl, rfl⟩, rfl⟩ | exact ⟨rfl, rfl⟩ | exact rfl)); (intro _ _; (first | (rename_i m hm; have hm2 : m = true := hm; clear hm; subst hm2) | (rename_i m hm; have hm2 : m = false := hm; clear hm; subst hm2) | skip); simp only [putA, List.set_cons_zero, List.set_cons_succ])) | (apply EvO.stG; (case hk => rfl); (case hv => (simp [evOp, evf_eq, fRes_eq, aop, evd, finish, binA, cmpI, takeCells, layAt, AV.cells, AV.okCells, AV.scalar, isNilA, eqT, eqSc]; first | done | exact ⟨⟨rfl, rfl⟩, rfl⟩ | exact ⟨rfl, rfl⟩ | exact rfl)); (try simp only [putA, List.set_cons_zero, List.set_cons_succ])) | refine Ev.seq ?_ | refine Ev.reg ?_ | refine Ev.block ?_ | (refine Ev.skip ?_; try dsimp only) | (refine Ev.ret ?_; try dsimp only) | (refine Ev.exit ?_; try dsimp only) | simp only [reduceCtorEq, AEx.ex.injEq, Nat.reduceEqDiff, if_true, if_false]))
  rename_i m3 hm3
  rw [i64_in (by omega) (by omega)] at hm3
  simp [evRes, evRes1, one, AV.names, takeCells]
  exact ⟨_, _, rfl, rfl, by omega, fun _ => by omega, fun _ => by omega⟩

theorem any_f (b : Int) (l : List Int) (hl : l ≠ []) (hn : l.length < 1000000) : Meets Try.prog 39 [.ptr 0 0, .sl (l.map fun z => .int .i64 z) none] [[.int .u64 b]] (sAny [.ptr 0 0, .sl (l.map fun z => .int .i64 z) none] [[.int .u64 b]]) := by
  have hpos : 0 < l.length := List.length_pos_iff.2 hl
  refine Meets.of T1_ok comp39 ?_
  unfold F39
  simp only [start, List.length_cons, List.length_nil, List.replicate, List.cons_append, List.nil_append, Nat.reduceAdd, Nat.reduceSub]
  (repeat (first | (refine EvO.nil ?_; try dsimp only) | (apply EvO.stI; (case hk => rfl); (case hv => (simp [evOp, evf_eq, fRes_eq, aop, evd, finish, binA, cmpI, takeCells, layAt, AV.cells, AV.okCells, AV.scalar, isNilA, eqT, eqSc]; first | done | exact ⟨⟨rfl, rfl⟩, rfl⟩ | exact ⟨rfl, rfl⟩ | exact rfl)); (intro _ _; simp only [putA, List.set_cons_zero, List.set_cons_succ])) | (apply EvO.stB; (case hk => rfl); (case hv => (simp [evOp, evf_eq, fRes_eq, aop, evd, finish, binA, cmpI, takeCells, layAt, AV.cells, AV.okCells, AV.scalar, isNilA, eqT, eqSc]; first | done | exact ⟨⟨rfl, rfl⟩, rfl⟩ | exact ⟨rfl, rfl⟩ | exact rfl)); (intro _ _; (first | (rename_i m hm; have hm2 : m = true := hm; clear hm; subst hm2) | (rename_i m hm; have hm2 : m = false := hm; clear hm; subst hm2) | skip); simp only [putA, List.set_cons_zero, List.set_cons_succ])) | (apply EvO.stG; (case hk => rfl); (case hv => (simp [evOp, evf_eq, fRes_eq, aop, evd, finish, binA, cmpI, takeCells, layAt, AV.cells, AV.okCells, AV.scalar, isNilA, eqT, eqSc]; first | done | exact ⟨⟨rfl, rfl⟩, rfl⟩ | exact ⟨rfl, rfl⟩ | exact rfl)); (try simp only [putA, List.set_cons_zero, List.set_cons_succ])) | refine Ev.seq ?_ | refine Ev.reg ?_ | refine Ev.block ?_ | (refine Ev.skip ?_; try dsimp only) | (refine Ev.ret ?_; try dsimp only) | (refine Ev.exit ?_; try dsimp only) | simp only [reduceCtorEq, AEx.ex.injEq, Nat.reduceEqDiff, if_true, if_false]))
  rename_i c hc
  have hcf : c = false := by rw [hc]; simp; omega
  subst hcf
  clear hc
  (refine Ev.cond (b := false) (by first | rfl | simp [evd]) ?_; simp only [Bool.false_eq_true, if_false])
  (repeat (first | (refine EvO.nil ?_; try dsimp only) | (apply EvO.stI; (case hk => rfl); (case hv => (simp [evOp, evf_eq, fRes_eq, aop, evd, finish, binA, cmpI, takeCells, layAt, AV.cells, AV.okCells, AV.scalar, isNilA, eqT, eqSc]; first | done | exact ⟨⟨rfl, rfl⟩, rfl⟩ | exact ⟨rfl, rfl⟩ | exact rfl)); (intro _ _; simp only [putA, List.set_cons_zero, List.set_cons_succ])) | (apply EvO.stB; (case hk => rfl); (case hv => (simp [evOp, evf_eq, fRes_eq, aop, evd, finish, binA, cmpI, takeCells, layAt, AV.cells, AV.okCells, AV.scalar, isNilA, eqT, eqSc]; first | done | exact ⟨⟨rfl, rfl⟩, rfl⟩ | exact ⟨rfl, rfl⟩ | exact rfl)); (intro _ _; (first | (rename_i m hm; have hm2 : m = true := hm; clear hm; subst hm2) | (rename_i m hm; have hm2 : m = false := hm; clear hm; subst hm2) | skip); simp only [putA, List.set_cons_zero, List.set_cons_succ])) | (apply EvO.stG; (case hk => rfl); (case hv => (simp [evOp, evf_eq, fRes_eq, aop, evd, finish, binA, cmpI, takeCells, layAt, AV.cells, AV.okCells, AV.scalar, isNilA, eqT, eqSc]; first | done | exact ⟨⟨rfl, rfl⟩, rfl⟩ | exact ⟨rfl, rfl⟩ | exact rfl)); (try simp only [putA, List.set_cons_zero, List.set_cons_succ])) | refine Ev.seq ?_ | refine Ev.reg ?_ | refine Ev.block ?_ | (refine Ev.skip ?_; try dsimp only) | (refine Ev.ret ?_; try dsimp only) | (refine Ev.exit ?_; try dsimp only) | simp only [reduceCtorEq, AEx.ex.injEq, Nat.reduceEqDiff, if_true, if_false]))
  refine EvO.callM (f := (40)) (xs := ([.ptr 0 0, .int .i64 l.length])) (bs := ([0])) (cells := ([[.int .u64 b]])) (by rfl) (by rfl) (by rfl) (by rfl) (by rfl) (by rfl) ((roll_f b l.length (by omega))) (by rfl) ?_
  rintro v c' ⟨m, b', rfl, rfl, g1, g2, g3⟩
  refine ⟨_, rfl, rfl, ?_⟩
  simp only [putA, List.set_cons_zero, List.set_cons_succ, AV.plain, AV.plain1, setAll, List.length_cons, List.length_nil, List.drop_succ_cons, List.drop_zero, List.drop_nil, List.append_nil, Nat.reduceAdd]
  obtain ⟨i, rfl⟩ : ∃ i : Nat, m = (i : Int) := ⟨m.toNat, by omega⟩
  have hi : i < l.length := by
    by_cases h2 : 2 ≤ (l.length : Int)
    · have := g3 h2; omega
    · have := g2 (by omega); omega
  have e1 : l[i]? = some l[i] := List.getElem?_eq_getElem hi
  have hmem : AV.int .i64 l[i] ∈ l.map fun z => AV.int .i64 z := List.mem_map.2 ⟨l[i], List.getElem_mem hi, rfl⟩
  generalize l[i] = x at e1 hmem
  have l1 : (i : Int) < (l.length : Int) := by omega
  (apply EvO.stG; (case hk => rfl); (case hv => (simp [evOp, evf_eq, fRes_eq, aop, evd, finish, binA, cmpI, takeCells, layAt, AV.cells, AV.okCells, AV.scalar, isNilA, eqT, eqSc, e1, l1]; first | done | exact ⟨⟨rfl, rfl⟩, rfl⟩ | exact ⟨rfl, rfl⟩ | exact rfl)); (try simp only [putA, List.set_cons_zero, List.set_cons_succ]))
  (repeat (first | (refine EvO.nil ?_; try dsimp only) | (apply EvO.stI; (case hk => rfl); (case hv => (simp [evOp, evf_eq, fRes_eq, aop, evd, finish, binA, cmpI, takeCells, layAt, AV.cells, AV.okCells, AV.scalar, isNilA, eqT, eqSc]; first | done | exact ⟨⟨rfl, rfl⟩, rfl⟩ | exact ⟨rfl, rfl⟩ | exact rfl)); (intro _ _; simp only [putA, List.set_cons_zero, List.set_cons_succ])) | (apply EvO.stB; (case hk => rfl); (case hv => (simp [evOp, evf_eq, fRes_eq, aop, evd, finish, binA, cmpI, takeCells, layAt, AV.cells, AV.okCells, AV.scalar, isNilA, eqT, eqSc]; first | done | exact ⟨⟨rfl, rfl⟩, rfl⟩ | exact ⟨rfl, rfl⟩ | exact rfl)); (intro _ _; (first | (rename_i m hm; have hm2 : m = true := hm; clear hm; subst hm2) | (rename_i m hm; have hm2 : m = false := hm; clear hm; subst hm2) | skip); simp only [putA, List.set_cons_zero, List.set_cons_succ])) | (apply EvO.stG; (case hk => rfl); (case hv => (simp [evOp, evf_eq, fRes_eq, aop, evd, finish, binA, cmpI, takeCells, layAt, AV.cells, AV.okCells, AV.scalar, isNilA, eqT, eqSc]; first | done | exact ⟨⟨rfl, rfl⟩, rfl⟩ | exact ⟨rfl, rfl⟩ | exact rfl)); (try simp only [putA, List.set_cons_zero, List.set_cons_succ])) | refine Ev.seq ?_ | refine Ev.reg ?_ | refine Ev.block ?_ | (refine Ev.skip ?_; try dsimp only) | (refine Ev.ret ?_; try dsimp only) | (refine Ev.exit ?_; try dsimp only) | simp only [reduceCtorEq, AEx.ex.injEq, Nat.reduceEqDiff, if_true, if_false]))
  simp [evRes, evRes1, one, AV.names, takeCells]
  exact ⟨_, _, rfl, rfl, hmem⟩

end Go.Proofs.Ytoefpcpijolofaa
end
section
namespace Go.Proofs.Ytoefpcpijolofaa
open Go.RowKit
set_option linter.unusedVariables false
set_option linter.unusedSimpArgs false
set_option maxRecDepth 10000

theorem drum_callT {T : FnPost} {f : FuncId} {xs ys : List AV} {b b' q : Int} {rest : List (List AV)} {lv : List (Nat × Nat)} (hf : fpOf xs = [0]) (hr : xs.mapM (ren [0]) = some ys) (ho : orcOf Try.prog T f ys [[.int .u64 b]] = some (.int .i64 q, [[.int .u64 b']])) : callS (clrOf (orcOf Try.prog T)) f xs ⟨[.int .u64 b] :: rest, lv⟩ = some (.int .i64 q, ⟨[.int .u64 b'] :: rest, lv⟩) := by
  rw [callS_clrOf]
  unfold evCall
  simp [hf, hr, ho, back, back1, AV.plain, AV.plain1, AV.clean, cleanL, setAll]
end Go.Proofs.Ytoefpcpijolofaa
end
section
namespace Go.Proofs.Ytoefpcpijolofaa
open Go.RowKit
set_option linter.unusedVariables false
set_option linter.unusedSimpArgs false
set_option maxRecDepth 10000

theorem divided_eq (n k : Int) (hk : 0 < k) : (if Int.tmod n k < 0 then Int.tdiv n k - 1 else Int.tdiv n k) = n / k := by
  have h1 := Int.mul_tdiv_add_tmod n k
  have h2 : Int.tmod n k < k := Int.tmod_lt_of_pos n hk
  have h3 : -k < Int.tmod n k := by
    have := Int.tmod_lt_of_pos (-n) hk
    rw [Int.neg_tmod] at this
    omega
  have hu := fun q r => (Int.ediv_emod_unique (a := n) (b := k) (r := r) (q := q) hk).2
  split
  · exact (hu (Int.tdiv n k - 1) (Int.tmod n k + k) ⟨by rw [Int.mul_sub]; omega, by omega, by omega⟩).1.symm
  · exact (hu (Int.tdiv n k) (Int.tmod n k) ⟨by omega, by omega, by omega⟩).1.symm

set_option maxHeartbeats 4000000 in
theorem dividedDown_m (n k : Int) (h0 : 0 < k) (h1 : -1000000000000 ≤ n) (h2 : n ≤ 1000000000000) (h3 : k ≤ 100000) : Does Try.prog 83 [.int .i64 n, .int .i64 k] [] fun v c' => v = .int .i64 (n / k) ∧ c' = [] := by
  refine Does.of comp83 ?_
  unfold F83
  simp only [start, List.length_cons, List.length_nil, List.replicate, List.cons_append, List.nil_append, Nat.reduceAdd, Nat.reduceSub]
  (repeat (first|((first|refine ExO.nil ?_|refine Ex.skip ?_|refine Ex.ret ?_|refine Ex.exit ?_); try dsimp only)|((first|(refine xI ?_; intro _ _)|refine xL ?_|(refine xB ?_; intro _ _)|refine xG ?_|refine xS ?_|refine xM ?_|(refine xC ?_; intro _ _)|refine xW ?_); try simp only [sA])|refine Ex.seq ?_|refine Ex.reg ?_|refine Ex.block ?_|refine eT ?_|refine eF ?_|simp only [reduceCtorEq, AEx.ex.injEq, Nat.reduceEqDiff, if_true, if_false]))
  have hk : ¬ k = 0 := by omega
  have hq := Int.natAbs_tdiv_le_natAbs n k
  have he := divided_eq n k h0
  (apply ExO.stI; (case hk => rfl); (case hv => (simp [vA, fRes_eq, hk]; first|done|exact ⟨⟨rfl,rfl⟩,rfl⟩|exact ⟨rfl,rfl⟩|exact rfl)); (intro _ _; simp only [sA]))
  rename_i q hm
  rw [i64_in (by omega) (by omega)] at hm
  (repeat (first|((first|refine ExO.nil ?_|refine Ex.skip ?_|refine Ex.ret ?_|refine Ex.exit ?_); try dsimp only)|((first|(refine xI ?_; intro _ _)|refine xL ?_|(refine xB ?_; intro _ _)|refine xG ?_|refine xS ?_|refine xM ?_|(refine xC ?_; intro _ _)|refine xW ?_); try simp only [sA])|refine Ex.seq ?_|refine Ex.reg ?_|refine Ex.block ?_|refine eT ?_|refine eF ?_|simp only [reduceCtorEq, AEx.ex.injEq, Nat.reduceEqDiff, if_true, if_false]))
  (apply ExO.stI; (case hk => rfl); (case hv => (simp [vA, fRes_eq, hk]; first|done|exact ⟨⟨rfl,rfl⟩,rfl⟩|exact ⟨rfl,rfl⟩|exact rfl)); (intro _ _; simp only [sA]))
  (repeat (first|((first|refine ExO.nil ?_|refine Ex.skip ?_|refine Ex.ret ?_|refine Ex.exit ?_); try dsimp only)|((first|(refine xI ?_; intro _ _)|refine xL ?_|(refine xB ?_; intro _ _)|refine xG ?_|refine xS ?_|refine xM ?_|(refine xC ?_; intro _ _)|refine xW ?_); try simp only [sA])|refine Ex.seq ?_|refine Ex.reg ?_|refine Ex.block ?_|refine eT ?_|refine eF ?_|simp only [reduceCtorEq, AEx.ex.injEq, Nat.reduceEqDiff, if_true, if_false]))
  rename_i r hr c hc
  subst hr
  rw [← hm] at he
  cases c
  · have hc2 : ¬ Int.tmod n k < 0 := by simpa using hc.symm
    rw [if_neg hc2] at he
    (repeat (first|((first|refine ExO.nil ?_|refine Ex.skip ?_|refine Ex.ret ?_|refine Ex.exit ?_); try dsimp only)|((first|(refine xI ?_; intro _ _)|refine xL ?_|(refine xB ?_; intro _ _)|refine xG ?_|refine xS ?_|refine xM ?_|(refine xC ?_; intro _ _)|refine xW ?_); try simp only [sA])|refine Ex.seq ?_|refine Ex.reg ?_|refine Ex.block ?_|refine eT ?_|refine eF ?_|simp only [reduceCtorEq, AEx.ex.injEq, Nat.reduceEqDiff, if_true, if_false]))
    simp [evRes, evRes1, one, AV.names, takeCells]
    exact he
  · have hc2 : Int.tmod n k < 0 := by simpa using hc.symm
    rw [if_pos hc2] at he
    (repeat (first|((first|refine ExO.nil ?_|refine Ex.skip ?_|refine Ex.ret ?_|refine Ex.exit ?_); try dsimp only)|((first|(refine xI ?_; intro _ _)|refine xL ?_|(refine xB ?_; intro _ _)|refine xG ?_|refine xS ?_|refine xM ?_|(refine xC ?_; intro _ _)|refine xW ?_); try simp only [sA])|refine Ex.seq ?_|refine Ex.reg ?_|refine Ex.block ?_|refine eT ?_|refine eF ?_|simp only [reduceCtorEq, AEx.ex.injEq, Nat.reduceEqDiff, if_true, if_false]))
    rename_i m hm
    rw [i64_in (by omega) (by omega)] at hm
    simp [evRes, evRes1, one, AV.names, takeCells]
    omega

set_option maxHeartbeats 4000000 in
theorem divided_m (n m k : Int) (h0 : 0 < k) (h1 : -1000000000000 ≤ n) (h2 : n ≤ 1000000000000) (h3 : k ≤ 100000) (g1 : -1000000000000 ≤ m) (g2 : m ≤ 1000000000000) : Does Try.prog 56 [.int .i64 n, .int .i64 m, .int .i64 k] [] fun v c' => v = .agg [.int .i64 (n / k), .int .i64 (-(-m / k))] ∧ c' = [] := by
  refine Does.of comp56 ?_
  unfold F56
  simp only [start, List.length_cons, List.length_nil, List.replicate, List.cons_append, List.nil_append, Nat.reduceAdd, Nat.reduceSub]
  (repeat (first|((first|refine ExO.nil ?_|refine Ex.skip ?_|refine Ex.ret ?_|refine Ex.exit ?_); try dsimp only)|((first|(refine xI ?_; intro _ _)|refine xL ?_|(refine xB ?_; intro _ _)|refine xG ?_|refine xS ?_|refine xM ?_|(refine xC ?_; intro _ _)|refine xW ?_); try simp only [sA])|refine Ex.seq ?_|refine Ex.reg ?_|refine Ex.block ?_|refine eT ?_|refine eF ?_|simp only [reduceCtorEq, AEx.ex.injEq, Nat.reduceEqDiff, if_true, if_false]))
  (refine ExO.call (f := (83)) (xs := ([.int .i64 n, .int .i64 k])) (ys := ([.int .i64 n, .int .i64 k])) (bs := ([])) (cells := ([])) (by rfl) (by rfl) (by rfl) (by first | rfl | simp [ren, ren1, AV.plain, AV.plain1, AV.clean, cleanL, clean_lds, cleanL_append]) (by rfl) (by first | rfl | simp [ren, ren1, AV.plain, AV.plain1, AV.clean, cleanL, clean_lds, cleanL_append]) ((dividedDown_m n k h0 h1 h2 h3)) ?_; rintro v c' ⟨rfl, rfl⟩; refine ⟨_, rfl, rfl, ?_⟩; simp only [List.map_cons, List.map_nil, putA, List.set_cons_zero, List.set_cons_succ, AV.plain, AV.plain1, setAll, List.length_cons, List.length_nil, List.drop_succ_cons, List.drop_zero, List.drop_nil, List.append_nil, Nat.reduceAdd]; (repeat (first|((first|refine ExO.nil ?_|refine Ex.skip ?_|refine Ex.ret ?_|refine Ex.exit ?_); try dsimp only)|((first|(refine xI ?_; intro _ _)|refine xL ?_|(refine xB ?_; intro _ _)|refine xG ?_|refine xS ?_|refine xM ?_|(refine xC ?_; intro _ _)|refine xW ?_); try simp only [sA])|refine Ex.seq ?_|refine Ex.reg ?_|refine Ex.block ?_|refine eT ?_|refine eF ?_|simp only [reduceCtorEq, AEx.ex.injEq, Nat.reduceEqDiff, if_true, if_false])))
  (repeat (first|((first|refine ExO.nil ?_|refine Ex.skip ?_|refine Ex.ret ?_|refine Ex.exit ?_); try dsimp only)|((first|(refine xI ?_; intro _ _)|refine xL ?_|(refine xB ?_; intro _ _)|refine xG ?_|refine xS ?_|refine xM ?_|(refine xC ?_; intro _ _)|refine xW ?_); try simp only [sA])|refine Ex.seq ?_|refine Ex.reg ?_|refine Ex.block ?_|refine eT ?_|refine eF ?_|simp only [reduceCtorEq, AEx.ex.injEq, Nat.reduceEqDiff, if_true, if_false]))
  rename_i m1 hm
  rw [i64_in (by omega) (by omega)] at hm
  obtain rfl : m1 = -m := by omega
  (refine ExO.call (f := (83)) (xs := ([.int .i64 (-m), .int .i64 k])) (ys := ([.int .i64 (-m), .int .i64 k])) (bs := ([])) (cells := ([])) (by rfl) (by rfl) (by rfl) (by first | rfl | simp [ren, ren1, AV.plain, AV.plain1, AV.clean, cleanL, clean_lds, cleanL_append]) (by rfl) (by first | rfl | simp [ren, ren1, AV.plain, AV.plain1, AV.clean, cleanL, clean_lds, cleanL_append]) ((dividedDown_m (-m) k h0 (by omega) (by omega) h3)) ?_; rintro v c' ⟨rfl, rfl⟩; refine ⟨_, rfl, rfl, ?_⟩; simp only [List.map_cons, List.map_nil, putA, List.set_cons_zero, List.set_cons_succ, AV.plain, AV.plain1, setAll, List.length_cons, List.length_nil, List.drop_succ_cons, List.drop_zero, List.drop_nil, List.append_nil, Nat.reduceAdd]; (repeat (first|((first|refine ExO.nil ?_|refine Ex.skip ?_|refine Ex.ret ?_|refine Ex.exit ?_); try dsimp only)|((first|(refine xI ?_; intro _ _)|refine xL ?_|(refine xB ?_; intro _ _)|refine xG ?_|refine xS ?_|refine xM ?_|(refine xC ?_; intro _ _)|refine xW ?_); try simp only [sA])|refine Ex.seq ?_|refine Ex.reg ?_|refine Ex.block ?_|refine eT ?_|refine eF ?_|simp only [reduceCtorEq, AEx.ex.injEq, Nat.reduceEqDiff, if_true, if_false])))
  have hq := Int.natAbs_tdiv_le_natAbs (-m) k
  have hb : -1000000000001 ≤ -m / k ∧ -m / k ≤ 1000000000001 := by
    rw [← divided_eq (-m) k h0]
    split <;> omega
  (repeat (first|((first|refine ExO.nil ?_|refine Ex.skip ?_|refine Ex.ret ?_|refine Ex.exit ?_); try dsimp only)|((first|(refine xI ?_; intro _ _)|refine xL ?_|(refine xB ?_; intro _ _)|refine xG ?_|refine xS ?_|refine xM ?_|(refine xC ?_; intro _ _)|refine xW ?_); try simp only [sA])|refine Ex.seq ?_|refine Ex.reg ?_|refine Ex.block ?_|refine eT ?_|refine eF ?_|simp only [reduceCtorEq, AEx.ex.injEq, Nat.reduceEqDiff, if_true, if_false]))
  rename_i m2 hm
  rw [i64_in (by omega) (by omega)] at hm
  obtain rfl : m2 = -(-m / k) := by omega
  simp [evRes, evRes1, one, AV.names, takeCells]
end Go.Proofs.Ytoefpcpijolofaa
end
section
namespace Go.Proofs.Ytoefpcpijolofaa
open Go.RowKit
set_option linter.unusedVariables false
set_option linter.unusedSimpArgs false
set_option maxRecDepth 10000
set_option maxHeartbeats 4000000

def T5 : FnPost := fun f xs cells v c' => (f ≠ 35 ∧ T1 f xs cells v c') ∨ (f = 35 ∧ ∃ lo hi m b', xs = [.ptr 0 0, .agg [.int .i64 lo, .int .i64 hi]] ∧ v = .int .i64 m ∧ c' = [[.int .u64 b']] ∧ (lo ≤ m ∨ hi ≤ m) ∧ (m ≤ lo ∨ m ≤ hi))
theorem T5_ok : ClrOk Try.prog (clrOf (orcOf Try.prog T5)) := clr_ok (orcOf_ok _ _)
theorem any_o (b : Int) (l : List Int) (hl : l ≠ []) (hn : l.length < 1000000) : ∃ q b', orcOf Try.prog T5 39 [.ptr 0 0, .sl (l.map fun z => .int .i64 z) none] [[.int .u64 b]] = some (.int .i64 q, [[.int .u64 b']]) ∧ q ∈ l := by
  obtain ⟨v, c', hc, hq⟩ := any_f b l hl hn
  obtain ⟨v', c'', k1, k2⟩ := @orcOf_meets Try.prog T5 39 [.ptr 0 0, .sl (l.map fun z => .int .i64 z) none] [[.int .u64 b]] ⟨_, _, hc, .inl ⟨by decide, hq⟩⟩
  rcases k2 with ⟨_, h2⟩ | ⟨h, _⟩
  · obtain ⟨m, b', rfl, rfl, h3⟩ := h2
    exact ⟨m, b', k1, by simpa using h3⟩
  · exact absurd h (by decide)
theorem mid_o (b lo hi : Int) (h0 : 0 ≤ lo) (h1 : lo ≤ hi) (h3 : hi ≤ 4611686018427387904) : ∃ m b', orcOf Try.prog T5 41 [.ptr 0 0, .int .i64 lo, .int .i64 hi] [[.int .u64 b]] = some (.int .i64 m, [[.int .u64 b']]) ∧ lo ≤ m ∧ m ≤ hi := by
  obtain ⟨v, c', hc, hq⟩ := mid_f b lo hi h0 (by omega) (by omega) h3
  obtain ⟨v', c'', k1, k2⟩ := @orcOf_meets Try.prog T5 41 [.ptr 0 0, .int .i64 lo, .int .i64 hi] [[.int .u64 b]] ⟨_, _, hc, .inl ⟨by decide, hq⟩⟩
  rcases k2 with ⟨_, h2⟩ | ⟨h, _⟩
  · obtain ⟨m, b', rfl, rfl, h4, h5, _⟩ := h2
    exact ⟨m, b', k1, h4, h5 h1⟩
  · exact absurd h (by decide)

set_option maxHeartbeats 4000000 in
theorem midw_f (b lo hi : Int) (h0 : -1000000000000 ≤ lo) (h1 : lo ≤ 1000000000000) (h2 : -1000000000000 ≤ hi) (h3 : hi ≤ 1000000000000) : Meets Try.prog 41 [.ptr 0 0, .int .i64 lo, .int .i64 hi] [[.int .u64 b]] (sMid [.ptr 0 0, .int .i64 lo, .int .i64 hi] [[.int .u64 b]]) := by
  refine Meets.of T1_ok comp41 ?_
  unfold F41
  simp only [start, List.length_cons, List.length_nil, List.replicate, List.cons_append, List.nil_append, Nat.reduceAdd, Nat.reduceSub]
  (repeat (first | (refine EvO.nil ?_; try dsimp only) | (apply EvO.stI; (case hk => rfl); (case hv => (simp [evOp, evf_eq, fRes_eq, aop, evd, finish, binA, cmpI, takeCells, layAt, AV.cells, AV.okCells, AV.scalar, isNilA, eqT, eqSc]; first | done | exact ⟨⟨rfl, rfl⟩, rfl⟩ | exact ⟨rfl, rfl⟩ | exact rfl)); (intro _ _; simp only [putA, List.set_cons_zero, List.set_cons_succ])) | (apply EvO.stB; (case hk => rfl); (case hv => (simp [evOp, evf_eq, fRes_eq, aop, evd, finish, binA, cmpI, takeCells, layAt, AV.cells, AV.okCells, AV.scalar, isNilA, eqT, eqSc]; first | done | exact ⟨⟨rfl, rfl⟩, rfl⟩ | exact ⟨rfl, rfl⟩ | exact rfl)); (intro _ _; (first | (rename_i m hm; have hm2 : m = true := hm; clear hm; subst hm2) | (rename_i m hm; have hm2 : m = false := hm; clear hm; subst hm2) | skip); simp only [putA, List.set_cons_zero, List.set_cons_succ])) | (apply EvO.stG; (case hk => rfl); (case hv => (simp [evOp, evf_eq, fRes_eq, aop, evd, finish, binA, cmpI, takeCells, layAt, AV.cells, AV.okCells, AV.scalar, isNilA, eqT, eqSc]; first | done | exact ⟨⟨rfl, rfl⟩, rfl⟩ | exact ⟨rfl, rfl⟩ | exact rfl)); (try simp only [putA, List.set_cons_zero, List.set_cons_succ])) | refine Ev.seq ?_ | refine Ev.reg ?_ | refine Ev.block ?_ | (refine Ev.skip ?_; try dsimp only) | (refine Ev.ret ?_; try dsimp only) | (refine Ev.exit ?_; try dsimp only) | simp only [reduceCtorEq, AEx.ex.injEq, Nat.reduceEqDiff, if_true, if_false]))
  rename_i m1 hm1 m2 hm2
  rw [i64_in (by omega) (by omega)] at hm1
  rw [i64_in (by omega) (by omega)] at hm2
  refine EvO.callM (f := (40)) (xs := ([.ptr 0 0, .int .i64 m2])) (bs := ([0])) (cells := ([[.int .u64 b]])) (by rfl) (by rfl) (by rfl) (by rfl) (by rfl) (by rfl) ((roll_f b m2 (by omega))) (by rfl) ?_
  rintro v c' ⟨m, b', rfl, rfl, g1, g2, g3⟩
  refine ⟨_, rfl, rfl, ?_⟩
  simp only [putA, List.set_cons_zero, List.set_cons_succ, AV.plain, AV.plain1, setAll, List.length_cons, List.length_nil, List.drop_succ_cons, List.drop_zero, List.drop_nil, List.append_nil, Nat.reduceAdd]
  (repeat (first | (refine EvO.nil ?_; try dsimp only) | (apply EvO.stI; (case hk => rfl); (case hv => (simp [evOp, evf_eq, fRes_eq, aop, evd, finish, binA, cmpI, takeCells, layAt, AV.cells, AV.okCells, AV.scalar, isNilA, eqT, eqSc]; first | done | exact ⟨⟨rfl, rfl⟩, rfl⟩ | exact ⟨rfl, rfl⟩ | exact rfl)); (intro _ _; simp only [putA, List.set_cons_zero, List.set_cons_succ])) | (apply EvO.stB; (case hk => rfl); (case hv => (simp [evOp, evf_eq, fRes_eq, aop, evd, finish, binA, cmpI, takeCells, layAt, AV.cells, AV.okCells, AV.scalar, isNilA, eqT, eqSc]; first | done | exact ⟨⟨rfl, rfl⟩, rfl⟩ | exact ⟨rfl, rfl⟩ | exact rfl)); (intro _ _; (first | (rename_i m hm; have hm2 : m = true := hm; clear hm; subst hm2) | (rename_i m hm; have hm2 : m = false := hm; clear hm; subst hm2) | skip); simp only [putA, List.set_cons_zero, List.set_cons_succ])) | (apply EvO.stG; (case hk => rfl); (case hv => (simp [evOp, evf_eq, fRes_eq, aop, evd, finish, binA, cmpI, takeCells, layAt, AV.cells, AV.okCells, AV.scalar, isNilA, eqT, eqSc]; first | done | exact ⟨⟨rfl, rfl⟩, rfl⟩ | exact ⟨rfl, rfl⟩ | exact rfl)); (try simp only [putA, List.set_cons_zero, List.set_cons_succ])) | refine Ev.seq ?_ | refine Ev.reg ?_ | refine Ev.block ?_ | (refine Ev.skip ?_; try dsimp only) | (refine Ev.ret ?_; try dsimp only) | (refine Ev.exit ?_; try dsimp only) | simp only [reduceCtorEq, AEx.ex.injEq, Nat.reduceEqDiff, if_true, if_false]))
  rename_i m3 hm3
  rw [i64_in (by omega) (by omega)] at hm3
  simp [evRes, evRes1, one, AV.names, takeCells]
  exact ⟨_, _, rfl, rfl, by omega, fun _ => by omega, fun _ => by omega⟩

set_option maxHeartbeats 4000000 in
theorem ofw_f (b lo hi : Int) (h0 : -1000000000000 ≤ lo) (h1 : lo ≤ 1000000000000) (h2 : -1000000000000 ≤ hi) (h3 : hi ≤ 1000000000000) : Meets Try.prog 35 [.ptr 0 0, .agg [.int .i64 lo, .int .i64 hi]] [[.int .u64 b]] fun v c' => ∃ m b', v = .int .i64 m ∧ c' = [[.int .u64 b']] ∧ (lo ≤ m ∨ hi ≤ m) ∧ (m ≤ lo ∨ m ≤ hi) := by
  refine Meets.of T1_ok comp35 ?_
  unfold F35
  simp only [start, List.length_cons, List.length_nil, List.replicate, List.cons_append, List.nil_append, Nat.reduceAdd, Nat.reduceSub]
  (repeat (first | (refine EvO.nil ?_; try dsimp only) | (apply EvO.stI; (case hk => rfl); (case hv => (simp [evOp, evf_eq, fRes_eq, aop, evd, finish, binA, cmpI, takeCells, layAt, AV.cells, AV.okCells, AV.scalar, isNilA, eqT, eqSc]; first | done | exact ⟨⟨rfl, rfl⟩, rfl⟩ | exact ⟨rfl, rfl⟩ | exact rfl)); (intro _ _; simp only [putA, List.set_cons_zero, List.set_cons_succ])) | (apply EvO.stB; (case hk => rfl); (case hv => (simp [evOp, evf_eq, fRes_eq, aop, evd, finish, binA, cmpI, takeCells, layAt, AV.cells, AV.okCells, AV.scalar, isNilA, eqT, eqSc]; first | done | exact ⟨⟨rfl, rfl⟩, rfl⟩ | exact ⟨rfl, rfl⟩ | exact rfl)); (intro _ _; (first | (rename_i m hm; have hm2 : m = true := hm; clear hm; subst hm2) | (rename_i m hm; have hm2 : m = false := hm; clear hm; subst hm2) | skip); simp only [putA, List.set_cons_zero, List.set_cons_succ])) | (apply EvO.stG; (case hk => rfl); (case hv => (simp [evOp, evf_eq, fRes_eq, aop, evd, finish, binA, cmpI, takeCells, layAt, AV.cells, AV.okCells, AV.scalar, isNilA, eqT, eqSc]; first | done | exact ⟨⟨rfl, rfl⟩, rfl⟩ | exact ⟨rfl, rfl⟩ | exact rfl)); (try simp only [putA, List.set_cons_zero, List.set_cons_succ])) | refine Ev.seq ?_ | refine Ev.reg ?_ | refine Ev.block ?_ | (refine Ev.skip ?_; try dsimp only) | (refine Ev.ret ?_; try dsimp only) | (refine Ev.exit ?_; try dsimp only) | simp only [reduceCtorEq, AEx.ex.injEq, Nat.reduceEqDiff, if_true, if_false]))
  refine EvO.callM (f := (40)) (xs := ([.ptr 0 0, .int .i64 4])) (bs := ([0])) (cells := ([[.int .u64 b]])) (by rfl) (by rfl) (by rfl) (by rfl) (by rfl) (by rfl) ((roll_f b 4 (by omega))) (by rfl) ?_
  rintro v c' ⟨r, b1, rfl, rfl, r1, r2, r3⟩
  refine ⟨_, rfl, rfl, ?_⟩
  simp only [putA, List.set_cons_zero, List.set_cons_succ, AV.plain, AV.plain1, setAll, List.length_cons, List.length_nil, List.drop_succ_cons, List.drop_zero, List.drop_nil, List.append_nil, Nat.reduceAdd]
  (repeat (first | (refine EvO.nil ?_; try dsimp only) | (apply EvO.stI; (case hk => rfl); (case hv => (simp [evOp, evf_eq, fRes_eq, aop, evd, finish, binA, cmpI, takeCells, layAt, AV.cells, AV.okCells, AV.scalar, isNilA, eqT, eqSc]; first | done | exact ⟨⟨rfl, rfl⟩, rfl⟩ | exact ⟨rfl, rfl⟩ | exact rfl)); (intro _ _; simp only [putA, List.set_cons_zero, List.set_cons_succ])) | (apply EvO.stB; (case hk => rfl); (case hv => (simp [evOp, evf_eq, fRes_eq, aop, evd, finish, binA, cmpI, takeCells, layAt, AV.cells, AV.okCells, AV.scalar, isNilA, eqT, eqSc]; first | done | exact ⟨⟨rfl, rfl⟩, rfl⟩ | exact ⟨rfl, rfl⟩ | exact rfl)); (intro _ _; (first | (rename_i m hm; have hm2 : m = true := hm; clear hm; subst hm2) | (rename_i m hm; have hm2 : m = false := hm; clear hm; subst hm2) | skip); simp only [putA, List.set_cons_zero, List.set_cons_succ])) | (apply EvO.stG; (case hk => rfl); (case hv => (simp [evOp, evf_eq, fRes_eq, aop, evd, finish, binA, cmpI, takeCells, layAt, AV.cells, AV.okCells, AV.scalar, isNilA, eqT, eqSc]; first | done | exact ⟨⟨rfl, rfl⟩, rfl⟩ | exact ⟨rfl, rfl⟩ | exact rfl)); (try simp only [putA, List.set_cons_zero, List.set_cons_succ])) | refine Ev.seq ?_ | refine Ev.reg ?_ | refine Ev.block ?_ | (refine Ev.skip ?_; try dsimp only) | (refine Ev.ret ?_; try dsimp only) | (refine Ev.exit ?_; try dsimp only) | simp only [reduceCtorEq, AEx.ex.injEq, Nat.reduceEqDiff, if_true, if_false]))
  rename_i c hc
  cases c
  · (refine Ev.cond (b := false) (by first | rfl | simp [evd]) ?_; simp only [Bool.false_eq_true, if_false])
    (repeat (first | (refine EvO.nil ?_; try dsimp only) | (apply EvO.stI; (case hk => rfl); (case hv => (simp [evOp, evf_eq, fRes_eq, aop, evd, finish, binA, cmpI, takeCells, layAt, AV.cells, AV.okCells, AV.scalar, isNilA, eqT, eqSc]; first | done | exact ⟨⟨rfl, rfl⟩, rfl⟩ | exact ⟨rfl, rfl⟩ | exact rfl)); (intro _ _; simp only [putA, List.set_cons_zero, List.set_cons_succ])) | (apply EvO.stB; (case hk => rfl); (case hv => (simp [evOp, evf_eq, fRes_eq, aop, evd, finish, binA, cmpI, takeCells, layAt, AV.cells, AV.okCells, AV.scalar, isNilA, eqT, eqSc]; first | done | exact ⟨⟨rfl, rfl⟩, rfl⟩ | exact ⟨rfl, rfl⟩ | exact rfl)); (intro _ _; (first | (rename_i m hm; have hm2 : m = true := hm; clear hm; subst hm2) | (rename_i m hm; have hm2 : m = false := hm; clear hm; subst hm2) | skip); simp only [putA, List.set_cons_zero, List.set_cons_succ])) | (apply EvO.stG; (case hk => rfl); (case hv => (simp [evOp, evf_eq, fRes_eq, aop, evd, finish, binA, cmpI, takeCells, layAt, AV.cells, AV.okCells, AV.scalar, isNilA, eqT, eqSc]; first | done | exact ⟨⟨rfl, rfl⟩, rfl⟩ | exact ⟨rfl, rfl⟩ | exact rfl)); (try simp only [putA, List.set_cons_zero, List.set_cons_succ])) | refine Ev.seq ?_ | refine Ev.reg ?_ | refine Ev.block ?_ | (refine Ev.skip ?_; try dsimp only) | (refine Ev.ret ?_; try dsimp only) | (refine Ev.exit ?_; try dsimp only) | simp only [reduceCtorEq, AEx.ex.injEq, Nat.reduceEqDiff, if_true, if_false]))
    rename_i c hc
    cases c
    · (refine Ev.cond (b := false) (by first | rfl | simp [evd]) ?_; simp only [Bool.false_eq_true, if_false])
      (repeat (first | (refine EvO.nil ?_; try dsimp only) | (apply EvO.stI; (case hk => rfl); (case hv => (simp [evOp, evf_eq, fRes_eq, aop, evd, finish, binA, cmpI, takeCells, layAt, AV.cells, AV.okCells, AV.scalar, isNilA, eqT, eqSc]; first | done | exact ⟨⟨rfl, rfl⟩, rfl⟩ | exact ⟨rfl, rfl⟩ | exact rfl)); (intro _ _; simp only [putA, List.set_cons_zero, List.set_cons_succ])) | (apply EvO.stB; (case hk => rfl); (case hv => (simp [evOp, evf_eq, fRes_eq, aop, evd, finish, binA, cmpI, takeCells, layAt, AV.cells, AV.okCells, AV.scalar, isNilA, eqT, eqSc]; first | done | exact ⟨⟨rfl, rfl⟩, rfl⟩ | exact ⟨rfl, rfl⟩ | exact rfl)); (intro _ _; (first | (rename_i m hm; have hm2 : m = true := hm; clear hm; subst hm2) | (rename_i m hm; have hm2 : m = false := hm; clear hm; subst hm2) | skip); simp only [putA, List.set_cons_zero, List.set_cons_succ])) | (apply EvO.stG; (case hk => rfl); (case hv => (simp [evOp, evf_eq, fRes_eq, aop, evd, finish, binA, cmpI, takeCells, layAt, AV.cells, AV.okCells, AV.scalar, isNilA, eqT, eqSc]; first | done | exact ⟨⟨rfl, rfl⟩, rfl⟩ | exact ⟨rfl, rfl⟩ | exact rfl)); (try simp only [putA, List.set_cons_zero, List.set_cons_succ])) | refine Ev.seq ?_ | refine Ev.reg ?_ | refine Ev.block ?_ | (refine Ev.skip ?_; try dsimp only) | (refine Ev.ret ?_; try dsimp only) | (refine Ev.exit ?_; try dsimp only) | simp only [reduceCtorEq, AEx.ex.injEq, Nat.reduceEqDiff, if_true, if_false]))
      refine EvO.callM (f := (41)) (xs := ([.ptr 0 0, .int .i64 lo, .int .i64 hi])) (bs := ([0])) (cells := ([[.int .u64 b1]])) (by rfl) (by rfl) (by rfl) (by rfl) (by rfl) (by rfl) ((midw_f b1 lo hi (by omega) (by omega) (by omega) (by omega))) (by rfl) ?_
      rintro v c' ⟨m, b2, rfl, rfl, m1, m2, m3⟩
      refine ⟨_, rfl, rfl, ?_⟩
      simp only [putA, List.set_cons_zero, List.set_cons_succ, AV.plain, AV.plain1, setAll, List.length_cons, List.length_nil, List.drop_succ_cons, List.drop_zero, List.drop_nil, List.append_nil, Nat.reduceAdd]
      (repeat (first | (refine EvO.nil ?_; try dsimp only) | (apply EvO.stI; (case hk => rfl); (case hv => (simp [evOp, evf_eq, fRes_eq, aop, evd, finish, binA, cmpI, takeCells, layAt, AV.cells, AV.okCells, AV.scalar, isNilA, eqT, eqSc]; first | done | exact ⟨⟨rfl, rfl⟩, rfl⟩ | exact ⟨rfl, rfl⟩ | exact rfl)); (intro _ _; simp only [putA, List.set_cons_zero, List.set_cons_succ])) | (apply EvO.stB; (case hk => rfl); (case hv => (simp [evOp, evf_eq, fRes_eq, aop, evd, finish, binA, cmpI, takeCells, layAt, AV.cells, AV.okCells, AV.scalar, isNilA, eqT, eqSc]; first | done | exact ⟨⟨rfl, rfl⟩, rfl⟩ | exact ⟨rfl, rfl⟩ | exact rfl)); (intro _ _; (first | (rename_i m hm; have hm2 : m = true := hm; clear hm; subst hm2) | (rename_i m hm; have hm2 : m = false := hm; clear hm; subst hm2) | skip); simp only [putA, List.set_cons_zero, List.set_cons_succ])) | (apply EvO.stG; (case hk => rfl); (case hv => (simp [evOp, evf_eq, fRes_eq, aop, evd, finish, binA, cmpI, takeCells, layAt, AV.cells, AV.okCells, AV.scalar, isNilA, eqT, eqSc]; first | done | exact ⟨⟨rfl, rfl⟩, rfl⟩ | exact ⟨rfl, rfl⟩ | exact rfl)); (try simp only [putA, List.set_cons_zero, List.set_cons_succ])) | refine Ev.seq ?_ | refine Ev.reg ?_ | refine Ev.block ?_ | (refine Ev.skip ?_; try dsimp only) | (refine Ev.ret ?_; try dsimp only) | (refine Ev.exit ?_; try dsimp only) | simp only [reduceCtorEq, AEx.ex.injEq, Nat.reduceEqDiff, if_true, if_false]))
      simp [evRes, evRes1, one, AV.names, takeCells]
      omega
    · (refine Ev.cond (b := true) (by first | rfl | simp [evd]) ?_; simp only [if_true])
      (repeat (first | (refine EvO.nil ?_; try dsimp only) | (apply EvO.stI; (case hk => rfl); (case hv => (simp [evOp, evf_eq, fRes_eq, aop, evd, finish, binA, cmpI, takeCells, layAt, AV.cells, AV.okCells, AV.scalar, isNilA, eqT, eqSc]; first | done | exact ⟨⟨rfl, rfl⟩, rfl⟩ | exact ⟨rfl, rfl⟩ | exact rfl)); (intro _ _; simp only [putA, List.set_cons_zero, List.set_cons_succ])) | (apply EvO.stB; (case hk => rfl); (case hv => (simp [evOp, evf_eq, fRes_eq, aop, evd, finish, binA, cmpI, takeCells, layAt, AV.cells, AV.okCells, AV.scalar, isNilA, eqT, eqSc]; first | done | exact ⟨⟨rfl, rfl⟩, rfl⟩ | exact ⟨rfl, rfl⟩ | exact rfl)); (intro _ _; (first | (rename_i m hm; have hm2 : m = true := hm; clear hm; subst hm2) | (rename_i m hm; have hm2 : m = false := hm; clear hm; subst hm2) | skip); simp only [putA, List.set_cons_zero, List.set_cons_succ])) | (apply EvO.stG; (case hk => rfl); (case hv => (simp [evOp, evf_eq, fRes_eq, aop, evd, finish, binA, cmpI, takeCells, layAt, AV.cells, AV.okCells, AV.scalar, isNilA, eqT, eqSc]; first | done | exact ⟨⟨rfl, rfl⟩, rfl⟩ | exact ⟨rfl, rfl⟩ | exact rfl)); (try simp only [putA, List.set_cons_zero, List.set_cons_succ])) | refine Ev.seq ?_ | refine Ev.reg ?_ | refine Ev.block ?_ | (refine Ev.skip ?_; try dsimp only) | (refine Ev.ret ?_; try dsimp only) | (refine Ev.exit ?_; try dsimp only) | simp only [reduceCtorEq, AEx.ex.injEq, Nat.reduceEqDiff, if_true, if_false]))
      simp [evRes, evRes1, one, AV.names, takeCells]
  · (refine Ev.cond (b := true) (by first | rfl | simp [evd]) ?_; simp only [if_true])
    (repeat (first | (refine EvO.nil ?_; try dsimp only) | (apply EvO.stI; (case hk => rfl); (case hv => (simp [evOp, evf_eq, fRes_eq, aop, evd, finish, binA, cmpI, takeCells, layAt, AV.cells, AV.okCells, AV.scalar, isNilA, eqT, eqSc]; first | done | exact ⟨⟨rfl, rfl⟩, rfl⟩ | exact ⟨rfl, rfl⟩ | exact rfl)); (intro _ _; simp only [putA, List.set_cons_zero, List.set_cons_succ])) | (apply EvO.stB; (case hk => rfl); (case hv => (simp [evOp, evf_eq, fRes_eq, aop, evd, finish, binA, cmpI, takeCells, layAt, AV.cells, AV.okCells, AV.scalar, isNilA, eqT, eqSc]; first | done | exact ⟨⟨rfl, rfl⟩, rfl⟩ | exact ⟨rfl, rfl⟩ | exact rfl)); (intro _ _; (first | (rename_i m hm; have hm2 : m = true := hm; clear hm; subst hm2) | (rename_i m hm; have hm2 : m = false := hm; clear hm; subst hm2) | skip); simp only [putA, List.set_cons_zero, List.set_cons_succ])) | (apply EvO.stG; (case hk => rfl); (case hv => (simp [evOp, evf_eq, fRes_eq, aop, evd, finish, binA, cmpI, takeCells, layAt, AV.cells, AV.okCells, AV.scalar, isNilA, eqT, eqSc]; first | done | exact ⟨⟨rfl, rfl⟩, rfl⟩ | exact ⟨rfl, rfl⟩ | exact rfl)); (try simp only [putA, List.set_cons_zero, List.set_cons_succ])) | refine Ev.seq ?_ | refine Ev.reg ?_ | refine Ev.block ?_ | (refine Ev.skip ?_; try dsimp only) | (refine Ev.ret ?_; try dsimp only) | (refine Ev.exit ?_; try dsimp only) | simp only [reduceCtorEq, AEx.ex.injEq, Nat.reduceEqDiff, if_true, if_false]))
    simp [evRes, evRes1, one, AV.names, takeCells]

theorem of_o5 (b lo hi : Int) (h0 : -1000000000000 ≤ lo) (h1 : lo ≤ 1000000000000) (h2 : -1000000000000 ≤ hi) (h3 : hi ≤ 1000000000000) : ∃ m b', orcOf Try.prog T5 35 [.ptr 0 0, .agg [.int .i64 lo, .int .i64 hi]] [[.int .u64 b]] = some (.int .i64 m, [[.int .u64 b']]) ∧ (lo ≤ m ∨ hi ≤ m) ∧ (m ≤ lo ∨ m ≤ hi) := by
  obtain ⟨v, c', hc, m, b', rfl, rfl, g1, g2⟩ := ofw_f b lo hi h0 h1 h2 h3
  obtain ⟨v', c'', k1, k2⟩ := @orcOf_meets Try.prog T5 35 [.ptr 0 0, .agg [.int .i64 lo, .int .i64 hi]] [[.int .u64 b]] ⟨_, _, hc, .inr ⟨rfl, lo, hi, m, b', rfl, rfl, rfl, g1, g2⟩⟩
  rcases k2 with ⟨h, _⟩ | ⟨_, lo', hi', m', b'', hx, rfl, rfl, q1, q2⟩
  · exact absurd rfl h
  · simp only [List.cons.injEq, AV.agg.injEq, AV.int.injEq, true_and, and_true] at hx
    obtain ⟨rfl, rfl⟩ := hx
    exact ⟨m', b'', k1, q1, q2⟩
end Go.Proofs.Ytoefpcpijolofaa
end
section
namespace Go.Proofs.Ytoefpcpijolofaa
open Go.RowKit
set_option linter.unusedVariables false
set_option linter.unusedSimpArgs false
set_option maxRecDepth 10000

structure Ld where
  (pt klo khi tlo thi kind watts : Int)
structure Fl where
  (len wid front rear turn kilos mid high : Int)
def Ld.cells (l : Ld) : List AV := [.int .i64 l.pt, .int .i64 l.klo, .int .i64 l.khi, .int .i64 l.tlo, .int .i64 l.thi, .int .i64 l.kind, .int .i64 l.watts]
def Ld.av (l : Ld) : AV := .agg l.cells
def Fl.cells (f : Fl) (L : AV) : List AV := [.int .i64 f.len, .int .i64 f.wid, .int .i64 f.front, .int .i64 f.rear, .int .i64 f.turn, .int .i64 f.kilos, .int .i64 f.mid, .int .i64 f.high, L]
def FOk (f : Fl) : Prop := 2 ≤ f.len ∧ f.len ≤ 1200 ∧ 1 ≤ f.wid ∧ f.wid ≤ 400 ∧ 0 ≤ f.front ∧ f.front < f.rear ∧ f.rear ≤ f.len ∧ 0 ≤ f.turn ∧ f.turn < 1500 ∧ 0 ≤ f.kilos ∧ f.kilos < 5000 ∧ 0 ≤ f.mid ∧ f.mid ≤ f.len ∧ 0 ≤ f.high ∧ f.high < 500
def LOk (f : Fl) (l : Ld) : Prop := f.front ≤ l.pt ∧ l.pt ≤ f.rear ∧ 0 ≤ l.klo ∧ l.klo ≤ l.khi ∧ l.khi ≤ 900 ∧ 0 ≤ l.tlo ∧ l.tlo ≤ l.thi ∧ l.thi ≤ 700 ∧ 1 ≤ l.kind ∧ l.kind ≤ 4 ∧ 0 ≤ l.watts ∧ l.watts < 3000 ∧ (l.watts = 0 ∨ l.kind = 2 ∨ l.kind = 3)
def isLds (L : AV) (ls : List Ld) : Prop := (∃ t, L = .sl (ls.map Ld.av) t) ∨ (L = .nils ∧ ls = [])
theorem Ld.av_len (l : Ld) : (Ld.av l).cells.length = 7 := rfl
theorem clean_lds (ls : List Ld) : cleanL (ls.map Ld.av) = true := by
  rw [cleanL_iff]
  intro x hx
  obtain ⟨l, _, rfl⟩ := List.mem_map.1 hx
  simp [Ld.av, Ld.cells, AV.clean, cleanL]

theorem cleanL_append (a b : List AV) : cleanL (a ++ b) = (cleanL a && cleanL b) := by
  induction a with
  | nil => simp [cleanL]
  | cons x a ih => simp [cleanL, ih, Bool.and_assoc]

theorem any2_m (b x y : Int) : Does Try.prog 39 [.ptr 0 0, .sl [.int .i64 x, .int .i64 y] none] [[.int .u64 b]] fun v c' => ∃ m b', v = .int .i64 m ∧ c' = [[.int .u64 b']] ∧ (m = x ∨ m = y) := by
  refine (any_m b [x, y] (by simp) (by simp)).mono ?_
  rintro v c' ⟨m, b', rfl, rfl, h⟩
  refine ⟨m, b', rfl, rfl, ?_⟩
  simpa using h

def sFloatOf (n : Int) : AV → List (List AV) → Prop := fun v c' => ∃ f L ls b', v = .agg (Fl.cells f L) ∧ c' = [[.int .u64 b']] ∧ isLds L ls ∧ FOk f ∧ (∀ l ∈ ls, LOk f l) ∧ (ls.length : Int) ≤ n

def madeLds (L : AV) (ls : List Ld) (lv : List (Nat × Nat)) : Prop := (L = .nils ∧ ls = [] ∧ lv = []) ∨ (ls ≠ [] ∧ L = .sl (ls.map Ld.av) (some 0) ∧ lv = [(ls.length, 7)])

set_option maxHeartbeats 4000000 in
theorem floatOf_x (b n : Int) (h0 : 0 ≤ n) (h1 : n ≤ 20) : Ex 1 .plain Try.prog F12.code (start F12 [.ptr 0 0, .int .i64 n]) ⟨[[.int .u64 b]], []⟩ fun x a' S' => (x = .norm ∨ x = .ret) ∧ ∃ f L ls lv b' X1 X2, evRes a' S' F12.res = some (.agg (Fl.cells f L)) ∧ S' = ⟨[[.int .u64 b'], X1, X2], lv⟩ ∧ madeLds L ls lv ∧ FOk f ∧ (∀ l ∈ ls, LOk f l) ∧ (ls.length : Int) ≤ n := by
  unfold F12
  simp only [start, List.length_cons, List.length_nil, List.replicate, List.cons_append, List.nil_append, Nat.reduceAdd, Nat.reduceSub]
  (repeat (first|((first|refine ExO.nil ?_|refine Ex.skip ?_|refine Ex.ret ?_|refine Ex.exit ?_); try dsimp only)|((first|(refine xI ?_; intro _ _)|refine xL ?_|(refine xB ?_; intro _ _)|refine xG ?_|refine xS ?_|refine xM ?_|(refine xC ?_; intro _ _)|refine xW ?_); try simp only [sA])|refine Ex.seq ?_|refine Ex.reg ?_|refine Ex.block ?_|refine eT ?_|refine eF ?_|simp only [reduceCtorEq, AEx.ex.injEq, Nat.reduceEqDiff, if_true, if_false]))
  (refine ExO.call (f := (39)) (xs := ([.ptr 0 0, .sl [.int .i64 20, .int .i64 1200] (some 0)])) (bs := [0]) (cells := ([[.int .u64 b]])) (by rfl) (by rfl) (by rfl) (by rfl) (by rfl) (by rfl) ((any2_m b 20 1200)) ?_; rintro v c' ⟨q1, b1, rfl, rfl, g1⟩; refine ⟨_, rfl, rfl, ?_⟩; simp only [List.map_cons, List.map_nil, putA, List.set_cons_zero, List.set_cons_succ, AV.plain, AV.plain1, setAll, List.length_cons, List.length_nil, List.drop_succ_cons, List.drop_zero, List.drop_nil, List.append_nil, Nat.reduceAdd]; (repeat (first|((first|refine ExO.nil ?_|refine Ex.skip ?_|refine Ex.ret ?_|refine Ex.exit ?_); try dsimp only)|((first|(refine xI ?_; intro _ _)|refine xL ?_|(refine xB ?_; intro _ _)|refine xG ?_|refine xS ?_|refine xM ?_|(refine xC ?_; intro _ _)|refine xW ?_); try simp only [sA])|refine Ex.seq ?_|refine Ex.reg ?_|refine Ex.block ?_|refine eT ?_|refine eF ?_|simp only [reduceCtorEq, AEx.ex.injEq, Nat.reduceEqDiff, if_true, if_false])))
  (refine ExO.call (f := (41)) (xs := ([.ptr 0 0, .int .i64 2, .int .i64 q1])) (bs := [0]) (cells := ([[.int .u64 b1]])) (by rfl) (by rfl) (by rfl) (by rfl) (by rfl) (by rfl) ((mid_m b1 2 q1 (by omega) (by omega) (by omega) (by omega))) ?_; rintro v c' ⟨len, b2, rfl, rfl, l1, l2, l3⟩; refine ⟨_, rfl, rfl, ?_⟩; simp only [List.map_cons, List.map_nil, putA, List.set_cons_zero, List.set_cons_succ, AV.plain, AV.plain1, setAll, List.length_cons, List.length_nil, List.drop_succ_cons, List.drop_zero, List.drop_nil, List.append_nil, Nat.reduceAdd]; (repeat (first|((first|refine ExO.nil ?_|refine Ex.skip ?_|refine Ex.ret ?_|refine Ex.exit ?_); try dsimp only)|((first|(refine xI ?_; intro _ _)|refine xL ?_|(refine xB ?_; intro _ _)|refine xG ?_|refine xS ?_|refine xM ?_|(refine xC ?_; intro _ _)|refine xW ?_); try simp only [sA])|refine Ex.seq ?_|refine Ex.reg ?_|refine Ex.block ?_|refine eT ?_|refine eF ?_|simp only [reduceCtorEq, AEx.ex.injEq, Nat.reduceEqDiff, if_true, if_false])))
  (refine ExO.call (f := (41)) (xs := ([.ptr 0 0, .int .i64 1, .int .i64 400])) (bs := [0]) (cells := ([[.int .u64 b2]])) (by rfl) (by rfl) (by rfl) (by rfl) (by rfl) (by rfl) ((mid_m b2 1 400 (by omega) (by omega) (by omega) (by omega))) ?_; rintro v c' ⟨wid, b3, rfl, rfl, w1, w2, w3⟩; refine ⟨_, rfl, rfl, ?_⟩; simp only [List.map_cons, List.map_nil, putA, List.set_cons_zero, List.set_cons_succ, AV.plain, AV.plain1, setAll, List.length_cons, List.length_nil, List.drop_succ_cons, List.drop_zero, List.drop_nil, List.append_nil, Nat.reduceAdd]; (repeat (first|((first|refine ExO.nil ?_|refine Ex.skip ?_|refine Ex.ret ?_|refine Ex.exit ?_); try dsimp only)|((first|(refine xI ?_; intro _ _)|refine xL ?_|(refine xB ?_; intro _ _)|refine xG ?_|refine xS ?_|refine xM ?_|(refine xC ?_; intro _ _)|refine xW ?_); try simp only [sA])|refine Ex.seq ?_|refine Ex.reg ?_|refine Ex.block ?_|refine eT ?_|refine eF ?_|simp only [reduceCtorEq, AEx.ex.injEq, Nat.reduceEqDiff, if_true, if_false])))
  (refine ExO.call (f := (40)) (xs := ([.ptr 0 0, .int .i64 1500])) (bs := [0]) (cells := ([[.int .u64 b3]])) (by rfl) (by rfl) (by rfl) (by rfl) (by rfl) (by rfl) ((roll_m b3 1500 (by omega))) ?_; rintro v c' ⟨r1, b4, rfl, rfl, r11, r12, r13⟩; refine ⟨_, rfl, rfl, ?_⟩; simp only [List.map_cons, List.map_nil, putA, List.set_cons_zero, List.set_cons_succ, AV.plain, AV.plain1, setAll, List.length_cons, List.length_nil, List.drop_succ_cons, List.drop_zero, List.drop_nil, List.append_nil, Nat.reduceAdd]; (repeat (first|((first|refine ExO.nil ?_|refine Ex.skip ?_|refine Ex.ret ?_|refine Ex.exit ?_); try dsimp only)|((first|(refine xI ?_; intro _ _)|refine xL ?_|(refine xB ?_; intro _ _)|refine xG ?_|refine xS ?_|refine xM ?_|(refine xC ?_; intro _ _)|refine xW ?_); try simp only [sA])|refine Ex.seq ?_|refine Ex.reg ?_|refine Ex.block ?_|refine eT ?_|refine eF ?_|simp only [reduceCtorEq, AEx.ex.injEq, Nat.reduceEqDiff, if_true, if_false])))
  (refine ExO.call (f := (39)) (xs := ([.ptr 0 0, .sl [.int .i64 0, .int .i64 r1] (some 1)])) (bs := [0]) (cells := ([[.int .u64 b4]])) (by rfl) (by rfl) (by rfl) (by rfl) (by rfl) (by rfl) ((any2_m b4 0 r1)) ?_; rintro v c' ⟨turn, b5, rfl, rfl, t1⟩; refine ⟨_, rfl, rfl, ?_⟩; simp only [List.map_cons, List.map_nil, putA, List.set_cons_zero, List.set_cons_succ, AV.plain, AV.plain1, setAll, List.length_cons, List.length_nil, List.drop_succ_cons, List.drop_zero, List.drop_nil, List.append_nil, Nat.reduceAdd]; (repeat (first|((first|refine ExO.nil ?_|refine Ex.skip ?_|refine Ex.ret ?_|refine Ex.exit ?_); try dsimp only)|((first|(refine xI ?_; intro _ _)|refine xL ?_|(refine xB ?_; intro _ _)|refine xG ?_|refine xS ?_|refine xM ?_|(refine xC ?_; intro _ _)|refine xW ?_); try simp only [sA])|refine Ex.seq ?_|refine Ex.reg ?_|refine Ex.block ?_|refine eT ?_|refine eF ?_|simp only [reduceCtorEq, AEx.ex.injEq, Nat.reduceEqDiff, if_true, if_false])))
  (refine ExO.call (f := (40)) (xs := ([.ptr 0 0, .int .i64 5000])) (bs := [0]) (cells := ([[.int .u64 b5]])) (by rfl) (by rfl) (by rfl) (by rfl) (by rfl) (by rfl) ((roll_m b5 5000 (by omega))) ?_; rintro v c' ⟨r2, b6, rfl, rfl, r21, r22, r23⟩; refine ⟨_, rfl, rfl, ?_⟩; simp only [List.map_cons, List.map_nil, putA, List.set_cons_zero, List.set_cons_succ, AV.plain, AV.plain1, setAll, List.length_cons, List.length_nil, List.drop_succ_cons, List.drop_zero, List.drop_nil, List.append_nil, Nat.reduceAdd]; (repeat (first|((first|refine ExO.nil ?_|refine Ex.skip ?_|refine Ex.ret ?_|refine Ex.exit ?_); try dsimp only)|((first|(refine xI ?_; intro _ _)|refine xL ?_|(refine xB ?_; intro _ _)|refine xG ?_|refine xS ?_|refine xM ?_|(refine xC ?_; intro _ _)|refine xW ?_); try simp only [sA])|refine Ex.seq ?_|refine Ex.reg ?_|refine Ex.block ?_|refine eT ?_|refine eF ?_|simp only [reduceCtorEq, AEx.ex.injEq, Nat.reduceEqDiff, if_true, if_false])))
  (refine ExO.call (f := (39)) (xs := ([.ptr 0 0, .sl [.int .i64 0, .int .i64 r2] (some 2)])) (bs := [0]) (cells := ([[.int .u64 b6]])) (by rfl) (by rfl) (by rfl) (by rfl) (by rfl) (by rfl) ((any2_m b6 0 r2)) ?_; rintro v c' ⟨kilos, b7, rfl, rfl, k1⟩; refine ⟨_, rfl, rfl, ?_⟩; simp only [List.map_cons, List.map_nil, putA, List.set_cons_zero, List.set_cons_succ, AV.plain, AV.plain1, setAll, List.length_cons, List.length_nil, List.drop_succ_cons, List.drop_zero, List.drop_nil, List.append_nil, Nat.reduceAdd]; (repeat (first|((first|refine ExO.nil ?_|refine Ex.skip ?_|refine Ex.ret ?_|refine Ex.exit ?_); try dsimp only)|((first|(refine xI ?_; intro _ _)|refine xL ?_|(refine xB ?_; intro _ _)|refine xG ?_|refine xS ?_|refine xM ?_|(refine xC ?_; intro _ _)|refine xW ?_); try simp only [sA])|refine Ex.seq ?_|refine Ex.reg ?_|refine Ex.block ?_|refine eT ?_|refine eF ?_|simp only [reduceCtorEq, AEx.ex.injEq, Nat.reduceEqDiff, if_true, if_false])))
  (refine ExO.call (f := (40)) (xs := ([.ptr 0 0, .int .i64 500])) (bs := [0]) (cells := ([[.int .u64 b7]])) (by rfl) (by rfl) (by rfl) (by rfl) (by rfl) (by rfl) ((roll_m b7 500 (by omega))) ?_; rintro v c' ⟨high, b8, rfl, rfl, h11, h12, h13⟩; refine ⟨_, rfl, rfl, ?_⟩; simp only [List.map_cons, List.map_nil, putA, List.set_cons_zero, List.set_cons_succ, AV.plain, AV.plain1, setAll, List.length_cons, List.length_nil, List.drop_succ_cons, List.drop_zero, List.drop_nil, List.append_nil, Nat.reduceAdd]; (repeat (first|((first|refine ExO.nil ?_|refine Ex.skip ?_|refine Ex.ret ?_|refine Ex.exit ?_); try dsimp only)|((first|(refine xI ?_; intro _ _)|refine xL ?_|(refine xB ?_; intro _ _)|refine xG ?_|refine xS ?_|refine xM ?_|(refine xC ?_; intro _ _)|refine xW ?_); try simp only [sA])|refine Ex.seq ?_|refine Ex.reg ?_|refine Ex.block ?_|refine eT ?_|refine eF ?_|simp only [reduceCtorEq, AEx.ex.injEq, Nat.reduceEqDiff, if_true, if_false])))
  (refine ExO.call (f := (40)) (xs := ([.ptr 0 0, .int .i64 len])) (bs := [0]) (cells := ([[.int .u64 b8]])) (by rfl) (by rfl) (by rfl) (by rfl) (by rfl) (by rfl) ((roll_m b8 len (by omega))) ?_; rintro v c' ⟨front, b9, rfl, rfl, f1, f2, f3⟩; refine ⟨_, rfl, rfl, ?_⟩; simp only [List.map_cons, List.map_nil, putA, List.set_cons_zero, List.set_cons_succ, AV.plain, AV.plain1, setAll, List.length_cons, List.length_nil, List.drop_succ_cons, List.drop_zero, List.drop_nil, List.append_nil, Nat.reduceAdd]; (repeat (first|((first|refine ExO.nil ?_|refine Ex.skip ?_|refine Ex.ret ?_|refine Ex.exit ?_); try dsimp only)|((first|(refine xI ?_; intro _ _)|refine xL ?_|(refine xB ?_; intro _ _)|refine xG ?_|refine xS ?_|refine xM ?_|(refine xC ?_; intro _ _)|refine xW ?_); try simp only [sA])|refine Ex.seq ?_|refine Ex.reg ?_|refine Ex.block ?_|refine eT ?_|refine eF ?_|simp only [reduceCtorEq, AEx.ex.injEq, Nat.reduceEqDiff, if_true, if_false])))
  rename_i m1 hm1
  rw [i64_in (by omega) (by omega)] at hm1
  (refine ExO.call (f := (41)) (xs := ([.ptr 0 0, .int .i64 m1, .int .i64 len])) (bs := [0]) (cells := ([[.int .u64 b9]])) (by rfl) (by rfl) (by rfl) (by rfl) (by rfl) (by rfl) ((mid_m b9 m1 len (by omega) (by omega) (by omega) (by omega))) ?_; rintro v c' ⟨rear, b10, rfl, rfl, e1, e2, e3⟩; refine ⟨_, rfl, rfl, ?_⟩; simp only [List.map_cons, List.map_nil, putA, List.set_cons_zero, List.set_cons_succ, AV.plain, AV.plain1, setAll, List.length_cons, List.length_nil, List.drop_succ_cons, List.drop_zero, List.drop_nil, List.append_nil, Nat.reduceAdd]; (repeat (first|((first|refine ExO.nil ?_|refine Ex.skip ?_|refine Ex.ret ?_|refine Ex.exit ?_); try dsimp only)|((first|(refine xI ?_; intro _ _)|refine xL ?_|(refine xB ?_; intro _ _)|refine xG ?_|refine xS ?_|refine xM ?_|(refine xC ?_; intro _ _)|refine xW ?_); try simp only [sA])|refine Ex.seq ?_|refine Ex.reg ?_|refine Ex.block ?_|refine eT ?_|refine eF ?_|simp only [reduceCtorEq, AEx.ex.injEq, Nat.reduceEqDiff, if_true, if_false])))
  (refine ExO.call (f := (41)) (xs := ([.ptr 0 0, .int .i64 0, .int .i64 len])) (bs := [0]) (cells := ([[.int .u64 b10]])) (by rfl) (by rfl) (by rfl) (by rfl) (by rfl) (by rfl) ((mid_m b10 0 len (by omega) (by omega) (by omega) (by omega))) ?_; rintro v c' ⟨md, b11, rfl, rfl, d1, d2, d3⟩; refine ⟨_, rfl, rfl, ?_⟩; simp only [List.map_cons, List.map_nil, putA, List.set_cons_zero, List.set_cons_succ, AV.plain, AV.plain1, setAll, List.length_cons, List.length_nil, List.drop_succ_cons, List.drop_zero, List.drop_nil, List.append_nil, Nat.reduceAdd]; (repeat (first|((first|refine ExO.nil ?_|refine Ex.skip ?_|refine Ex.ret ?_|refine Ex.exit ?_); try dsimp only)|((first|(refine xI ?_; intro _ _)|refine xL ?_|(refine xB ?_; intro _ _)|refine xG ?_|refine xS ?_|refine xM ?_|(refine xC ?_; intro _ _)|refine xW ?_); try simp only [sA])|refine Ex.seq ?_|refine Ex.reg ?_|refine Ex.block ?_|refine eT ?_|refine eF ?_|simp only [reduceCtorEq, AEx.ex.injEq, Nat.reduceEqDiff, if_true, if_false])))
  rename_i m2 hm2
  rw [i64_in (by omega) (by omega)] at hm2
  (refine ExO.call (f := (40)) (xs := ([.ptr 0 0, .int .i64 m2])) (bs := [0]) (cells := ([[.int .u64 b11]])) (by rfl) (by rfl) (by rfl) (by rfl) (by rfl) (by rfl) ((roll_m b11 m2 (by omega))) ?_; rintro v c' ⟨cnt, b12, rfl, rfl, c1, c2, c3⟩; refine ⟨_, rfl, rfl, ?_⟩; simp only [List.map_cons, List.map_nil, putA, List.set_cons_zero, List.set_cons_succ, AV.plain, AV.plain1, setAll, List.length_cons, List.length_nil, List.drop_succ_cons, List.drop_zero, List.drop_nil, List.append_nil, Nat.reduceAdd]; (repeat (first|((first|refine ExO.nil ?_|refine Ex.skip ?_|refine Ex.ret ?_|refine Ex.exit ?_); try dsimp only)|((first|(refine xI ?_; intro _ _)|refine xL ?_|(refine xB ?_; intro _ _)|refine xG ?_|refine xS ?_|refine xM ?_|(refine xC ?_; intro _ _)|refine xW ?_); try simp only [sA])|refine Ex.seq ?_|refine Ex.reg ?_|refine Ex.block ?_|refine eT ?_|refine eF ?_|simp only [reduceCtorEq, AEx.ex.injEq, Nat.reduceEqDiff, if_true, if_false])))
  have hF : FOk ⟨len, wid, front, rear, turn, kilos, md, high⟩ := by
    unfold FOk
    refine ⟨?_, ?_, ?_, ?_, ?_, ?_, ?_, ?_, ?_, ?_, ?_, ?_, ?_, ?_, ?_⟩ <;> simp only [] <;> omega
  have o1 : 0 ≤ front := by omega
  have o2 : front < rear := by omega
  have o3 : rear ≤ len := by omega
  have o4 : len ≤ 1200 := by omega
  clear hm1 g1 l1 l3 w1 w2 w3 r11 r12 r13 t1 r21 r22 r23 k1 h11 h12 h13 f1 f2 f3 e1 e2 e3 d1 d2 d3
  refine Ex.loopF (fun k a S => ∃ m bb L ls lv, k = m.toNat ∧ 0 ≤ m ∧ (ls.length : Int) + m ≤ n ∧ (∀ l ∈ ls, LOk ⟨len, wid, front, rear, turn, kilos, md, high⟩ l) ∧ madeLds L ls lv ∧ a = [.ptr 0 0, .junk, .junk, .junk, .ptr 1 0, .ptr 2 0, .int .i64 m, .junk, .junk, .junk, .junk, .junk, .junk, .junk, .junk, .junk, .junk, .junk, .junk, .junk, .junk, .junk, .junk, .junk, .junk, .junk, .junk, .junk, .junk, .junk, .junk, .junk, .junk, .junk, .junk, .junk, .junk, .junk, .junk, .junk, .junk, .junk, .junk, .junk, .junk, .junk, .junk, .junk, .junk, .junk, .junk, .junk, .junk, .junk, .junk, .junk, .junk, .junk, .junk, .junk, .junk, .junk, .junk, .junk, .junk, .junk, .junk, .junk, .junk, .junk, .junk, .junk, .junk, .junk, .junk, .junk, .junk, .junk, .junk, .junk, .junk, .junk, .junk, .junk, .junk, .junk, .junk, .junk, .junk, .junk, .junk] ∧ S = ⟨[[.int .u64 bb], [.int .i64 0, .int .i64 0, .int .i64 0, .int .i64 0, .int .i64 0, .int .i64 0, .int .i64 0, .int .i64 0, .nils], [.int .i64 len, .int .i64 wid, .int .i64 front, .int .i64 rear, .int .i64 turn, .int .i64 kilos, .int .i64 md, .int .i64 high, L]], lv⟩) cnt.toNat ?_ ?_
  · refine ⟨_, _, forgets 3 [] ([true, false, false, false, true, true, true, false, false, false, false, false, false, false, false, false, false, false, false, false, false, false, false, false, false, false, false, false, false, false, false, false, false, false, false, false, false, false, false, false, false, false, false, false, false, false, false, false, false, false, false, false, false, false, false, false, false, false, false, false, false, false, false, false, false, false, false, false, false, false, false, false, false, false, false, false, false, false, false, false, false, false, false, false, false, false, false, false, false, false, false]) (by decide) (by simp) (by rfl) (by rfl) (by decide), cnt, b12, .nils, [], [], rfl, by omega, by simp; omega, by simp, .inl ⟨rfl, rfl, rfl⟩, by rfl, by rfl⟩
  · rintro k a S ⟨m, bb, L, ls, lv, rfl, hm0, hcnt, hall, hL, rfl, rfl⟩
    (repeat (first|((first|refine ExO.nil ?_|refine Ex.skip ?_|refine Ex.ret ?_|refine Ex.exit ?_); try dsimp only)|((first|(refine xI ?_; intro _ _)|refine xL ?_|(refine xB ?_; intro _ _)|refine xG ?_|refine xS ?_|refine xM ?_|(refine xC ?_; intro _ _)|refine xW ?_); try simp only [sA])|refine Ex.seq ?_|refine Ex.reg ?_|refine Ex.block ?_|refine eT ?_|refine eF ?_|simp only [reduceCtorEq, AEx.ex.injEq, Nat.reduceEqDiff, if_true, if_false]))
    rename_i c hc
    cases c
    · rcases hL with ⟨rfl, rfl, rfl⟩ | ⟨hne, rfl, rfl⟩
      · (refine Ex.cond (b := false) (by first | rfl | simp [evd]) ?_; simp only [Bool.false_eq_true, if_false])
        (repeat (first|((first|refine ExO.nil ?_|refine Ex.skip ?_|refine Ex.ret ?_|refine Ex.exit ?_); try dsimp only)|((first|(refine xI ?_; intro _ _)|refine xL ?_|(refine xB ?_; intro _ _)|refine xG ?_|refine xS ?_|refine xM ?_|(refine xC ?_; intro _ _)|refine xW ?_); try simp only [sA])|refine Ex.seq ?_|refine Ex.reg ?_|refine Ex.block ?_|refine eT ?_|refine eF ?_|simp only [reduceCtorEq, AEx.ex.injEq, Nat.reduceEqDiff, if_true, if_false]))
        exact ⟨by simp, ⟨len, wid, front, rear, turn, kilos, md, high⟩, .nils, [], [], bb, _, _, by simp [evRes, evRes1, one, takeCells, Fl.cells], rfl, .inl ⟨rfl, rfl, rfl⟩, hF, hall, by omega⟩
      · (refine Ex.cond (b := false) (by first | rfl | simp [evd]) ?_; simp only [Bool.false_eq_true, if_false])
        (repeat (first|((first|refine ExO.nil ?_|refine Ex.skip ?_|refine Ex.ret ?_|refine Ex.exit ?_); try dsimp only)|((first|(refine xI ?_; intro _ _)|refine xL ?_|(refine xB ?_; intro _ _)|refine xG ?_|refine xS ?_|refine xM ?_|(refine xC ?_; intro _ _)|refine xW ?_); try simp only [sA])|refine Ex.seq ?_|refine Ex.reg ?_|refine Ex.block ?_|refine eT ?_|refine eF ?_|simp only [reduceCtorEq, AEx.ex.injEq, Nat.reduceEqDiff, if_true, if_false]))
        exact ⟨by simp, ⟨len, wid, front, rear, turn, kilos, md, high⟩, .sl (ls.map Ld.av) (some 0), ls, _, bb, _, _, by simp [evRes, evRes1, one, takeCells, Fl.cells], rfl, .inr ⟨hne, rfl, rfl⟩, hF, hall, by omega⟩
    · (refine Ex.cond (b := true) (by first | rfl | simp [evd]) ?_; simp only [if_true])
      have hmp : 0 < m := by have := hc.symm; simpa using this
      rcases hL with ⟨rfl, rfl, rfl⟩ | ⟨hne, rfl, rfl⟩
      · (repeat (first|((first|refine ExO.nil ?_|refine Ex.skip ?_|refine Ex.ret ?_|refine Ex.exit ?_); try dsimp only)|((first|(refine xI ?_; intro _ _)|refine xL ?_|(refine xB ?_; intro _ _)|refine xG ?_|refine xS ?_|refine xM ?_|(refine xC ?_; intro _ _)|refine xW ?_); try simp only [sA])|refine Ex.seq ?_|refine Ex.reg ?_|refine Ex.block ?_|refine eT ?_|refine eF ?_|simp only [reduceCtorEq, AEx.ex.injEq, Nat.reduceEqDiff, if_true, if_false]))
        (refine ExO.call (f := (41)) (xs := ([.ptr 0 0, .int .i64 front, .int .i64 rear])) (bs := [0]) (cells := ([[.int .u64 bb]])) (by rfl) (by rfl) (by rfl) (by rfl) (by rfl) (by rfl) ((mid_m bb front rear (by omega) (by omega) (by omega) (by omega))) ?_; rintro v c' ⟨pt, x1, rfl, rfl, p1, p2, p3⟩; refine ⟨_, rfl, rfl, ?_⟩; simp only [List.map_cons, List.map_nil, putA, List.set_cons_zero, List.set_cons_succ, AV.plain, AV.plain1, setAll, List.length_cons, List.length_nil, List.drop_succ_cons, List.drop_zero, List.drop_nil, List.append_nil, Nat.reduceAdd]; (repeat (first|((first|refine ExO.nil ?_|refine Ex.skip ?_|refine Ex.ret ?_|refine Ex.exit ?_); try dsimp only)|((first|(refine xI ?_; intro _ _)|refine xL ?_|(refine xB ?_; intro _ _)|refine xG ?_|refine xS ?_|refine xM ?_|(refine xC ?_; intro _ _)|refine xW ?_); try simp only [sA])|refine Ex.seq ?_|refine Ex.reg ?_|refine Ex.block ?_|refine eT ?_|refine eF ?_|simp only [reduceCtorEq, AEx.ex.injEq, Nat.reduceEqDiff, if_true, if_false])))
        (refine ExO.call (f := (39)) (xs := ([.ptr 0 0, .sl [.int .i64 5, .int .i64 900] (some 0)])) (bs := [0]) (cells := ([[.int .u64 x1]])) (by rfl) (by rfl) (by rfl) (by rfl) (by rfl) (by rfl) ((any2_m x1 5 900)) ?_; rintro v c' ⟨q2, x2, rfl, rfl, g2⟩; refine ⟨_, rfl, rfl, ?_⟩; simp only [List.map_cons, List.map_nil, putA, List.set_cons_zero, List.set_cons_succ, AV.plain, AV.plain1, setAll, List.length_cons, List.length_nil, List.drop_succ_cons, List.drop_zero, List.drop_nil, List.append_nil, Nat.reduceAdd]; (repeat (first|((first|refine ExO.nil ?_|refine Ex.skip ?_|refine Ex.ret ?_|refine Ex.exit ?_); try dsimp only)|((first|(refine xI ?_; intro _ _)|refine xL ?_|(refine xB ?_; intro _ _)|refine xG ?_|refine xS ?_|refine xM ?_|(refine xC ?_; intro _ _)|refine xW ?_); try simp only [sA])|refine Ex.seq ?_|refine Ex.reg ?_|refine Ex.block ?_|refine eT ?_|refine eF ?_|simp only [reduceCtorEq, AEx.ex.injEq, Nat.reduceEqDiff, if_true, if_false])))
        (refine ExO.call (f := (49)) (xs := ([.ptr 0 0, .int .i64 0, .int .i64 q2])) (bs := [0]) (cells := ([[.int .u64 x2]])) (by rfl) (by rfl) (by rfl) (by rfl) (by rfl) (by rfl) ((span_m x2 0 q2 (by omega) (by omega) (by omega))) ?_; rintro v c' ⟨klo, khi, x3, rfl, rfl, s1, s2, s3⟩; refine ⟨_, rfl, rfl, ?_⟩; simp only [List.map_cons, List.map_nil, putA, List.set_cons_zero, List.set_cons_succ, AV.plain, AV.plain1, setAll, List.length_cons, List.length_nil, List.drop_succ_cons, List.drop_zero, List.drop_nil, List.append_nil, Nat.reduceAdd]; (repeat (first|((first|refine ExO.nil ?_|refine Ex.skip ?_|refine Ex.ret ?_|refine Ex.exit ?_); try dsimp only)|((first|(refine xI ?_; intro _ _)|refine xL ?_|(refine xB ?_; intro _ _)|refine xG ?_|refine xS ?_|refine xM ?_|(refine xC ?_; intro _ _)|refine xW ?_); try simp only [sA])|refine Ex.seq ?_|refine Ex.reg ?_|refine Ex.block ?_|refine eT ?_|refine eF ?_|simp only [reduceCtorEq, AEx.ex.injEq, Nat.reduceEqDiff, if_true, if_false])))
        (refine ExO.call (f := (39)) (xs := ([.ptr 0 0, .sl [.int .i64 20, .int .i64 700] (some 1)])) (bs := [0]) (cells := ([[.int .u64 x3]])) (by rfl) (by rfl) (by rfl) (by rfl) (by rfl) (by rfl) ((any2_m x3 20 700)) ?_; rintro v c' ⟨q3, x4, rfl, rfl, g3⟩; refine ⟨_, rfl, rfl, ?_⟩; simp only [List.map_cons, List.map_nil, putA, List.set_cons_zero, List.set_cons_succ, AV.plain, AV.plain1, setAll, List.length_cons, List.length_nil, List.drop_succ_cons, List.drop_zero, List.drop_nil, List.append_nil, Nat.reduceAdd]; (repeat (first|((first|refine ExO.nil ?_|refine Ex.skip ?_|refine Ex.ret ?_|refine Ex.exit ?_); try dsimp only)|((first|(refine xI ?_; intro _ _)|refine xL ?_|(refine xB ?_; intro _ _)|refine xG ?_|refine xS ?_|refine xM ?_|(refine xC ?_; intro _ _)|refine xW ?_); try simp only [sA])|refine Ex.seq ?_|refine Ex.reg ?_|refine Ex.block ?_|refine eT ?_|refine eF ?_|simp only [reduceCtorEq, AEx.ex.injEq, Nat.reduceEqDiff, if_true, if_false])))
        (refine ExO.call (f := (49)) (xs := ([.ptr 0 0, .int .i64 0, .int .i64 q3])) (bs := [0]) (cells := ([[.int .u64 x4]])) (by rfl) (by rfl) (by rfl) (by rfl) (by rfl) (by rfl) ((span_m x4 0 q3 (by omega) (by omega) (by omega))) ?_; rintro v c' ⟨tlo, thi, x5, rfl, rfl, s4, s5, s6⟩; refine ⟨_, rfl, rfl, ?_⟩; simp only [List.map_cons, List.map_nil, putA, List.set_cons_zero, List.set_cons_succ, AV.plain, AV.plain1, setAll, List.length_cons, List.length_nil, List.drop_succ_cons, List.drop_zero, List.drop_nil, List.append_nil, Nat.reduceAdd]; (repeat (first|((first|refine ExO.nil ?_|refine Ex.skip ?_|refine Ex.ret ?_|refine Ex.exit ?_); try dsimp only)|((first|(refine xI ?_; intro _ _)|refine xL ?_|(refine xB ?_; intro _ _)|refine xG ?_|refine xS ?_|refine xM ?_|(refine xC ?_; intro _ _)|refine xW ?_); try simp only [sA])|refine Ex.seq ?_|refine Ex.reg ?_|refine Ex.block ?_|refine eT ?_|refine eF ?_|simp only [reduceCtorEq, AEx.ex.injEq, Nat.reduceEqDiff, if_true, if_false])))
        (refine ExO.call (f := (41)) (xs := ([.ptr 0 0, .int .i64 1, .int .i64 4])) (bs := [0]) (cells := ([[.int .u64 x5]])) (by rfl) (by rfl) (by rfl) (by rfl) (by rfl) (by rfl) ((mid_m x5 1 4 (by omega) (by omega) (by omega) (by omega))) ?_; rintro v c' ⟨kind, x6, rfl, rfl, y1, y2, y3⟩; refine ⟨_, rfl, rfl, ?_⟩; simp only [List.map_cons, List.map_nil, putA, List.set_cons_zero, List.set_cons_succ, AV.plain, AV.plain1, setAll, List.length_cons, List.length_nil, List.drop_succ_cons, List.drop_zero, List.drop_nil, List.append_nil, Nat.reduceAdd]; (repeat (first|((first|refine ExO.nil ?_|refine Ex.skip ?_|refine Ex.ret ?_|refine Ex.exit ?_); try dsimp only)|((first|(refine xI ?_; intro _ _)|refine xL ?_|(refine xB ?_; intro _ _)|refine xG ?_|refine xS ?_|refine xM ?_|(refine xC ?_; intro _ _)|refine xW ?_); try simp only [sA])|refine Ex.seq ?_|refine Ex.reg ?_|refine Ex.block ?_|refine eT ?_|refine eF ?_|simp only [reduceCtorEq, AEx.ex.injEq, Nat.reduceEqDiff, if_true, if_false])))
        have y4 : kind ≤ 4 := y2 (by decide)
        rename_i c1 hc1
        cases c1
        · (repeat (first|((first|refine ExO.nil ?_|refine Ex.skip ?_|refine Ex.ret ?_|refine Ex.exit ?_); try dsimp only)|((first|(refine xI ?_; intro _ _)|refine xL ?_|(refine xB ?_; intro _ _)|refine xG ?_|refine xS ?_|refine xM ?_|(refine xC ?_; intro _ _)|refine xW ?_); try simp only [sA])|refine Ex.seq ?_|refine Ex.reg ?_|refine Ex.block ?_|refine eT ?_|refine eF ?_|simp only [reduceCtorEq, AEx.ex.injEq, Nat.reduceEqDiff, if_true, if_false]))
          rename_i c2 hc2
          cases c2
          · (refine Ex.cond (b := false) (by first | rfl | simp [evd]) ?_; simp only [Bool.false_eq_true, if_false])
            (repeat (first|((first|refine ExO.nil ?_|refine Ex.skip ?_|refine Ex.ret ?_|refine Ex.exit ?_); try dsimp only)|((first|(refine xI ?_; intro _ _)|refine xL ?_|(refine xB ?_; intro _ _)|refine xG ?_|refine xS ?_|refine xM ?_|(refine xC ?_; intro _ _)|refine xW ?_); try simp only [sA])|refine Ex.seq ?_|refine Ex.reg ?_|refine Ex.block ?_|refine eT ?_|refine eF ?_|simp only [reduceCtorEq, AEx.ex.injEq, Nat.reduceEqDiff, if_true, if_false]))
            rename_i m3 hm3
            rw [i64_in (by omega) (by omega)] at hm3
            refine ⟨_, _, forgets 3 [3] ([true, false, false, false, true, true, true, false, false, false, false, false, false, false, false, false, false, false, false, false, false, false, false, false, false, false, false, false, false, false, false, false, false, false, false, false, false, false, false, false, false, false, false, false, false, false, false, false, false, false, false, false, false, false, false, false, false, false, false, false, false, false, false, false, false, false, false, false, false, false, false, false, false, false, false, false, false, false, false, false, false, false, false, false, false, false, false, false, false, false, false]) (by decide) (by simp) (bx2 := [[.int .u64 x6], [.int .i64 0, .int .i64 0, .int .i64 0, .int .i64 0, .int .i64 0, .int .i64 0, .int .i64 0, .int .i64 0, .nils], [.int .i64 len, .int .i64 wid, .int .i64 front, .int .i64 rear, .int .i64 turn, .int .i64 kilos, .int .i64 md, .int .i64 high, .sl ([.agg [.int .i64 pt, .int .i64 klo, .int .i64 khi, .int .i64 tlo, .int .i64 thi, .int .i64 kind, .int .i64 0]]) (some 0)]]) (by simp [re, re1, AV.clean, cleanL, clean_lds, cleanL_append, List.idxOf?, List.findIdx?, List.findIdx?.go]) (lv2 := [(1, 7)]) (by simp) (by decide), m3.toNat, by omega, m3, x6, _, [⟨pt, klo, khi, tlo, thi, kind, 0⟩], _, rfl, by omega, by simp at hcnt ⊢; omega, ?_, .inr ⟨by simp, rfl, rfl⟩, ?_, ?_⟩
            · intro l hl
              simp only [List.mem_singleton] at hl
              subst hl
              exact ⟨p1, p2 (by omega), s1, s2, (by show khi ≤ 900; omega), s4, s5, (by show thi ≤ 700; omega), y1, y4, Int.le_refl 0, (by show (0 : Int) < 3000; omega), .inl rfl⟩
            · simp [keepS, re, re1, AV.clean]
            · simp [Ld.av, Ld.cells]
          · have hk3 : kind = 3 := by simpa using hc2.symm
            (refine Ex.cond (b := true) (by first | rfl | simp [evd]) ?_; simp only [if_true])
            (repeat (first|((first|refine ExO.nil ?_|refine Ex.skip ?_|refine Ex.ret ?_|refine Ex.exit ?_); try dsimp only)|((first|(refine xI ?_; intro _ _)|refine xL ?_|(refine xB ?_; intro _ _)|refine xG ?_|refine xS ?_|refine xM ?_|(refine xC ?_; intro _ _)|refine xW ?_); try simp only [sA])|refine Ex.seq ?_|refine Ex.reg ?_|refine Ex.block ?_|refine eT ?_|refine eF ?_|simp only [reduceCtorEq, AEx.ex.injEq, Nat.reduceEqDiff, if_true, if_false]))
            (refine ExO.call (f := (40)) (xs := ([.ptr 0 0, .int .i64 3000])) (bs := [0]) (cells := ([[.int .u64 x6]])) (by rfl) (by rfl) (by rfl) (by rfl) (by rfl) (by rfl) ((roll_m x6 3000 (by omega))) ?_; rintro v c' ⟨watts, x7, rfl, rfl, z1, z2, z3⟩; refine ⟨_, rfl, rfl, ?_⟩; simp only [List.map_cons, List.map_nil, putA, List.set_cons_zero, List.set_cons_succ, AV.plain, AV.plain1, setAll, List.length_cons, List.length_nil, List.drop_succ_cons, List.drop_zero, List.drop_nil, List.append_nil, Nat.reduceAdd]; (repeat (first|((first|refine ExO.nil ?_|refine Ex.skip ?_|refine Ex.ret ?_|refine Ex.exit ?_); try dsimp only)|((first|(refine xI ?_; intro _ _)|refine xL ?_|(refine xB ?_; intro _ _)|refine xG ?_|refine xS ?_|refine xM ?_|(refine xC ?_; intro _ _)|refine xW ?_); try simp only [sA])|refine Ex.seq ?_|refine Ex.reg ?_|refine Ex.block ?_|refine eT ?_|refine eF ?_|simp only [reduceCtorEq, AEx.ex.injEq, Nat.reduceEqDiff, if_true, if_false])))
            rename_i m3 hm3
            rw [i64_in (by omega) (by omega)] at hm3
            refine ⟨_, _, forgets 3 [3] ([true, false, false, false, true, true, true, false, false, false, false, false, false, false, false, false, false, false, false, false, false, false, false, false, false, false, false, false, false, false, false, false, false, false, false, false, false, false, false, false, false, false, false, false, false, false, false, false, false, false, false, false, false, false, false, false, false, false, false, false, false, false, false, false, false, false, false, false, false, false, false, false, false, false, false, false, false, false, false, false, false, false, false, false, false, false, false, false, false, false, false]) (by decide) (by simp) (bx2 := [[.int .u64 x7], [.int .i64 0, .int .i64 0, .int .i64 0, .int .i64 0, .int .i64 0, .int .i64 0, .int .i64 0, .int .i64 0, .nils], [.int .i64 len, .int .i64 wid, .int .i64 front, .int .i64 rear, .int .i64 turn, .int .i64 kilos, .int .i64 md, .int .i64 high, .sl ([.agg [.int .i64 pt, .int .i64 klo, .int .i64 khi, .int .i64 tlo, .int .i64 thi, .int .i64 kind, .int .i64 watts]]) (some 0)]]) (by simp [re, re1, AV.clean, cleanL, clean_lds, cleanL_append, List.idxOf?, List.findIdx?, List.findIdx?.go]) (lv2 := [(1, 7)]) (by simp) (by decide), m3.toNat, by omega, m3, x7, _, [⟨pt, klo, khi, tlo, thi, kind, watts⟩], _, rfl, by omega, by simp at hcnt ⊢; omega, ?_, .inr ⟨by simp, rfl, rfl⟩, ?_, ?_⟩
            · intro l hl
              simp only [List.mem_singleton] at hl
              subst hl
              exact ⟨p1, p2 (by omega), s1, s2, (by show khi ≤ 900; omega), s4, s5, (by show thi ≤ 700; omega), y1, y4, z1, z3 (by decide), .inr (.inr hk3)⟩
            · simp [keepS, re, re1, AV.clean]
            · simp [Ld.av, Ld.cells]
        · have hk2 : kind = 2 := by simpa using hc1.symm
          (repeat (first|((first|refine ExO.nil ?_|refine Ex.skip ?_|refine Ex.ret ?_|refine Ex.exit ?_); try dsimp only)|((first|(refine xI ?_; intro _ _)|refine xL ?_|(refine xB ?_; intro _ _)|refine xG ?_|refine xS ?_|refine xM ?_|(refine xC ?_; intro _ _)|refine xW ?_); try simp only [sA])|refine Ex.seq ?_|refine Ex.reg ?_|refine Ex.block ?_|refine eT ?_|refine eF ?_|simp only [reduceCtorEq, AEx.ex.injEq, Nat.reduceEqDiff, if_true, if_false]))
          (refine ExO.call (f := (40)) (xs := ([.ptr 0 0, .int .i64 3000])) (bs := [0]) (cells := ([[.int .u64 x6]])) (by rfl) (by rfl) (by rfl) (by rfl) (by rfl) (by rfl) ((roll_m x6 3000 (by omega))) ?_; rintro v c' ⟨watts, x7, rfl, rfl, z1, z2, z3⟩; refine ⟨_, rfl, rfl, ?_⟩; simp only [List.map_cons, List.map_nil, putA, List.set_cons_zero, List.set_cons_succ, AV.plain, AV.plain1, setAll, List.length_cons, List.length_nil, List.drop_succ_cons, List.drop_zero, List.drop_nil, List.append_nil, Nat.reduceAdd]; (repeat (first|((first|refine ExO.nil ?_|refine Ex.skip ?_|refine Ex.ret ?_|refine Ex.exit ?_); try dsimp only)|((first|(refine xI ?_; intro _ _)|refine xL ?_|(refine xB ?_; intro _ _)|refine xG ?_|refine xS ?_|refine xM ?_|(refine xC ?_; intro _ _)|refine xW ?_); try simp only [sA])|refine Ex.seq ?_|refine Ex.reg ?_|refine Ex.block ?_|refine eT ?_|refine eF ?_|simp only [reduceCtorEq, AEx.ex.injEq, Nat.reduceEqDiff, if_true, if_false])))
          rename_i m3 hm3
          rw [i64_in (by omega) (by omega)] at hm3
          refine ⟨_, _, forgets 3 [3] ([true, false, false, false, true, true, true, false, false, false, false, false, false, false, false, false, false, false, false, false, false, false, false, false, false, false, false, false, false, false, false, false, false, false, false, false, false, false, false, false, false, false, false, false, false, false, false, false, false, false, false, false, false, false, false, false, false, false, false, false, false, false, false, false, false, false, false, false, false, false, false, false, false, false, false, false, false, false, false, false, false, false, false, false, false, false, false, false, false, false, false]) (by decide) (by simp) (bx2 := [[.int .u64 x7], [.int .i64 0, .int .i64 0, .int .i64 0, .int .i64 0, .int .i64 0, .int .i64 0, .int .i64 0, .int .i64 0, .nils], [.int .i64 len, .int .i64 wid, .int .i64 front, .int .i64 rear, .int .i64 turn, .int .i64 kilos, .int .i64 md, .int .i64 high, .sl ([.agg [.int .i64 pt, .int .i64 klo, .int .i64 khi, .int .i64 tlo, .int .i64 thi, .int .i64 kind, .int .i64 watts]]) (some 0)]]) (by simp [re, re1, AV.clean, cleanL, clean_lds, cleanL_append, List.idxOf?, List.findIdx?, List.findIdx?.go]) (lv2 := [(1, 7)]) (by simp) (by decide), m3.toNat, by omega, m3, x7, _, [⟨pt, klo, khi, tlo, thi, kind, watts⟩], _, rfl, by omega, by simp at hcnt ⊢; omega, ?_, .inr ⟨by simp, rfl, rfl⟩, ?_, ?_⟩
          · intro l hl
            simp only [List.mem_singleton] at hl
            subst hl
            exact ⟨p1, p2 (by omega), s1, s2, (by show khi ≤ 900; omega), s4, s5, (by show thi ≤ 700; omega), y1, y4, z1, z3 (by decide), .inr (.inl hk2)⟩
          · simp [keepS, re, re1, AV.clean]
          · simp [Ld.av, Ld.cells]
      · (repeat (first|((first|refine ExO.nil ?_|refine Ex.skip ?_|refine Ex.ret ?_|refine Ex.exit ?_); try dsimp only)|((first|(refine xI ?_; intro _ _)|refine xL ?_|(refine xB ?_; intro _ _)|refine xG ?_|refine xS ?_|refine xM ?_|(refine xC ?_; intro _ _)|refine xW ?_); try simp only [sA])|refine Ex.seq ?_|refine Ex.reg ?_|refine Ex.block ?_|refine eT ?_|refine eF ?_|simp only [reduceCtorEq, AEx.ex.injEq, Nat.reduceEqDiff, if_true, if_false]))
        (refine ExO.call (f := (41)) (xs := ([.ptr 0 0, .int .i64 front, .int .i64 rear])) (bs := [0]) (cells := ([[.int .u64 bb]])) (by rfl) (by rfl) (by rfl) (by rfl) (by rfl) (by rfl) ((mid_m bb front rear (by omega) (by omega) (by omega) (by omega))) ?_; rintro v c' ⟨pt, x1, rfl, rfl, p1, p2, p3⟩; refine ⟨_, rfl, rfl, ?_⟩; simp only [List.map_cons, List.map_nil, putA, List.set_cons_zero, List.set_cons_succ, AV.plain, AV.plain1, setAll, List.length_cons, List.length_nil, List.drop_succ_cons, List.drop_zero, List.drop_nil, List.append_nil, Nat.reduceAdd]; (repeat (first|((first|refine ExO.nil ?_|refine Ex.skip ?_|refine Ex.ret ?_|refine Ex.exit ?_); try dsimp only)|((first|(refine xI ?_; intro _ _)|refine xL ?_|(refine xB ?_; intro _ _)|refine xG ?_|refine xS ?_|refine xM ?_|(refine xC ?_; intro _ _)|refine xW ?_); try simp only [sA])|refine Ex.seq ?_|refine Ex.reg ?_|refine Ex.block ?_|refine eT ?_|refine eF ?_|simp only [reduceCtorEq, AEx.ex.injEq, Nat.reduceEqDiff, if_true, if_false])))
        (refine ExO.call (f := (39)) (xs := ([.ptr 0 0, .sl [.int .i64 5, .int .i64 900] (some 1)])) (bs := [0]) (cells := ([[.int .u64 x1]])) (by rfl) (by rfl) (by rfl) (by rfl) (by rfl) (by rfl) ((any2_m x1 5 900)) ?_; rintro v c' ⟨q2, x2, rfl, rfl, g2⟩; refine ⟨_, rfl, rfl, ?_⟩; simp only [List.map_cons, List.map_nil, putA, List.set_cons_zero, List.set_cons_succ, AV.plain, AV.plain1, setAll, List.length_cons, List.length_nil, List.drop_succ_cons, List.drop_zero, List.drop_nil, List.append_nil, Nat.reduceAdd]; (repeat (first|((first|refine ExO.nil ?_|refine Ex.skip ?_|refine Ex.ret ?_|refine Ex.exit ?_); try dsimp only)|((first|(refine xI ?_; intro _ _)|refine xL ?_|(refine xB ?_; intro _ _)|refine xG ?_|refine xS ?_|refine xM ?_|(refine xC ?_; intro _ _)|refine xW ?_); try simp only [sA])|refine Ex.seq ?_|refine Ex.reg ?_|refine Ex.block ?_|refine eT ?_|refine eF ?_|simp only [reduceCtorEq, AEx.ex.injEq, Nat.reduceEqDiff, if_true, if_false])))
        (refine ExO.call (f := (49)) (xs := ([.ptr 0 0, .int .i64 0, .int .i64 q2])) (bs := [0]) (cells := ([[.int .u64 x2]])) (by rfl) (by rfl) (by rfl) (by rfl) (by rfl) (by rfl) ((span_m x2 0 q2 (by omega) (by omega) (by omega))) ?_; rintro v c' ⟨klo, khi, x3, rfl, rfl, s1, s2, s3⟩; refine ⟨_, rfl, rfl, ?_⟩; simp only [List.map_cons, List.map_nil, putA, List.set_cons_zero, List.set_cons_succ, AV.plain, AV.plain1, setAll, List.length_cons, List.length_nil, List.drop_succ_cons, List.drop_zero, List.drop_nil, List.append_nil, Nat.reduceAdd]; (repeat (first|((first|refine ExO.nil ?_|refine Ex.skip ?_|refine Ex.ret ?_|refine Ex.exit ?_); try dsimp only)|((first|(refine xI ?_; intro _ _)|refine xL ?_|(refine xB ?_; intro _ _)|refine xG ?_|refine xS ?_|refine xM ?_|(refine xC ?_; intro _ _)|refine xW ?_); try simp only [sA])|refine Ex.seq ?_|refine Ex.reg ?_|refine Ex.block ?_|refine eT ?_|refine eF ?_|simp only [reduceCtorEq, AEx.ex.injEq, Nat.reduceEqDiff, if_true, if_false])))
        (refine ExO.call (f := (39)) (xs := ([.ptr 0 0, .sl [.int .i64 20, .int .i64 700] (some 2)])) (bs := [0]) (cells := ([[.int .u64 x3]])) (by rfl) (by rfl) (by rfl) (by rfl) (by rfl) (by rfl) ((any2_m x3 20 700)) ?_; rintro v c' ⟨q3, x4, rfl, rfl, g3⟩; refine ⟨_, rfl, rfl, ?_⟩; simp only [List.map_cons, List.map_nil, putA, List.set_cons_zero, List.set_cons_succ, AV.plain, AV.plain1, setAll, List.length_cons, List.length_nil, List.drop_succ_cons, List.drop_zero, List.drop_nil, List.append_nil, Nat.reduceAdd]; (repeat (first|((first|refine ExO.nil ?_|refine Ex.skip ?_|refine Ex.ret ?_|refine Ex.exit ?_); try dsimp only)|((first|(refine xI ?_; intro _ _)|refine xL ?_|(refine xB ?_; intro _ _)|refine xG ?_|refine xS ?_|refine xM ?_|(refine xC ?_; intro _ _)|refine xW ?_); try simp only [sA])|refine Ex.seq ?_|refine Ex.reg ?_|refine Ex.block ?_|refine eT ?_|refine eF ?_|simp only [reduceCtorEq, AEx.ex.injEq, Nat.reduceEqDiff, if_true, if_false])))
        (refine ExO.call (f := (49)) (xs := ([.ptr 0 0, .int .i64 0, .int .i64 q3])) (bs := [0]) (cells := ([[.int .u64 x4]])) (by rfl) (by rfl) (by rfl) (by rfl) (by rfl) (by rfl) ((span_m x4 0 q3 (by omega) (by omega) (by omega))) ?_; rintro v c' ⟨tlo, thi, x5, rfl, rfl, s4, s5, s6⟩; refine ⟨_, rfl, rfl, ?_⟩; simp only [List.map_cons, List.map_nil, putA, List.set_cons_zero, List.set_cons_succ, AV.plain, AV.plain1, setAll, List.length_cons, List.length_nil, List.drop_succ_cons, List.drop_zero, List.drop_nil, List.append_nil, Nat.reduceAdd]; (repeat (first|((first|refine ExO.nil ?_|refine Ex.skip ?_|refine Ex.ret ?_|refine Ex.exit ?_); try dsimp only)|((first|(refine xI ?_; intro _ _)|refine xL ?_|(refine xB ?_; intro _ _)|refine xG ?_|refine xS ?_|refine xM ?_|(refine xC ?_; intro _ _)|refine xW ?_); try simp only [sA])|refine Ex.seq ?_|refine Ex.reg ?_|refine Ex.block ?_|refine eT ?_|refine eF ?_|simp only [reduceCtorEq, AEx.ex.injEq, Nat.reduceEqDiff, if_true, if_false])))
        (refine ExO.call (f := (41)) (xs := ([.ptr 0 0, .int .i64 1, .int .i64 4])) (bs := [0]) (cells := ([[.int .u64 x5]])) (by rfl) (by rfl) (by rfl) (by rfl) (by rfl) (by rfl) ((mid_m x5 1 4 (by omega) (by omega) (by omega) (by omega))) ?_; rintro v c' ⟨kind, x6, rfl, rfl, y1, y2, y3⟩; refine ⟨_, rfl, rfl, ?_⟩; simp only [List.map_cons, List.map_nil, putA, List.set_cons_zero, List.set_cons_succ, AV.plain, AV.plain1, setAll, List.length_cons, List.length_nil, List.drop_succ_cons, List.drop_zero, List.drop_nil, List.append_nil, Nat.reduceAdd]; (repeat (first|((first|refine ExO.nil ?_|refine Ex.skip ?_|refine Ex.ret ?_|refine Ex.exit ?_); try dsimp only)|((first|(refine xI ?_; intro _ _)|refine xL ?_|(refine xB ?_; intro _ _)|refine xG ?_|refine xS ?_|refine xM ?_|(refine xC ?_; intro _ _)|refine xW ?_); try simp only [sA])|refine Ex.seq ?_|refine Ex.reg ?_|refine Ex.block ?_|refine eT ?_|refine eF ?_|simp only [reduceCtorEq, AEx.ex.injEq, Nat.reduceEqDiff, if_true, if_false])))
        have y4 : kind ≤ 4 := y2 (by decide)
        rename_i c1 hc1
        cases c1
        · (repeat (first|((first|refine ExO.nil ?_|refine Ex.skip ?_|refine Ex.ret ?_|refine Ex.exit ?_); try dsimp only)|((first|(refine xI ?_; intro _ _)|refine xL ?_|(refine xB ?_; intro _ _)|refine xG ?_|refine xS ?_|refine xM ?_|(refine xC ?_; intro _ _)|refine xW ?_); try simp only [sA])|refine Ex.seq ?_|refine Ex.reg ?_|refine Ex.block ?_|refine eT ?_|refine eF ?_|simp only [reduceCtorEq, AEx.ex.injEq, Nat.reduceEqDiff, if_true, if_false]))
          rename_i c2 hc2
          cases c2
          · (refine Ex.cond (b := false) (by first | rfl | simp [evd]) ?_; simp only [Bool.false_eq_true, if_false])
            (repeat (first|((first|refine ExO.nil ?_|refine Ex.skip ?_|refine Ex.ret ?_|refine Ex.exit ?_); try dsimp only)|((first|(refine xI ?_; intro _ _)|refine xL ?_|(refine xB ?_; intro _ _)|refine xG ?_|refine xS ?_|refine xM ?_|(refine xC ?_; intro _ _)|refine xW ?_); try simp only [sA])|refine Ex.seq ?_|refine Ex.reg ?_|refine Ex.block ?_|refine eT ?_|refine eF ?_|simp only [reduceCtorEq, AEx.ex.injEq, Nat.reduceEqDiff, if_true, if_false]))
            have hz1 : ls.length ≤ 65535 := by omega
            have hz2 : ls.length < 65536 := by omega
            have hz3 : ls.length + 1 ≤ 65536 := by omega
            (apply ExO.stG; (case hk => rfl); (case hv => (simp [vA, fRes_eq, hz1, hz2, hz3, Ld.av_len]; first|done|exact ⟨⟨rfl,rfl⟩,rfl⟩|exact ⟨rfl,rfl⟩|exact rfl)); (try simp only [sA]))
            (repeat (first|((first|refine ExO.nil ?_|refine Ex.skip ?_|refine Ex.ret ?_|refine Ex.exit ?_); try dsimp only)|((first|(refine xI ?_; intro _ _)|refine xL ?_|(refine xB ?_; intro _ _)|refine xG ?_|refine xS ?_|refine xM ?_|(refine xC ?_; intro _ _)|refine xW ?_); try simp only [sA])|refine Ex.seq ?_|refine Ex.reg ?_|refine Ex.block ?_|refine eT ?_|refine eF ?_|simp only [reduceCtorEq, AEx.ex.injEq, Nat.reduceEqDiff, if_true, if_false]))
            rename_i m3 hm3
            rw [i64_in (by omega) (by omega)] at hm3
            refine ⟨_, _, forgets 3 [0] ([true, false, false, false, true, true, true, false, false, false, false, false, false, false, false, false, false, false, false, false, false, false, false, false, false, false, false, false, false, false, false, false, false, false, false, false, false, false, false, false, false, false, false, false, false, false, false, false, false, false, false, false, false, false, false, false, false, false, false, false, false, false, false, false, false, false, false, false, false, false, false, false, false, false, false, false, false, false, false, false, false, false, false, false, false, false, false, false, false, false, false]) (by decide) (by simp) (bx2 := [[.int .u64 x6], [.int .i64 0, .int .i64 0, .int .i64 0, .int .i64 0, .int .i64 0, .int .i64 0, .int .i64 0, .int .i64 0, .nils], [.int .i64 len, .int .i64 wid, .int .i64 front, .int .i64 rear, .int .i64 turn, .int .i64 kilos, .int .i64 md, .int .i64 high, .sl (ls.map Ld.av ++ [.agg [.int .i64 pt, .int .i64 klo, .int .i64 khi, .int .i64 tlo, .int .i64 thi, .int .i64 kind, .int .i64 0]]) (some 0)]]) (by simp [re, re1, AV.clean, cleanL, clean_lds, cleanL_append, List.idxOf?, List.findIdx?, List.findIdx?.go]) (lv2 := [(ls.length + 1, 7)]) (by simp) (by decide), m3.toNat, by omega, m3, x6, _, ls ++ [⟨pt, klo, khi, tlo, thi, kind, 0⟩], _, rfl, by omega, by simp at hcnt ⊢; omega, ?_, .inr ⟨by simp, rfl, rfl⟩, ?_, ?_⟩
            · intro l hl
              rcases List.mem_append.1 hl with hl | hl
              · exact hall l hl
              simp only [List.mem_singleton] at hl
              subst hl
              exact ⟨p1, p2 (by omega), s1, s2, (by show khi ≤ 900; omega), s4, s5, (by show thi ≤ 700; omega), y1, y4, Int.le_refl 0, (by show (0 : Int) < 3000; omega), .inl rfl⟩
            · simp [keepS, re, re1, AV.clean]
            · simp [Ld.av, Ld.cells]
          · have hk3 : kind = 3 := by simpa using hc2.symm
            (refine Ex.cond (b := true) (by first | rfl | simp [evd]) ?_; simp only [if_true])
            (repeat (first|((first|refine ExO.nil ?_|refine Ex.skip ?_|refine Ex.ret ?_|refine Ex.exit ?_); try dsimp only)|((first|(refine xI ?_; intro _ _)|refine xL ?_|(refine xB ?_; intro _ _)|refine xG ?_|refine xS ?_|refine xM ?_|(refine xC ?_; intro _ _)|refine xW ?_); try simp only [sA])|refine Ex.seq ?_|refine Ex.reg ?_|refine Ex.block ?_|refine eT ?_|refine eF ?_|simp only [reduceCtorEq, AEx.ex.injEq, Nat.reduceEqDiff, if_true, if_false]))
            (refine ExO.call (f := (40)) (xs := ([.ptr 0 0, .int .i64 3000])) (bs := [0]) (cells := ([[.int .u64 x6]])) (by rfl) (by rfl) (by rfl) (by rfl) (by rfl) (by rfl) ((roll_m x6 3000 (by omega))) ?_; rintro v c' ⟨watts, x7, rfl, rfl, z1, z2, z3⟩; refine ⟨_, rfl, rfl, ?_⟩; simp only [List.map_cons, List.map_nil, putA, List.set_cons_zero, List.set_cons_succ, AV.plain, AV.plain1, setAll, List.length_cons, List.length_nil, List.drop_succ_cons, List.drop_zero, List.drop_nil, List.append_nil, Nat.reduceAdd]; (repeat (first|((first|refine ExO.nil ?_|refine Ex.skip ?_|refine Ex.ret ?_|refine Ex.exit ?_); try dsimp only)|((first|(refine xI ?_; intro _ _)|refine xL ?_|(refine xB ?_; intro _ _)|refine xG ?_|refine xS ?_|refine xM ?_|(refine xC ?_; intro _ _)|refine xW ?_); try simp only [sA])|refine Ex.seq ?_|refine Ex.reg ?_|refine Ex.block ?_|refine eT ?_|refine eF ?_|simp only [reduceCtorEq, AEx.ex.injEq, Nat.reduceEqDiff, if_true, if_false])))
            have hz1 : ls.length ≤ 65535 := by omega
            have hz2 : ls.length < 65536 := by omega
            have hz3 : ls.length + 1 ≤ 65536 := by omega
            (apply ExO.stG; (case hk => rfl); (case hv => (simp [vA, fRes_eq, hz1, hz2, hz3, Ld.av_len]; first|done|exact ⟨⟨rfl,rfl⟩,rfl⟩|exact ⟨rfl,rfl⟩|exact rfl)); (try simp only [sA]))
            (repeat (first|((first|refine ExO.nil ?_|refine Ex.skip ?_|refine Ex.ret ?_|refine Ex.exit ?_); try dsimp only)|((first|(refine xI ?_; intro _ _)|refine xL ?_|(refine xB ?_; intro _ _)|refine xG ?_|refine xS ?_|refine xM ?_|(refine xC ?_; intro _ _)|refine xW ?_); try simp only [sA])|refine Ex.seq ?_|refine Ex.reg ?_|refine Ex.block ?_|refine eT ?_|refine eF ?_|simp only [reduceCtorEq, AEx.ex.injEq, Nat.reduceEqDiff, if_true, if_false]))
            rename_i m3 hm3
            rw [i64_in (by omega) (by omega)] at hm3
            refine ⟨_, _, forgets 3 [0] ([true, false, false, false, true, true, true, false, false, false, false, false, false, false, false, false, false, false, false, false, false, false, false, false, false, false, false, false, false, false, false, false, false, false, false, false, false, false, false, false, false, false, false, false, false, false, false, false, false, false, false, false, false, false, false, false, false, false, false, false, false, false, false, false, false, false, false, false, false, false, false, false, false, false, false, false, false, false, false, false, false, false, false, false, false, false, false, false, false, false, false]) (by decide) (by simp) (bx2 := [[.int .u64 x7], [.int .i64 0, .int .i64 0, .int .i64 0, .int .i64 0, .int .i64 0, .int .i64 0, .int .i64 0, .int .i64 0, .nils], [.int .i64 len, .int .i64 wid, .int .i64 front, .int .i64 rear, .int .i64 turn, .int .i64 kilos, .int .i64 md, .int .i64 high, .sl (ls.map Ld.av ++ [.agg [.int .i64 pt, .int .i64 klo, .int .i64 khi, .int .i64 tlo, .int .i64 thi, .int .i64 kind, .int .i64 watts]]) (some 0)]]) (by simp [re, re1, AV.clean, cleanL, clean_lds, cleanL_append, List.idxOf?, List.findIdx?, List.findIdx?.go]) (lv2 := [(ls.length + 1, 7)]) (by simp) (by decide), m3.toNat, by omega, m3, x7, _, ls ++ [⟨pt, klo, khi, tlo, thi, kind, watts⟩], _, rfl, by omega, by simp at hcnt ⊢; omega, ?_, .inr ⟨by simp, rfl, rfl⟩, ?_, ?_⟩
            · intro l hl
              rcases List.mem_append.1 hl with hl | hl
              · exact hall l hl
              simp only [List.mem_singleton] at hl
              subst hl
              exact ⟨p1, p2 (by omega), s1, s2, (by show khi ≤ 900; omega), s4, s5, (by show thi ≤ 700; omega), y1, y4, z1, z3 (by decide), .inr (.inr hk3)⟩
            · simp [keepS, re, re1, AV.clean]
            · simp [Ld.av, Ld.cells]
        · have hk2 : kind = 2 := by simpa using hc1.symm
          (repeat (first|((first|refine ExO.nil ?_|refine Ex.skip ?_|refine Ex.ret ?_|refine Ex.exit ?_); try dsimp only)|((first|(refine xI ?_; intro _ _)|refine xL ?_|(refine xB ?_; intro _ _)|refine xG ?_|refine xS ?_|refine xM ?_|(refine xC ?_; intro _ _)|refine xW ?_); try simp only [sA])|refine Ex.seq ?_|refine Ex.reg ?_|refine Ex.block ?_|refine eT ?_|refine eF ?_|simp only [reduceCtorEq, AEx.ex.injEq, Nat.reduceEqDiff, if_true, if_false]))
          (refine ExO.call (f := (40)) (xs := ([.ptr 0 0, .int .i64 3000])) (bs := [0]) (cells := ([[.int .u64 x6]])) (by rfl) (by rfl) (by rfl) (by rfl) (by rfl) (by rfl) ((roll_m x6 3000 (by omega))) ?_; rintro v c' ⟨watts, x7, rfl, rfl, z1, z2, z3⟩; refine ⟨_, rfl, rfl, ?_⟩; simp only [List.map_cons, List.map_nil, putA, List.set_cons_zero, List.set_cons_succ, AV.plain, AV.plain1, setAll, List.length_cons, List.length_nil, List.drop_succ_cons, List.drop_zero, List.drop_nil, List.append_nil, Nat.reduceAdd]; (repeat (first|((first|refine ExO.nil ?_|refine Ex.skip ?_|refine Ex.ret ?_|refine Ex.exit ?_); try dsimp only)|((first|(refine xI ?_; intro _ _)|refine xL ?_|(refine xB ?_; intro _ _)|refine xG ?_|refine xS ?_|refine xM ?_|(refine xC ?_; intro _ _)|refine xW ?_); try simp only [sA])|refine Ex.seq ?_|refine Ex.reg ?_|refine Ex.block ?_|refine eT ?_|refine eF ?_|simp only [reduceCtorEq, AEx.ex.injEq, Nat.reduceEqDiff, if_true, if_false])))
          have hz1 : ls.length ≤ 65535 := by omega
          have hz2 : ls.length < 65536 := by omega
          have hz3 : ls.length + 1 ≤ 65536 := by omega
          (apply ExO.stG; (case hk => rfl); (case hv => (simp [vA, fRes_eq, hz1, hz2, hz3, Ld.av_len]; first|done|exact ⟨⟨rfl,rfl⟩,rfl⟩|exact ⟨rfl,rfl⟩|exact rfl)); (try simp only [sA]))
          (repeat (first|((first|refine ExO.nil ?_|refine Ex.skip ?_|refine Ex.ret ?_|refine Ex.exit ?_); try dsimp only)|((first|(refine xI ?_; intro _ _)|refine xL ?_|(refine xB ?_; intro _ _)|refine xG ?_|refine xS ?_|refine xM ?_|(refine xC ?_; intro _ _)|refine xW ?_); try simp only [sA])|refine Ex.seq ?_|refine Ex.reg ?_|refine Ex.block ?_|refine eT ?_|refine eF ?_|simp only [reduceCtorEq, AEx.ex.injEq, Nat.reduceEqDiff, if_true, if_false]))
          rename_i m3 hm3
          rw [i64_in (by omega) (by omega)] at hm3
          refine ⟨_, _, forgets 3 [0] ([true, false, false, false, true, true, true, false, false, false, false, false, false, false, false, false, false, false, false, false, false, false, false, false, false, false, false, false, false, false, false, false, false, false, false, false, false, false, false, false, false, false, false, false, false, false, false, false, false, false, false, false, false, false, false, false, false, false, false, false, false, false, false, false, false, false, false, false, false, false, false, false, false, false, false, false, false, false, false, false, false, false, false, false, false, false, false, false, false, false, false]) (by decide) (by simp) (bx2 := [[.int .u64 x7], [.int .i64 0, .int .i64 0, .int .i64 0, .int .i64 0, .int .i64 0, .int .i64 0, .int .i64 0, .int .i64 0, .nils], [.int .i64 len, .int .i64 wid, .int .i64 front, .int .i64 rear, .int .i64 turn, .int .i64 kilos, .int .i64 md, .int .i64 high, .sl (ls.map Ld.av ++ [.agg [.int .i64 pt, .int .i64 klo, .int .i64 khi, .int .i64 tlo, .int .i64 thi, .int .i64 kind, .int .i64 watts]]) (some 0)]]) (by simp [re, re1, AV.clean, cleanL, clean_lds, cleanL_append, List.idxOf?, List.findIdx?, List.findIdx?.go]) (lv2 := [(ls.length + 1, 7)]) (by simp) (by decide), m3.toNat, by omega, m3, x7, _, ls ++ [⟨pt, klo, khi, tlo, thi, kind, watts⟩], _, rfl, by omega, by simp at hcnt ⊢; omega, ?_, .inr ⟨by simp, rfl, rfl⟩, ?_, ?_⟩
          · intro l hl
            rcases List.mem_append.1 hl with hl | hl
            · exact hall l hl
            simp only [List.mem_singleton] at hl
            subst hl
            exact ⟨p1, p2 (by omega), s1, s2, (by show khi ≤ 900; omega), s4, s5, (by show thi ≤ 700; omega), y1, y4, z1, z3 (by decide), .inr (.inl hk2)⟩
          · simp [keepS, re, re1, AV.clean]
          · simp [Ld.av, Ld.cells]

theorem floatOf_m (b n : Int) (h0 : 0 ≤ n) (h1 : n ≤ 20) : Does Try.prog 12 [.ptr 0 0, .int .i64 n] [[.int .u64 b]] (sFloatOf n) := by
  refine Does.of comp12 ((floatOf_x b n h0 h1).mono ?_)
  rintro x a' S' ⟨hx, f, L, ls, lv, b', X1, X2, he, rfl, hL, hF, hall, hlen⟩
  refine ⟨hx, _, he, ?_, f, L, ls, b', rfl, ?_, ?_, hF, hall, hlen⟩
  · simp [AV.names]
  · simp [AV.names]
  · rcases hL with ⟨rfl, rfl, _⟩ | ⟨_, rfl, _⟩
    · exact .inr ⟨rfl, rfl⟩
    · exact .inl ⟨_, rfl⟩
end Go.Proofs.Ytoefpcpijolofaa
end
section
namespace Go.Proofs.Ytoefpcpijolofaa
open Go.RowKit
set_option linter.unusedVariables false
set_option linter.unusedSimpArgs false
set_option maxRecDepth 10000
set_option maxHeartbeats 4000000

theorem within_ok (x lo hi : Int) (h1 : lo ≤ x) (h2 : x ≤ hi) : Does Try.prog 69 [.int .i64 x, .int .i64 lo, .int .i64 hi] [] fun v c' => v = .bool true ∧ c' = [] := by
  refine Does.of comp69 ?_
  unfold F69
  simp only [start, List.length_cons, List.length_nil, List.replicate, List.cons_append, List.nil_append, Nat.reduceAdd, Nat.reduceSub]
  (repeat (first|((first|refine ExO.nil ?_|refine Ex.skip ?_|refine Ex.ret ?_|refine Ex.exit ?_); try dsimp only)|((first|(refine xI ?_; intro _ _)|refine xL ?_|(refine xB ?_; intro _ _)|refine xG ?_|refine xS ?_|refine xM ?_|(refine xC ?_; intro _ _)|refine xW ?_); try simp only [sA])|refine Ex.seq ?_|refine Ex.reg ?_|refine Ex.block ?_|refine eT ?_|refine eF ?_|simp only [reduceCtorEq, AEx.ex.injEq, Nat.reduceEqDiff, if_true, if_false]))
  (rename_i m hm; have hm2 : m = true := (by rw [hm]; simp; try omega); clear hm; subst hm2; (repeat (first|((first|refine ExO.nil ?_|refine Ex.skip ?_|refine Ex.ret ?_|refine Ex.exit ?_); try dsimp only)|((first|(refine xI ?_; intro _ _)|refine xL ?_|(refine xB ?_; intro _ _)|refine xG ?_|refine xS ?_|refine xM ?_|(refine xC ?_; intro _ _)|refine xW ?_); try simp only [sA])|refine Ex.seq ?_|refine Ex.reg ?_|refine Ex.block ?_|refine eT ?_|refine eF ?_|simp only [reduceCtorEq, AEx.ex.injEq, Nat.reduceEqDiff, if_true, if_false])))
  (rename_i m hm; have hm2 : m = true := (by rw [hm]; simp; try omega); clear hm; subst hm2; (repeat (first|((first|refine ExO.nil ?_|refine Ex.skip ?_|refine Ex.ret ?_|refine Ex.exit ?_); try dsimp only)|((first|(refine xI ?_; intro _ _)|refine xL ?_|(refine xB ?_; intro _ _)|refine xG ?_|refine xS ?_|refine xM ?_|(refine xC ?_; intro _ _)|refine xW ?_); try simp only [sA])|refine Ex.seq ?_|refine Ex.reg ?_|refine Ex.block ?_|refine eT ?_|refine eF ?_|simp only [reduceCtorEq, AEx.ex.injEq, Nat.reduceEqDiff, if_true, if_false])))
  simp [evRes, evRes1, one, AV.names, takeCells]

theorem checkSpan_ok (lo hi most : Int) (h0 : 0 ≤ lo) (h1 : lo ≤ hi) (h2 : hi ≤ most) : Does Try.prog 93 [.agg [.int .i64 lo, .int .i64 hi], .int .i64 most] [] fun v c' => v = .int .i64 0 ∧ c' = [] := by
  refine Does.of comp93 ?_
  unfold F93
  simp only [start, List.length_cons, List.length_nil, List.replicate, List.cons_append, List.nil_append, Nat.reduceAdd, Nat.reduceSub]
  (repeat (first|((first|refine ExO.nil ?_|refine Ex.skip ?_|refine Ex.ret ?_|refine Ex.exit ?_); try dsimp only)|((first|(refine xI ?_; intro _ _)|refine xL ?_|(refine xB ?_; intro _ _)|refine xG ?_|refine xS ?_|refine xM ?_|(refine xC ?_; intro _ _)|refine xW ?_); try simp only [sA])|refine Ex.seq ?_|refine Ex.reg ?_|refine Ex.block ?_|refine eT ?_|refine eF ?_|simp only [reduceCtorEq, AEx.ex.injEq, Nat.reduceEqDiff, if_true, if_false]))
  (refine ExO.call (f := (69)) (xs := ([.int .i64 lo, .int .i64 0, .int .i64 most])) (ys := ([.int .i64 lo, .int .i64 0, .int .i64 most])) (bs := ([])) (cells := ([])) (by rfl) (by rfl) (by rfl) (by first | rfl | simp [ren, ren1, AV.plain, AV.plain1, AV.clean, cleanL, clean_lds, cleanL_append]) (by rfl) (by first | rfl | simp [ren, ren1, AV.plain, AV.plain1, AV.clean, cleanL, clean_lds, cleanL_append]) ((within_ok lo 0 most (by omega) (by omega))) ?_; rintro v c' ⟨rfl, rfl⟩; refine ⟨_, rfl, rfl, ?_⟩; simp only [List.map_cons, List.map_nil, putA, List.set_cons_zero, List.set_cons_succ, AV.plain, AV.plain1, setAll, List.length_cons, List.length_nil, List.drop_succ_cons, List.drop_zero, List.drop_nil, List.append_nil, Nat.reduceAdd]; (repeat (first|((first|refine ExO.nil ?_|refine Ex.skip ?_|refine Ex.ret ?_|refine Ex.exit ?_); try dsimp only)|((first|(refine xI ?_; intro _ _)|refine xL ?_|(refine xB ?_; intro _ _)|refine xG ?_|refine xS ?_|refine xM ?_|(refine xC ?_; intro _ _)|refine xW ?_); try simp only [sA])|refine Ex.seq ?_|refine Ex.reg ?_|refine Ex.block ?_|refine eT ?_|refine eF ?_|simp only [reduceCtorEq, AEx.ex.injEq, Nat.reduceEqDiff, if_true, if_false])))
  (refine ExO.call (f := (69)) (xs := ([.int .i64 hi, .int .i64 0, .int .i64 most])) (ys := ([.int .i64 hi, .int .i64 0, .int .i64 most])) (bs := ([])) (cells := ([])) (by rfl) (by rfl) (by rfl) (by first | rfl | simp [ren, ren1, AV.plain, AV.plain1, AV.clean, cleanL, clean_lds, cleanL_append]) (by rfl) (by first | rfl | simp [ren, ren1, AV.plain, AV.plain1, AV.clean, cleanL, clean_lds, cleanL_append]) ((within_ok hi 0 most (by omega) (by omega))) ?_; rintro v c' ⟨rfl, rfl⟩; refine ⟨_, rfl, rfl, ?_⟩; simp only [List.map_cons, List.map_nil, putA, List.set_cons_zero, List.set_cons_succ, AV.plain, AV.plain1, setAll, List.length_cons, List.length_nil, List.drop_succ_cons, List.drop_zero, List.drop_nil, List.append_nil, Nat.reduceAdd]; (repeat (first|((first|refine ExO.nil ?_|refine Ex.skip ?_|refine Ex.ret ?_|refine Ex.exit ?_); try dsimp only)|((first|(refine xI ?_; intro _ _)|refine xL ?_|(refine xB ?_; intro _ _)|refine xG ?_|refine xS ?_|refine xM ?_|(refine xC ?_; intro _ _)|refine xW ?_); try simp only [sA])|refine Ex.seq ?_|refine Ex.reg ?_|refine Ex.block ?_|refine eT ?_|refine eF ?_|simp only [reduceCtorEq, AEx.ex.injEq, Nat.reduceEqDiff, if_true, if_false])))
  (rename_i m hm; have hm2 : m = false := (by rw [hm]; simp; try omega); clear hm; subst hm2; (repeat (first|((first|refine ExO.nil ?_|refine Ex.skip ?_|refine Ex.ret ?_|refine Ex.exit ?_); try dsimp only)|((first|(refine xI ?_; intro _ _)|refine xL ?_|(refine xB ?_; intro _ _)|refine xG ?_|refine xS ?_|refine xM ?_|(refine xC ?_; intro _ _)|refine xW ?_); try simp only [sA])|refine Ex.seq ?_|refine Ex.reg ?_|refine Ex.block ?_|refine eT ?_|refine eF ?_|simp only [reduceCtorEq, AEx.ex.injEq, Nat.reduceEqDiff, if_true, if_false])))
  simp [evRes, evRes1, one, AV.names, takeCells]

theorem checkFrame_ok (len wid front rear turn kilos mid high : Int) (hF : FOk ⟨len, wid, front, rear, turn, kilos, mid, high⟩) (L : AV) (ls : List Ld) (hL : isLds L ls) : Does Try.prog 80 [.agg [.int .i64 len, .int .i64 wid, .int .i64 front, .int .i64 rear, .int .i64 turn, .int .i64 kilos, .int .i64 mid, .int .i64 high, L]] [] fun v c' => v = .int .i64 0 ∧ c' = [] := by
  have hF' := hF
  unfold FOk at hF'
  simp only [] at hF'
  obtain ⟨o1, o2, o3, o4, o5, o6, o7, o8, o9, o10, o11, o12, o13, o14, o15⟩ := hF'
  rcases hL with ⟨tk, rfl⟩ | ⟨rfl, rfl⟩
  · refine Does.of comp80 ?_
    unfold F80
    simp only [start, List.length_cons, List.length_nil, List.replicate, List.cons_append, List.nil_append, Nat.reduceAdd, Nat.reduceSub]
    (repeat (first|((first|refine ExO.nil ?_|refine Ex.skip ?_|refine Ex.ret ?_|refine Ex.exit ?_); try dsimp only)|((first|(refine xI ?_; intro _ _)|refine xL ?_|(refine xB ?_; intro _ _)|refine xG ?_|refine xS ?_|refine xM ?_|(refine xC ?_; intro _ _)|refine xW ?_); try simp only [sA])|refine Ex.seq ?_|refine Ex.reg ?_|refine Ex.block ?_|refine eT ?_|refine eF ?_|simp only [reduceCtorEq, AEx.ex.injEq, Nat.reduceEqDiff, if_true, if_false]))
    (refine ExO.call (f := (69)) (xs := ([.int .i64 (len), .int .i64 (1), .int .i64 (3000)])) (ys := ([.int .i64 (len), .int .i64 (1), .int .i64 (3000)])) (bs := ([])) (cells := ([])) (by rfl) (by rfl) (by rfl) (by first | rfl | simp [ren, ren1, AV.plain, AV.plain1, AV.clean, cleanL, clean_lds, cleanL_append]) (by rfl) (by first | rfl | simp [ren, ren1, AV.plain, AV.plain1, AV.clean, cleanL, clean_lds, cleanL_append]) ((within_ok (len) (1) (3000) (by omega) (by omega))) ?_; rintro v c' ⟨rfl, rfl⟩; refine ⟨_, rfl, rfl, ?_⟩; simp only [List.map_cons, List.map_nil, putA, List.set_cons_zero, List.set_cons_succ, AV.plain, AV.plain1, setAll, List.length_cons, List.length_nil, List.drop_succ_cons, List.drop_zero, List.drop_nil, List.append_nil, Nat.reduceAdd]; (repeat (first|((first|refine ExO.nil ?_|refine Ex.skip ?_|refine Ex.ret ?_|refine Ex.exit ?_); try dsimp only)|((first|(refine xI ?_; intro _ _)|refine xL ?_|(refine xB ?_; intro _ _)|refine xG ?_|refine xS ?_|refine xM ?_|(refine xC ?_; intro _ _)|refine xW ?_); try simp only [sA])|refine Ex.seq ?_|refine Ex.reg ?_|refine Ex.block ?_|refine eT ?_|refine eF ?_|simp only [reduceCtorEq, AEx.ex.injEq, Nat.reduceEqDiff, if_true, if_false])))
    (refine ExO.call (f := (69)) (xs := ([.int .i64 (wid), .int .i64 (1), .int .i64 (1000)])) (ys := ([.int .i64 (wid), .int .i64 (1), .int .i64 (1000)])) (bs := ([])) (cells := ([])) (by rfl) (by rfl) (by rfl) (by first | rfl | simp [ren, ren1, AV.plain, AV.plain1, AV.clean, cleanL, clean_lds, cleanL_append]) (by rfl) (by first | rfl | simp [ren, ren1, AV.plain, AV.plain1, AV.clean, cleanL, clean_lds, cleanL_append]) ((within_ok (wid) (1) (1000) (by omega) (by omega))) ?_; rintro v c' ⟨rfl, rfl⟩; refine ⟨_, rfl, rfl, ?_⟩; simp only [List.map_cons, List.map_nil, putA, List.set_cons_zero, List.set_cons_succ, AV.plain, AV.plain1, setAll, List.length_cons, List.length_nil, List.drop_succ_cons, List.drop_zero, List.drop_nil, List.append_nil, Nat.reduceAdd]; (repeat (first|((first|refine ExO.nil ?_|refine Ex.skip ?_|refine Ex.ret ?_|refine Ex.exit ?_); try dsimp only)|((first|(refine xI ?_; intro _ _)|refine xL ?_|(refine xB ?_; intro _ _)|refine xG ?_|refine xS ?_|refine xM ?_|(refine xC ?_; intro _ _)|refine xW ?_); try simp only [sA])|refine Ex.seq ?_|refine Ex.reg ?_|refine Ex.block ?_|refine eT ?_|refine eF ?_|simp only [reduceCtorEq, AEx.ex.injEq, Nat.reduceEqDiff, if_true, if_false])))
    (refine ExO.call (f := (69)) (xs := ([.int .i64 (front), .int .i64 (0), .int .i64 (len)])) (ys := ([.int .i64 (front), .int .i64 (0), .int .i64 (len)])) (bs := ([])) (cells := ([])) (by rfl) (by rfl) (by rfl) (by first | rfl | simp [ren, ren1, AV.plain, AV.plain1, AV.clean, cleanL, clean_lds, cleanL_append]) (by rfl) (by first | rfl | simp [ren, ren1, AV.plain, AV.plain1, AV.clean, cleanL, clean_lds, cleanL_append]) ((within_ok (front) (0) (len) (by omega) (by omega))) ?_; rintro v c' ⟨rfl, rfl⟩; refine ⟨_, rfl, rfl, ?_⟩; simp only [List.map_cons, List.map_nil, putA, List.set_cons_zero, List.set_cons_succ, AV.plain, AV.plain1, setAll, List.length_cons, List.length_nil, List.drop_succ_cons, List.drop_zero, List.drop_nil, List.append_nil, Nat.reduceAdd]; (repeat (first|((first|refine ExO.nil ?_|refine Ex.skip ?_|refine Ex.ret ?_|refine Ex.exit ?_); try dsimp only)|((first|(refine xI ?_; intro _ _)|refine xL ?_|(refine xB ?_; intro _ _)|refine xG ?_|refine xS ?_|refine xM ?_|(refine xC ?_; intro _ _)|refine xW ?_); try simp only [sA])|refine Ex.seq ?_|refine Ex.reg ?_|refine Ex.block ?_|refine eT ?_|refine eF ?_|simp only [reduceCtorEq, AEx.ex.injEq, Nat.reduceEqDiff, if_true, if_false])))
    (refine ExO.call (f := (69)) (xs := ([.int .i64 (rear), .int .i64 (0), .int .i64 (len)])) (ys := ([.int .i64 (rear), .int .i64 (0), .int .i64 (len)])) (bs := ([])) (cells := ([])) (by rfl) (by rfl) (by rfl) (by first | rfl | simp [ren, ren1, AV.plain, AV.plain1, AV.clean, cleanL, clean_lds, cleanL_append]) (by rfl) (by first | rfl | simp [ren, ren1, AV.plain, AV.plain1, AV.clean, cleanL, clean_lds, cleanL_append]) ((within_ok (rear) (0) (len) (by omega) (by omega))) ?_; rintro v c' ⟨rfl, rfl⟩; refine ⟨_, rfl, rfl, ?_⟩; simp only [List.map_cons, List.map_nil, putA, List.set_cons_zero, List.set_cons_succ, AV.plain, AV.plain1, setAll, List.length_cons, List.length_nil, List.drop_succ_cons, List.drop_zero, List.drop_nil, List.append_nil, Nat.reduceAdd]; (repeat (first|((first|refine ExO.nil ?_|refine Ex.skip ?_|refine Ex.ret ?_|refine Ex.exit ?_); try dsimp only)|((first|(refine xI ?_; intro _ _)|refine xL ?_|(refine xB ?_; intro _ _)|refine xG ?_|refine xS ?_|refine xM ?_|(refine xC ?_; intro _ _)|refine xW ?_); try simp only [sA])|refine Ex.seq ?_|refine Ex.reg ?_|refine Ex.block ?_|refine eT ?_|refine eF ?_|simp only [reduceCtorEq, AEx.ex.injEq, Nat.reduceEqDiff, if_true, if_false])))
    (rename_i m hm; have hm2 : m = false := (by rw [hm]; simp; try omega); clear hm; subst hm2; (repeat (first|((first|refine ExO.nil ?_|refine Ex.skip ?_|refine Ex.ret ?_|refine Ex.exit ?_); try dsimp only)|((first|(refine xI ?_; intro _ _)|refine xL ?_|(refine xB ?_; intro _ _)|refine xG ?_|refine xS ?_|refine xM ?_|(refine xC ?_; intro _ _)|refine xW ?_); try simp only [sA])|refine Ex.seq ?_|refine Ex.reg ?_|refine Ex.block ?_|refine eT ?_|refine eF ?_|simp only [reduceCtorEq, AEx.ex.injEq, Nat.reduceEqDiff, if_true, if_false])))
    (refine ExO.call (f := (69)) (xs := ([.int .i64 (turn), .int .i64 (0), .int .i64 (20000)])) (ys := ([.int .i64 (turn), .int .i64 (0), .int .i64 (20000)])) (bs := ([])) (cells := ([])) (by rfl) (by rfl) (by rfl) (by first | rfl | simp [ren, ren1, AV.plain, AV.plain1, AV.clean, cleanL, clean_lds, cleanL_append]) (by rfl) (by first | rfl | simp [ren, ren1, AV.plain, AV.plain1, AV.clean, cleanL, clean_lds, cleanL_append]) ((within_ok (turn) (0) (20000) (by omega) (by omega))) ?_; rintro v c' ⟨rfl, rfl⟩; refine ⟨_, rfl, rfl, ?_⟩; simp only [List.map_cons, List.map_nil, putA, List.set_cons_zero, List.set_cons_succ, AV.plain, AV.plain1, setAll, List.length_cons, List.length_nil, List.drop_succ_cons, List.drop_zero, List.drop_nil, List.append_nil, Nat.reduceAdd]; (repeat (first|((first|refine ExO.nil ?_|refine Ex.skip ?_|refine Ex.ret ?_|refine Ex.exit ?_); try dsimp only)|((first|(refine xI ?_; intro _ _)|refine xL ?_|(refine xB ?_; intro _ _)|refine xG ?_|refine xS ?_|refine xM ?_|(refine xC ?_; intro _ _)|refine xW ?_); try simp only [sA])|refine Ex.seq ?_|refine Ex.reg ?_|refine Ex.block ?_|refine eT ?_|refine eF ?_|simp only [reduceCtorEq, AEx.ex.injEq, Nat.reduceEqDiff, if_true, if_false])))
    (refine ExO.call (f := (69)) (xs := ([.int .i64 (kilos), .int .i64 (0), .int .i64 (100000)])) (ys := ([.int .i64 (kilos), .int .i64 (0), .int .i64 (100000)])) (bs := ([])) (cells := ([])) (by rfl) (by rfl) (by rfl) (by first | rfl | simp [ren, ren1, AV.plain, AV.plain1, AV.clean, cleanL, clean_lds, cleanL_append]) (by rfl) (by first | rfl | simp [ren, ren1, AV.plain, AV.plain1, AV.clean, cleanL, clean_lds, cleanL_append]) ((within_ok (kilos) (0) (100000) (by omega) (by omega))) ?_; rintro v c' ⟨rfl, rfl⟩; refine ⟨_, rfl, rfl, ?_⟩; simp only [List.map_cons, List.map_nil, putA, List.set_cons_zero, List.set_cons_succ, AV.plain, AV.plain1, setAll, List.length_cons, List.length_nil, List.drop_succ_cons, List.drop_zero, List.drop_nil, List.append_nil, Nat.reduceAdd]; (repeat (first|((first|refine ExO.nil ?_|refine Ex.skip ?_|refine Ex.ret ?_|refine Ex.exit ?_); try dsimp only)|((first|(refine xI ?_; intro _ _)|refine xL ?_|(refine xB ?_; intro _ _)|refine xG ?_|refine xS ?_|refine xM ?_|(refine xC ?_; intro _ _)|refine xW ?_); try simp only [sA])|refine Ex.seq ?_|refine Ex.reg ?_|refine Ex.block ?_|refine eT ?_|refine eF ?_|simp only [reduceCtorEq, AEx.ex.injEq, Nat.reduceEqDiff, if_true, if_false])))
    (refine ExO.call (f := (69)) (xs := ([.int .i64 (mid), .int .i64 (0), .int .i64 (len)])) (ys := ([.int .i64 (mid), .int .i64 (0), .int .i64 (len)])) (bs := ([])) (cells := ([])) (by rfl) (by rfl) (by rfl) (by first | rfl | simp [ren, ren1, AV.plain, AV.plain1, AV.clean, cleanL, clean_lds, cleanL_append]) (by rfl) (by first | rfl | simp [ren, ren1, AV.plain, AV.plain1, AV.clean, cleanL, clean_lds, cleanL_append]) ((within_ok (mid) (0) (len) (by omega) (by omega))) ?_; rintro v c' ⟨rfl, rfl⟩; refine ⟨_, rfl, rfl, ?_⟩; simp only [List.map_cons, List.map_nil, putA, List.set_cons_zero, List.set_cons_succ, AV.plain, AV.plain1, setAll, List.length_cons, List.length_nil, List.drop_succ_cons, List.drop_zero, List.drop_nil, List.append_nil, Nat.reduceAdd]; (repeat (first|((first|refine ExO.nil ?_|refine Ex.skip ?_|refine Ex.ret ?_|refine Ex.exit ?_); try dsimp only)|((first|(refine xI ?_; intro _ _)|refine xL ?_|(refine xB ?_; intro _ _)|refine xG ?_|refine xS ?_|refine xM ?_|(refine xC ?_; intro _ _)|refine xW ?_); try simp only [sA])|refine Ex.seq ?_|refine Ex.reg ?_|refine Ex.block ?_|refine eT ?_|refine eF ?_|simp only [reduceCtorEq, AEx.ex.injEq, Nat.reduceEqDiff, if_true, if_false])))
    (refine ExO.call (f := (69)) (xs := ([.int .i64 (high), .int .i64 (0), .int .i64 (2000)])) (ys := ([.int .i64 (high), .int .i64 (0), .int .i64 (2000)])) (bs := ([])) (cells := ([])) (by rfl) (by rfl) (by rfl) (by first | rfl | simp [ren, ren1, AV.plain, AV.plain1, AV.clean, cleanL, clean_lds, cleanL_append]) (by rfl) (by first | rfl | simp [ren, ren1, AV.plain, AV.plain1, AV.clean, cleanL, clean_lds, cleanL_append]) ((within_ok (high) (0) (2000) (by omega) (by omega))) ?_; rintro v c' ⟨rfl, rfl⟩; refine ⟨_, rfl, rfl, ?_⟩; simp only [List.map_cons, List.map_nil, putA, List.set_cons_zero, List.set_cons_succ, AV.plain, AV.plain1, setAll, List.length_cons, List.length_nil, List.drop_succ_cons, List.drop_zero, List.drop_nil, List.append_nil, Nat.reduceAdd]; (repeat (first|((first|refine ExO.nil ?_|refine Ex.skip ?_|refine Ex.ret ?_|refine Ex.exit ?_); try dsimp only)|((first|(refine xI ?_; intro _ _)|refine xL ?_|(refine xB ?_; intro _ _)|refine xG ?_|refine xS ?_|refine xM ?_|(refine xC ?_; intro _ _)|refine xW ?_); try simp only [sA])|refine Ex.seq ?_|refine Ex.reg ?_|refine Ex.block ?_|refine eT ?_|refine eF ?_|simp only [reduceCtorEq, AEx.ex.injEq, Nat.reduceEqDiff, if_true, if_false])))
    simp [evRes, evRes1, one, AV.names, takeCells]
  · refine Does.of comp80 ?_
    unfold F80
    simp only [start, List.length_cons, List.length_nil, List.replicate, List.cons_append, List.nil_append, Nat.reduceAdd, Nat.reduceSub]
    (repeat (first|((first|refine ExO.nil ?_|refine Ex.skip ?_|refine Ex.ret ?_|refine Ex.exit ?_); try dsimp only)|((first|(refine xI ?_; intro _ _)|refine xL ?_|(refine xB ?_; intro _ _)|refine xG ?_|refine xS ?_|refine xM ?_|(refine xC ?_; intro _ _)|refine xW ?_); try simp only [sA])|refine Ex.seq ?_|refine Ex.reg ?_|refine Ex.block ?_|refine eT ?_|refine eF ?_|simp only [reduceCtorEq, AEx.ex.injEq, Nat.reduceEqDiff, if_true, if_false]))
    (refine ExO.call (f := (69)) (xs := ([.int .i64 (len), .int .i64 (1), .int .i64 (3000)])) (ys := ([.int .i64 (len), .int .i64 (1), .int .i64 (3000)])) (bs := ([])) (cells := ([])) (by rfl) (by rfl) (by rfl) (by first | rfl | simp [ren, ren1, AV.plain, AV.plain1, AV.clean, cleanL, clean_lds, cleanL_append]) (by rfl) (by first | rfl | simp [ren, ren1, AV.plain, AV.plain1, AV.clean, cleanL, clean_lds, cleanL_append]) ((within_ok (len) (1) (3000) (by omega) (by omega))) ?_; rintro v c' ⟨rfl, rfl⟩; refine ⟨_, rfl, rfl, ?_⟩; simp only [List.map_cons, List.map_nil, putA, List.set_cons_zero, List.set_cons_succ, AV.plain, AV.plain1, setAll, List.length_cons, List.length_nil, List.drop_succ_cons, List.drop_zero, List.drop_nil, List.append_nil, Nat.reduceAdd]; (repeat (first|((first|refine ExO.nil ?_|refine Ex.skip ?_|refine Ex.ret ?_|refine Ex.exit ?_); try dsimp only)|((first|(refine xI ?_; intro _ _)|refine xL ?_|(refine xB ?_; intro _ _)|refine xG ?_|refine xS ?_|refine xM ?_|(refine xC ?_; intro _ _)|refine xW ?_); try simp only [sA])|refine Ex.seq ?_|refine Ex.reg ?_|refine Ex.block ?_|refine eT ?_|refine eF ?_|simp only [reduceCtorEq, AEx.ex.injEq, Nat.reduceEqDiff, if_true, if_false])))
    (refine ExO.call (f := (69)) (xs := ([.int .i64 (wid), .int .i64 (1), .int .i64 (1000)])) (ys := ([.int .i64 (wid), .int .i64 (1), .int .i64 (1000)])) (bs := ([])) (cells := ([])) (by rfl) (by rfl) (by rfl) (by first | rfl | simp [ren, ren1, AV.plain, AV.plain1, AV.clean, cleanL, clean_lds, cleanL_append]) (by rfl) (by first | rfl | simp [ren, ren1, AV.plain, AV.plain1, AV.clean, cleanL, clean_lds, cleanL_append]) ((within_ok (wid) (1) (1000) (by omega) (by omega))) ?_; rintro v c' ⟨rfl, rfl⟩; refine ⟨_, rfl, rfl, ?_⟩; simp only [List.map_cons, List.map_nil, putA, List.set_cons_zero, List.set_cons_succ, AV.plain, AV.plain1, setAll, List.length_cons, List.length_nil, List.drop_succ_cons, List.drop_zero, List.drop_nil, List.append_nil, Nat.reduceAdd]; (repeat (first|((first|refine ExO.nil ?_|refine Ex.skip ?_|refine Ex.ret ?_|refine Ex.exit ?_); try dsimp only)|((first|(refine xI ?_; intro _ _)|refine xL ?_|(refine xB ?_; intro _ _)|refine xG ?_|refine xS ?_|refine xM ?_|(refine xC ?_; intro _ _)|refine xW ?_); try simp only [sA])|refine Ex.seq ?_|refine Ex.reg ?_|refine Ex.block ?_|refine eT ?_|refine eF ?_|simp only [reduceCtorEq, AEx.ex.injEq, Nat.reduceEqDiff, if_true, if_false])))
    (refine ExO.call (f := (69)) (xs := ([.int .i64 (front), .int .i64 (0), .int .i64 (len)])) (ys := ([.int .i64 (front), .int .i64 (0), .int .i64 (len)])) (bs := ([])) (cells := ([])) (by rfl) (by rfl) (by rfl) (by first | rfl | simp [ren, ren1, AV.plain, AV.plain1, AV.clean, cleanL, clean_lds, cleanL_append]) (by rfl) (by first | rfl | simp [ren, ren1, AV.plain, AV.plain1, AV.clean, cleanL, clean_lds, cleanL_append]) ((within_ok (front) (0) (len) (by omega) (by omega))) ?_; rintro v c' ⟨rfl, rfl⟩; refine ⟨_, rfl, rfl, ?_⟩; simp only [List.map_cons, List.map_nil, putA, List.set_cons_zero, List.set_cons_succ, AV.plain, AV.plain1, setAll, List.length_cons, List.length_nil, List.drop_succ_cons, List.drop_zero, List.drop_nil, List.append_nil, Nat.reduceAdd]; (repeat (first|((first|refine ExO.nil ?_|refine Ex.skip ?_|refine Ex.ret ?_|refine Ex.exit ?_); try dsimp only)|((first|(refine xI ?_; intro _ _)|refine xL ?_|(refine xB ?_; intro _ _)|refine xG ?_|refine xS ?_|refine xM ?_|(refine xC ?_; intro _ _)|refine xW ?_); try simp only [sA])|refine Ex.seq ?_|refine Ex.reg ?_|refine Ex.block ?_|refine eT ?_|refine eF ?_|simp only [reduceCtorEq, AEx.ex.injEq, Nat.reduceEqDiff, if_true, if_false])))
    (refine ExO.call (f := (69)) (xs := ([.int .i64 (rear), .int .i64 (0), .int .i64 (len)])) (ys := ([.int .i64 (rear), .int .i64 (0), .int .i64 (len)])) (bs := ([])) (cells := ([])) (by rfl) (by rfl) (by rfl) (by first | rfl | simp [ren, ren1, AV.plain, AV.plain1, AV.clean, cleanL, clean_lds, cleanL_append]) (by rfl) (by first | rfl | simp [ren, ren1, AV.plain, AV.plain1, AV.clean, cleanL, clean_lds, cleanL_append]) ((within_ok (rear) (0) (len) (by omega) (by omega))) ?_; rintro v c' ⟨rfl, rfl⟩; refine ⟨_, rfl, rfl, ?_⟩; simp only [List.map_cons, List.map_nil, putA, List.set_cons_zero, List.set_cons_succ, AV.plain, AV.plain1, setAll, List.length_cons, List.length_nil, List.drop_succ_cons, List.drop_zero, List.drop_nil, List.append_nil, Nat.reduceAdd]; (repeat (first|((first|refine ExO.nil ?_|refine Ex.skip ?_|refine Ex.ret ?_|refine Ex.exit ?_); try dsimp only)|((first|(refine xI ?_; intro _ _)|refine xL ?_|(refine xB ?_; intro _ _)|refine xG ?_|refine xS ?_|refine xM ?_|(refine xC ?_; intro _ _)|refine xW ?_); try simp only [sA])|refine Ex.seq ?_|refine Ex.reg ?_|refine Ex.block ?_|refine eT ?_|refine eF ?_|simp only [reduceCtorEq, AEx.ex.injEq, Nat.reduceEqDiff, if_true, if_false])))
    (rename_i m hm; have hm2 : m = false := (by rw [hm]; simp; try omega); clear hm; subst hm2; (repeat (first|((first|refine ExO.nil ?_|refine Ex.skip ?_|refine Ex.ret ?_|refine Ex.exit ?_); try dsimp only)|((first|(refine xI ?_; intro _ _)|refine xL ?_|(refine xB ?_; intro _ _)|refine xG ?_|refine xS ?_|refine xM ?_|(refine xC ?_; intro _ _)|refine xW ?_); try simp only [sA])|refine Ex.seq ?_|refine Ex.reg ?_|refine Ex.block ?_|refine eT ?_|refine eF ?_|simp only [reduceCtorEq, AEx.ex.injEq, Nat.reduceEqDiff, if_true, if_false])))
    (refine ExO.call (f := (69)) (xs := ([.int .i64 (turn), .int .i64 (0), .int .i64 (20000)])) (ys := ([.int .i64 (turn), .int .i64 (0), .int .i64 (20000)])) (bs := ([])) (cells := ([])) (by rfl) (by rfl) (by rfl) (by first | rfl | simp [ren, ren1, AV.plain, AV.plain1, AV.clean, cleanL, clean_lds, cleanL_append]) (by rfl) (by first | rfl | simp [ren, ren1, AV.plain, AV.plain1, AV.clean, cleanL, clean_lds, cleanL_append]) ((within_ok (turn) (0) (20000) (by omega) (by omega))) ?_; rintro v c' ⟨rfl, rfl⟩; refine ⟨_, rfl, rfl, ?_⟩; simp only [List.map_cons, List.map_nil, putA, List.set_cons_zero, List.set_cons_succ, AV.plain, AV.plain1, setAll, List.length_cons, List.length_nil, List.drop_succ_cons, List.drop_zero, List.drop_nil, List.append_nil, Nat.reduceAdd]; (repeat (first|((first|refine ExO.nil ?_|refine Ex.skip ?_|refine Ex.ret ?_|refine Ex.exit ?_); try dsimp only)|((first|(refine xI ?_; intro _ _)|refine xL ?_|(refine xB ?_; intro _ _)|refine xG ?_|refine xS ?_|refine xM ?_|(refine xC ?_; intro _ _)|refine xW ?_); try simp only [sA])|refine Ex.seq ?_|refine Ex.reg ?_|refine Ex.block ?_|refine eT ?_|refine eF ?_|simp only [reduceCtorEq, AEx.ex.injEq, Nat.reduceEqDiff, if_true, if_false])))
    (refine ExO.call (f := (69)) (xs := ([.int .i64 (kilos), .int .i64 (0), .int .i64 (100000)])) (ys := ([.int .i64 (kilos), .int .i64 (0), .int .i64 (100000)])) (bs := ([])) (cells := ([])) (by rfl) (by rfl) (by rfl) (by first | rfl | simp [ren, ren1, AV.plain, AV.plain1, AV.clean, cleanL, clean_lds, cleanL_append]) (by rfl) (by first | rfl | simp [ren, ren1, AV.plain, AV.plain1, AV.clean, cleanL, clean_lds, cleanL_append]) ((within_ok (kilos) (0) (100000) (by omega) (by omega))) ?_; rintro v c' ⟨rfl, rfl⟩; refine ⟨_, rfl, rfl, ?_⟩; simp only [List.map_cons, List.map_nil, putA, List.set_cons_zero, List.set_cons_succ, AV.plain, AV.plain1, setAll, List.length_cons, List.length_nil, List.drop_succ_cons, List.drop_zero, List.drop_nil, List.append_nil, Nat.reduceAdd]; (repeat (first|((first|refine ExO.nil ?_|refine Ex.skip ?_|refine Ex.ret ?_|refine Ex.exit ?_); try dsimp only)|((first|(refine xI ?_; intro _ _)|refine xL ?_|(refine xB ?_; intro _ _)|refine xG ?_|refine xS ?_|refine xM ?_|(refine xC ?_; intro _ _)|refine xW ?_); try simp only [sA])|refine Ex.seq ?_|refine Ex.reg ?_|refine Ex.block ?_|refine eT ?_|refine eF ?_|simp only [reduceCtorEq, AEx.ex.injEq, Nat.reduceEqDiff, if_true, if_false])))
    (refine ExO.call (f := (69)) (xs := ([.int .i64 (mid), .int .i64 (0), .int .i64 (len)])) (ys := ([.int .i64 (mid), .int .i64 (0), .int .i64 (len)])) (bs := ([])) (cells := ([])) (by rfl) (by rfl) (by rfl) (by first | rfl | simp [ren, ren1, AV.plain, AV.plain1, AV.clean, cleanL, clean_lds, cleanL_append]) (by rfl) (by first | rfl | simp [ren, ren1, AV.plain, AV.plain1, AV.clean, cleanL, clean_lds, cleanL_append]) ((within_ok (mid) (0) (len) (by omega) (by omega))) ?_; rintro v c' ⟨rfl, rfl⟩; refine ⟨_, rfl, rfl, ?_⟩; simp only [List.map_cons, List.map_nil, putA, List.set_cons_zero, List.set_cons_succ, AV.plain, AV.plain1, setAll, List.length_cons, List.length_nil, List.drop_succ_cons, List.drop_zero, List.drop_nil, List.append_nil, Nat.reduceAdd]; (repeat (first|((first|refine ExO.nil ?_|refine Ex.skip ?_|refine Ex.ret ?_|refine Ex.exit ?_); try dsimp only)|((first|(refine xI ?_; intro _ _)|refine xL ?_|(refine xB ?_; intro _ _)|refine xG ?_|refine xS ?_|refine xM ?_|(refine xC ?_; intro _ _)|refine xW ?_); try simp only [sA])|refine Ex.seq ?_|refine Ex.reg ?_|refine Ex.block ?_|refine eT ?_|refine eF ?_|simp only [reduceCtorEq, AEx.ex.injEq, Nat.reduceEqDiff, if_true, if_false])))
    (refine ExO.call (f := (69)) (xs := ([.int .i64 (high), .int .i64 (0), .int .i64 (2000)])) (ys := ([.int .i64 (high), .int .i64 (0), .int .i64 (2000)])) (bs := ([])) (cells := ([])) (by rfl) (by rfl) (by rfl) (by first | rfl | simp [ren, ren1, AV.plain, AV.plain1, AV.clean, cleanL, clean_lds, cleanL_append]) (by rfl) (by first | rfl | simp [ren, ren1, AV.plain, AV.plain1, AV.clean, cleanL, clean_lds, cleanL_append]) ((within_ok (high) (0) (2000) (by omega) (by omega))) ?_; rintro v c' ⟨rfl, rfl⟩; refine ⟨_, rfl, rfl, ?_⟩; simp only [List.map_cons, List.map_nil, putA, List.set_cons_zero, List.set_cons_succ, AV.plain, AV.plain1, setAll, List.length_cons, List.length_nil, List.drop_succ_cons, List.drop_zero, List.drop_nil, List.append_nil, Nat.reduceAdd]; (repeat (first|((first|refine ExO.nil ?_|refine Ex.skip ?_|refine Ex.ret ?_|refine Ex.exit ?_); try dsimp only)|((first|(refine xI ?_; intro _ _)|refine xL ?_|(refine xB ?_; intro _ _)|refine xG ?_|refine xS ?_|refine xM ?_|(refine xC ?_; intro _ _)|refine xW ?_); try simp only [sA])|refine Ex.seq ?_|refine Ex.reg ?_|refine Ex.block ?_|refine eT ?_|refine eF ?_|simp only [reduceCtorEq, AEx.ex.injEq, Nat.reduceEqDiff, if_true, if_false])))
    simp [evRes, evRes1, one, AV.names, takeCells]
end Go.Proofs.Ytoefpcpijolofaa
end
section
namespace Go.Proofs.Ytoefpcpijolofaa
open Go.RowKit
set_option linter.unusedVariables false
set_option linter.unusedSimpArgs false
set_option maxRecDepth 10000
set_option maxHeartbeats 4000000

theorem checkLoad_ok (len wid front rear turn kilos mid high pt klo khi tlo thi kind watts : Int) (hl : LOk ⟨len, wid, front, rear, turn, kilos, mid, high⟩ ⟨pt, klo, khi, tlo, thi, kind, watts⟩) (L : AV) (ls : List Ld) (hL : isLds L ls) : Does Try.prog 81 [.agg [.int .i64 len, .int .i64 wid, .int .i64 front, .int .i64 rear, .int .i64 turn, .int .i64 kilos, .int .i64 mid, .int .i64 high, L], .agg [.int .i64 pt, .int .i64 klo, .int .i64 khi, .int .i64 tlo, .int .i64 thi, .int .i64 kind, .int .i64 watts]] [] fun v c' => v = .int .i64 0 ∧ c' = [] := by
  unfold LOk at hl
  simp only [] at hl
  obtain ⟨p1, p2, p3, p4, p5, p6, p7, p8, p9, p10, p11, p12, p13⟩ := hl
  rcases hL with ⟨tk, rfl⟩ | ⟨rfl, rfl⟩
  · refine Does.of comp81 ?_
    unfold F81
    simp only [start, List.length_cons, List.length_nil, List.replicate, List.cons_append, List.nil_append, Nat.reduceAdd, Nat.reduceSub]
    (repeat (first|((first|refine ExO.nil ?_|refine Ex.skip ?_|refine Ex.ret ?_|refine Ex.exit ?_); try dsimp only)|((first|(refine xI ?_; intro _ _)|refine xL ?_|(refine xB ?_; intro _ _)|refine xG ?_|refine xS ?_|refine xM ?_|(refine xC ?_; intro _ _)|refine xW ?_); try simp only [sA])|refine Ex.seq ?_|refine Ex.reg ?_|refine Ex.block ?_|refine eT ?_|refine eF ?_|simp only [reduceCtorEq, AEx.ex.injEq, Nat.reduceEqDiff, if_true, if_false]))
    (refine ExO.call (f := (69)) (xs := ([.int .i64 (pt), .int .i64 (front), .int .i64 (rear)])) (ys := ([.int .i64 (pt), .int .i64 (front), .int .i64 (rear)])) (bs := ([])) (cells := ([])) (by rfl) (by rfl) (by rfl) (by first | rfl | simp [ren, ren1, AV.plain, AV.plain1, AV.clean, cleanL, clean_lds, cleanL_append]) (by rfl) (by first | rfl | simp [ren, ren1, AV.plain, AV.plain1, AV.clean, cleanL, clean_lds, cleanL_append]) ((within_ok (pt) (front) (rear) (by omega) (by omega))) ?_; rintro v c' ⟨rfl, rfl⟩; refine ⟨_, rfl, rfl, ?_⟩; simp only [List.map_cons, List.map_nil, putA, List.set_cons_zero, List.set_cons_succ, AV.plain, AV.plain1, setAll, List.length_cons, List.length_nil, List.drop_succ_cons, List.drop_zero, List.drop_nil, List.append_nil, Nat.reduceAdd]; (repeat (first|((first|refine ExO.nil ?_|refine Ex.skip ?_|refine Ex.ret ?_|refine Ex.exit ?_); try dsimp only)|((first|(refine xI ?_; intro _ _)|refine xL ?_|(refine xB ?_; intro _ _)|refine xG ?_|refine xS ?_|refine xM ?_|(refine xC ?_; intro _ _)|refine xW ?_); try simp only [sA])|refine Ex.seq ?_|refine Ex.reg ?_|refine Ex.block ?_|refine eT ?_|refine eF ?_|simp only [reduceCtorEq, AEx.ex.injEq, Nat.reduceEqDiff, if_true, if_false])))
    (refine ExO.call (f := (93)) (xs := ([.agg [.int .i64 klo, .int .i64 khi], .int .i64 100000])) (ys := ([.agg [.int .i64 klo, .int .i64 khi], .int .i64 100000])) (bs := ([])) (cells := ([])) (by rfl) (by rfl) (by rfl) (by first | rfl | simp [ren, ren1, AV.plain, AV.plain1, AV.clean, cleanL, clean_lds, cleanL_append]) (by rfl) (by first | rfl | simp [ren, ren1, AV.plain, AV.plain1, AV.clean, cleanL, clean_lds, cleanL_append]) ((checkSpan_ok klo khi 100000 (by omega) (by omega) (by omega))) ?_; rintro v c' ⟨rfl, rfl⟩; refine ⟨_, rfl, rfl, ?_⟩; simp only [List.map_cons, List.map_nil, putA, List.set_cons_zero, List.set_cons_succ, AV.plain, AV.plain1, setAll, List.length_cons, List.length_nil, List.drop_succ_cons, List.drop_zero, List.drop_nil, List.append_nil, Nat.reduceAdd]; (repeat (first|((first|refine ExO.nil ?_|refine Ex.skip ?_|refine Ex.ret ?_|refine Ex.exit ?_); try dsimp only)|((first|(refine xI ?_; intro _ _)|refine xL ?_|(refine xB ?_; intro _ _)|refine xG ?_|refine xS ?_|refine xM ?_|(refine xC ?_; intro _ _)|refine xW ?_); try simp only [sA])|refine Ex.seq ?_|refine Ex.reg ?_|refine Ex.block ?_|refine eT ?_|refine eF ?_|simp only [reduceCtorEq, AEx.ex.injEq, Nat.reduceEqDiff, if_true, if_false])))
    (refine ExO.call (f := (93)) (xs := ([.agg [.int .i64 tlo, .int .i64 thi], .int .i64 2000])) (ys := ([.agg [.int .i64 tlo, .int .i64 thi], .int .i64 2000])) (bs := ([])) (cells := ([])) (by rfl) (by rfl) (by rfl) (by first | rfl | simp [ren, ren1, AV.plain, AV.plain1, AV.clean, cleanL, clean_lds, cleanL_append]) (by rfl) (by first | rfl | simp [ren, ren1, AV.plain, AV.plain1, AV.clean, cleanL, clean_lds, cleanL_append]) ((checkSpan_ok tlo thi 2000 (by omega) (by omega) (by omega))) ?_; rintro v c' ⟨rfl, rfl⟩; refine ⟨_, rfl, rfl, ?_⟩; simp only [List.map_cons, List.map_nil, putA, List.set_cons_zero, List.set_cons_succ, AV.plain, AV.plain1, setAll, List.length_cons, List.length_nil, List.drop_succ_cons, List.drop_zero, List.drop_nil, List.append_nil, Nat.reduceAdd]; (repeat (first|((first|refine ExO.nil ?_|refine Ex.skip ?_|refine Ex.ret ?_|refine Ex.exit ?_); try dsimp only)|((first|(refine xI ?_; intro _ _)|refine xL ?_|(refine xB ?_; intro _ _)|refine xG ?_|refine xS ?_|refine xM ?_|(refine xC ?_; intro _ _)|refine xW ?_); try simp only [sA])|refine Ex.seq ?_|refine Ex.reg ?_|refine Ex.block ?_|refine eT ?_|refine eF ?_|simp only [reduceCtorEq, AEx.ex.injEq, Nat.reduceEqDiff, if_true, if_false])))
    (refine ExO.call (f := (69)) (xs := ([.int .i64 (kind), .int .i64 (1), .int .i64 (4)])) (ys := ([.int .i64 (kind), .int .i64 (1), .int .i64 (4)])) (bs := ([])) (cells := ([])) (by rfl) (by rfl) (by rfl) (by first | rfl | simp [ren, ren1, AV.plain, AV.plain1, AV.clean, cleanL, clean_lds, cleanL_append]) (by rfl) (by first | rfl | simp [ren, ren1, AV.plain, AV.plain1, AV.clean, cleanL, clean_lds, cleanL_append]) ((within_ok (kind) (1) (4) (by omega) (by omega))) ?_; rintro v c' ⟨rfl, rfl⟩; refine ⟨_, rfl, rfl, ?_⟩; simp only [List.map_cons, List.map_nil, putA, List.set_cons_zero, List.set_cons_succ, AV.plain, AV.plain1, setAll, List.length_cons, List.length_nil, List.drop_succ_cons, List.drop_zero, List.drop_nil, List.append_nil, Nat.reduceAdd]; (repeat (first|((first|refine ExO.nil ?_|refine Ex.skip ?_|refine Ex.ret ?_|refine Ex.exit ?_); try dsimp only)|((first|(refine xI ?_; intro _ _)|refine xL ?_|(refine xB ?_; intro _ _)|refine xG ?_|refine xS ?_|refine xM ?_|(refine xC ?_; intro _ _)|refine xW ?_); try simp only [sA])|refine Ex.seq ?_|refine Ex.reg ?_|refine Ex.block ?_|refine eT ?_|refine eF ?_|simp only [reduceCtorEq, AEx.ex.injEq, Nat.reduceEqDiff, if_true, if_false])))
    (refine ExO.call (f := (69)) (xs := ([.int .i64 (watts), .int .i64 (0), .int .i64 (1000000)])) (ys := ([.int .i64 (watts), .int .i64 (0), .int .i64 (1000000)])) (bs := ([])) (cells := ([])) (by rfl) (by rfl) (by rfl) (by first | rfl | simp [ren, ren1, AV.plain, AV.plain1, AV.clean, cleanL, clean_lds, cleanL_append]) (by rfl) (by first | rfl | simp [ren, ren1, AV.plain, AV.plain1, AV.clean, cleanL, clean_lds, cleanL_append]) ((within_ok (watts) (0) (1000000) (by omega) (by omega))) ?_; rintro v c' ⟨rfl, rfl⟩; refine ⟨_, rfl, rfl, ?_⟩; simp only [List.map_cons, List.map_nil, putA, List.set_cons_zero, List.set_cons_succ, AV.plain, AV.plain1, setAll, List.length_cons, List.length_nil, List.drop_succ_cons, List.drop_zero, List.drop_nil, List.append_nil, Nat.reduceAdd]; (repeat (first|((first|refine ExO.nil ?_|refine Ex.skip ?_|refine Ex.ret ?_|refine Ex.exit ?_); try dsimp only)|((first|(refine xI ?_; intro _ _)|refine xL ?_|(refine xB ?_; intro _ _)|refine xG ?_|refine xS ?_|refine xM ?_|(refine xC ?_; intro _ _)|refine xW ?_); try simp only [sA])|refine Ex.seq ?_|refine Ex.reg ?_|refine Ex.block ?_|refine eT ?_|refine eF ?_|simp only [reduceCtorEq, AEx.ex.injEq, Nat.reduceEqDiff, if_true, if_false])))
    rename_i c hc
    cases c
    · (repeat (first|((first|refine ExO.nil ?_|refine Ex.skip ?_|refine Ex.ret ?_|refine Ex.exit ?_); try dsimp only)|((first|(refine xI ?_; intro _ _)|refine xL ?_|(refine xB ?_; intro _ _)|refine xG ?_|refine xS ?_|refine xM ?_|(refine xC ?_; intro _ _)|refine xW ?_); try simp only [sA])|refine Ex.seq ?_|refine Ex.reg ?_|refine Ex.block ?_|refine eT ?_|refine eF ?_|simp only [reduceCtorEq, AEx.ex.injEq, Nat.reduceEqDiff, if_true, if_false]))
      simp [evRes, evRes1, one, AV.names, takeCells]
    · have hw : 0 < watts := by have := hc.symm; simpa using this
      have hk : kind = 2 ∨ kind = 3 := by rcases p13 with h | h; omega; exact h
      rcases hk with rfl | rfl
      · (repeat (first|((first|refine ExO.nil ?_|refine Ex.skip ?_|refine Ex.ret ?_|refine Ex.exit ?_); try dsimp only)|((first|(refine xI ?_; intro _ _)|refine xL ?_|(refine xB ?_; intro _ _)|refine xG ?_|refine xS ?_|refine xM ?_|(refine xC ?_; intro _ _)|refine xW ?_); try simp only [sA])|refine Ex.seq ?_|refine Ex.reg ?_|refine Ex.block ?_|refine eT ?_|refine eF ?_|simp only [reduceCtorEq, AEx.ex.injEq, Nat.reduceEqDiff, if_true, if_false]))
        simp [evRes, evRes1, one, AV.names, takeCells]
      · (repeat (first|((first|refine ExO.nil ?_|refine Ex.skip ?_|refine Ex.ret ?_|refine Ex.exit ?_); try dsimp only)|((first|(refine xI ?_; intro _ _)|refine xL ?_|(refine xB ?_; intro _ _)|refine xG ?_|refine xS ?_|refine xM ?_|(refine xC ?_; intro _ _)|refine xW ?_); try simp only [sA])|refine Ex.seq ?_|refine Ex.reg ?_|refine Ex.block ?_|refine eT ?_|refine eF ?_|simp only [reduceCtorEq, AEx.ex.injEq, Nat.reduceEqDiff, if_true, if_false]))
        simp [evRes, evRes1, one, AV.names, takeCells]
  · refine Does.of comp81 ?_
    unfold F81
    simp only [start, List.length_cons, List.length_nil, List.replicate, List.cons_append, List.nil_append, Nat.reduceAdd, Nat.reduceSub]
    (repeat (first|((first|refine ExO.nil ?_|refine Ex.skip ?_|refine Ex.ret ?_|refine Ex.exit ?_); try dsimp only)|((first|(refine xI ?_; intro _ _)|refine xL ?_|(refine xB ?_; intro _ _)|refine xG ?_|refine xS ?_|refine xM ?_|(refine xC ?_; intro _ _)|refine xW ?_); try simp only [sA])|refine Ex.seq ?_|refine Ex.reg ?_|refine Ex.block ?_|refine eT ?_|refine eF ?_|simp only [reduceCtorEq, AEx.ex.injEq, Nat.reduceEqDiff, if_true, if_false]))
    (refine ExO.call (f := (69)) (xs := ([.int .i64 (pt), .int .i64 (front), .int .i64 (rear)])) (ys := ([.int .i64 (pt), .int .i64 (front), .int .i64 (rear)])) (bs := ([])) (cells := ([])) (by rfl) (by rfl) (by rfl) (by first | rfl | simp [ren, ren1, AV.plain, AV.plain1, AV.clean, cleanL, clean_lds, cleanL_append]) (by rfl) (by first | rfl | simp [ren, ren1, AV.plain, AV.plain1, AV.clean, cleanL, clean_lds, cleanL_append]) ((within_ok (pt) (front) (rear) (by omega) (by omega))) ?_; rintro v c' ⟨rfl, rfl⟩; refine ⟨_, rfl, rfl, ?_⟩; simp only [List.map_cons, List.map_nil, putA, List.set_cons_zero, List.set_cons_succ, AV.plain, AV.plain1, setAll, List.length_cons, List.length_nil, List.drop_succ_cons, List.drop_zero, List.drop_nil, List.append_nil, Nat.reduceAdd]; (repeat (first|((first|refine ExO.nil ?_|refine Ex.skip ?_|refine Ex.ret ?_|refine Ex.exit ?_); try dsimp only)|((first|(refine xI ?_; intro _ _)|refine xL ?_|(refine xB ?_; intro _ _)|refine xG ?_|refine xS ?_|refine xM ?_|(refine xC ?_; intro _ _)|refine xW ?_); try simp only [sA])|refine Ex.seq ?_|refine Ex.reg ?_|refine Ex.block ?_|refine eT ?_|refine eF ?_|simp only [reduceCtorEq, AEx.ex.injEq, Nat.reduceEqDiff, if_true, if_false])))
    (refine ExO.call (f := (93)) (xs := ([.agg [.int .i64 klo, .int .i64 khi], .int .i64 100000])) (ys := ([.agg [.int .i64 klo, .int .i64 khi], .int .i64 100000])) (bs := ([])) (cells := ([])) (by rfl) (by rfl) (by rfl) (by first | rfl | simp [ren, ren1, AV.plain, AV.plain1, AV.clean, cleanL, clean_lds, cleanL_append]) (by rfl) (by first | rfl | simp [ren, ren1, AV.plain, AV.plain1, AV.clean, cleanL, clean_lds, cleanL_append]) ((checkSpan_ok klo khi 100000 (by omega) (by omega) (by omega))) ?_; rintro v c' ⟨rfl, rfl⟩; refine ⟨_, rfl, rfl, ?_⟩; simp only [List.map_cons, List.map_nil, putA, List.set_cons_zero, List.set_cons_succ, AV.plain, AV.plain1, setAll, List.length_cons, List.length_nil, List.drop_succ_cons, List.drop_zero, List.drop_nil, List.append_nil, Nat.reduceAdd]; (repeat (first|((first|refine ExO.nil ?_|refine Ex.skip ?_|refine Ex.ret ?_|refine Ex.exit ?_); try dsimp only)|((first|(refine xI ?_; intro _ _)|refine xL ?_|(refine xB ?_; intro _ _)|refine xG ?_|refine xS ?_|refine xM ?_|(refine xC ?_; intro _ _)|refine xW ?_); try simp only [sA])|refine Ex.seq ?_|refine Ex.reg ?_|refine Ex.block ?_|refine eT ?_|refine eF ?_|simp only [reduceCtorEq, AEx.ex.injEq, Nat.reduceEqDiff, if_true, if_false])))
    (refine ExO.call (f := (93)) (xs := ([.agg [.int .i64 tlo, .int .i64 thi], .int .i64 2000])) (ys := ([.agg [.int .i64 tlo, .int .i64 thi], .int .i64 2000])) (bs := ([])) (cells := ([])) (by rfl) (by rfl) (by rfl) (by first | rfl | simp [ren, ren1, AV.plain, AV.plain1, AV.clean, cleanL, clean_lds, cleanL_append]) (by rfl) (by first | rfl | simp [ren, ren1, AV.plain, AV.plain1, AV.clean, cleanL, clean_lds, cleanL_append]) ((checkSpan_ok tlo thi 2000 (by omega) (by omega) (by omega))) ?_; rintro v c' ⟨rfl, rfl⟩; refine ⟨_, rfl, rfl, ?_⟩; simp only [List.map_cons, List.map_nil, putA, List.set_cons_zero, List.set_cons_succ, AV.plain, AV.plain1, setAll, List.length_cons, List.length_nil, List.drop_succ_cons, List.drop_zero, List.drop_nil, List.append_nil, Nat.reduceAdd]; (repeat (first|((first|refine ExO.nil ?_|refine Ex.skip ?_|refine Ex.ret ?_|refine Ex.exit ?_); try dsimp only)|((first|(refine xI ?_; intro _ _)|refine xL ?_|(refine xB ?_; intro _ _)|refine xG ?_|refine xS ?_|refine xM ?_|(refine xC ?_; intro _ _)|refine xW ?_); try simp only [sA])|refine Ex.seq ?_|refine Ex.reg ?_|refine Ex.block ?_|refine eT ?_|refine eF ?_|simp only [reduceCtorEq, AEx.ex.injEq, Nat.reduceEqDiff, if_true, if_false])))
    (refine ExO.call (f := (69)) (xs := ([.int .i64 (kind), .int .i64 (1), .int .i64 (4)])) (ys := ([.int .i64 (kind), .int .i64 (1), .int .i64 (4)])) (bs := ([])) (cells := ([])) (by rfl) (by rfl) (by rfl) (by first | rfl | simp [ren, ren1, AV.plain, AV.plain1, AV.clean, cleanL, clean_lds, cleanL_append]) (by rfl) (by first | rfl | simp [ren, ren1, AV.plain, AV.plain1, AV.clean, cleanL, clean_lds, cleanL_append]) ((within_ok (kind) (1) (4) (by omega) (by omega))) ?_; rintro v c' ⟨rfl, rfl⟩; refine ⟨_, rfl, rfl, ?_⟩; simp only [List.map_cons, List.map_nil, putA, List.set_cons_zero, List.set_cons_succ, AV.plain, AV.plain1, setAll, List.length_cons, List.length_nil, List.drop_succ_cons, List.drop_zero, List.drop_nil, List.append_nil, Nat.reduceAdd]; (repeat (first|((first|refine ExO.nil ?_|refine Ex.skip ?_|refine Ex.ret ?_|refine Ex.exit ?_); try dsimp only)|((first|(refine xI ?_; intro _ _)|refine xL ?_|(refine xB ?_; intro _ _)|refine xG ?_|refine xS ?_|refine xM ?_|(refine xC ?_; intro _ _)|refine xW ?_); try simp only [sA])|refine Ex.seq ?_|refine Ex.reg ?_|refine Ex.block ?_|refine eT ?_|refine eF ?_|simp only [reduceCtorEq, AEx.ex.injEq, Nat.reduceEqDiff, if_true, if_false])))
    (refine ExO.call (f := (69)) (xs := ([.int .i64 (watts), .int .i64 (0), .int .i64 (1000000)])) (ys := ([.int .i64 (watts), .int .i64 (0), .int .i64 (1000000)])) (bs := ([])) (cells := ([])) (by rfl) (by rfl) (by rfl) (by first | rfl | simp [ren, ren1, AV.plain, AV.plain1, AV.clean, cleanL, clean_lds, cleanL_append]) (by rfl) (by first | rfl | simp [ren, ren1, AV.plain, AV.plain1, AV.clean, cleanL, clean_lds, cleanL_append]) ((within_ok (watts) (0) (1000000) (by omega) (by omega))) ?_; rintro v c' ⟨rfl, rfl⟩; refine ⟨_, rfl, rfl, ?_⟩; simp only [List.map_cons, List.map_nil, putA, List.set_cons_zero, List.set_cons_succ, AV.plain, AV.plain1, setAll, List.length_cons, List.length_nil, List.drop_succ_cons, List.drop_zero, List.drop_nil, List.append_nil, Nat.reduceAdd]; (repeat (first|((first|refine ExO.nil ?_|refine Ex.skip ?_|refine Ex.ret ?_|refine Ex.exit ?_); try dsimp only)|((first|(refine xI ?_; intro _ _)|refine xL ?_|(refine xB ?_; intro _ _)|refine xG ?_|refine xS ?_|refine xM ?_|(refine xC ?_; intro _ _)|refine xW ?_); try simp only [sA])|refine Ex.seq ?_|refine Ex.reg ?_|refine Ex.block ?_|refine eT ?_|refine eF ?_|simp only [reduceCtorEq, AEx.ex.injEq, Nat.reduceEqDiff, if_true, if_false])))
    rename_i c hc
    cases c
    · (repeat (first|((first|refine ExO.nil ?_|refine Ex.skip ?_|refine Ex.ret ?_|refine Ex.exit ?_); try dsimp only)|((first|(refine xI ?_; intro _ _)|refine xL ?_|(refine xB ?_; intro _ _)|refine xG ?_|refine xS ?_|refine xM ?_|(refine xC ?_; intro _ _)|refine xW ?_); try simp only [sA])|refine Ex.seq ?_|refine Ex.reg ?_|refine Ex.block ?_|refine eT ?_|refine eF ?_|simp only [reduceCtorEq, AEx.ex.injEq, Nat.reduceEqDiff, if_true, if_false]))
      simp [evRes, evRes1, one, AV.names, takeCells]
    · have hw : 0 < watts := by have := hc.symm; simpa using this
      have hk : kind = 2 ∨ kind = 3 := by rcases p13 with h | h; omega; exact h
      rcases hk with rfl | rfl
      · (repeat (first|((first|refine ExO.nil ?_|refine Ex.skip ?_|refine Ex.ret ?_|refine Ex.exit ?_); try dsimp only)|((first|(refine xI ?_; intro _ _)|refine xL ?_|(refine xB ?_; intro _ _)|refine xG ?_|refine xS ?_|refine xM ?_|(refine xC ?_; intro _ _)|refine xW ?_); try simp only [sA])|refine Ex.seq ?_|refine Ex.reg ?_|refine Ex.block ?_|refine eT ?_|refine eF ?_|simp only [reduceCtorEq, AEx.ex.injEq, Nat.reduceEqDiff, if_true, if_false]))
        simp [evRes, evRes1, one, AV.names, takeCells]
      · (repeat (first|((first|refine ExO.nil ?_|refine Ex.skip ?_|refine Ex.ret ?_|refine Ex.exit ?_); try dsimp only)|((first|(refine xI ?_; intro _ _)|refine xL ?_|(refine xB ?_; intro _ _)|refine xG ?_|refine xS ?_|refine xM ?_|(refine xC ?_; intro _ _)|refine xW ?_); try simp only [sA])|refine Ex.seq ?_|refine Ex.reg ?_|refine Ex.block ?_|refine eT ?_|refine eF ?_|simp only [reduceCtorEq, AEx.ex.injEq, Nat.reduceEqDiff, if_true, if_false]))
        simp [evRes, evRes1, one, AV.names, takeCells]

theorem checkBend_ok (a b : Int) (h0 : 0 ≤ a) (h1 : a < b) (h2 : b ≤ 20000) : Does Try.prog 98 [.agg [.int .i64 1, .int .i64 a, .int .i64 b]] [] fun v c' => v = .int .i64 0 ∧ c' = [] := by
  refine Does.of comp98 ?_
  unfold F98
  simp only [start, List.length_cons, List.length_nil, List.replicate, List.cons_append, List.nil_append, Nat.reduceAdd, Nat.reduceSub]
  (repeat (first|((first|refine ExO.nil ?_|refine Ex.skip ?_|refine Ex.ret ?_|refine Ex.exit ?_); try dsimp only)|((first|(refine xI ?_; intro _ _)|refine xL ?_|(refine xB ?_; intro _ _)|refine xG ?_|refine xS ?_|refine xM ?_|(refine xC ?_; intro _ _)|refine xW ?_); try simp only [sA])|refine Ex.seq ?_|refine Ex.reg ?_|refine Ex.block ?_|refine eT ?_|refine eF ?_|simp only [reduceCtorEq, AEx.ex.injEq, Nat.reduceEqDiff, if_true, if_false]))
  (refine ExO.call (f := (69)) (xs := ([.int .i64 (a), .int .i64 (0), .int .i64 (20000)])) (ys := ([.int .i64 (a), .int .i64 (0), .int .i64 (20000)])) (bs := ([])) (cells := ([])) (by rfl) (by rfl) (by rfl) (by first | rfl | simp [ren, ren1, AV.plain, AV.plain1, AV.clean, cleanL, clean_lds, cleanL_append]) (by rfl) (by first | rfl | simp [ren, ren1, AV.plain, AV.plain1, AV.clean, cleanL, clean_lds, cleanL_append]) ((within_ok (a) (0) (20000) (by omega) (by omega))) ?_; rintro v c' ⟨rfl, rfl⟩; refine ⟨_, rfl, rfl, ?_⟩; simp only [List.map_cons, List.map_nil, putA, List.set_cons_zero, List.set_cons_succ, AV.plain, AV.plain1, setAll, List.length_cons, List.length_nil, List.drop_succ_cons, List.drop_zero, List.drop_nil, List.append_nil, Nat.reduceAdd]; (repeat (first|((first|refine ExO.nil ?_|refine Ex.skip ?_|refine Ex.ret ?_|refine Ex.exit ?_); try dsimp only)|((first|(refine xI ?_; intro _ _)|refine xL ?_|(refine xB ?_; intro _ _)|refine xG ?_|refine xS ?_|refine xM ?_|(refine xC ?_; intro _ _)|refine xW ?_); try simp only [sA])|refine Ex.seq ?_|refine Ex.reg ?_|refine Ex.block ?_|refine eT ?_|refine eF ?_|simp only [reduceCtorEq, AEx.ex.injEq, Nat.reduceEqDiff, if_true, if_false])))
  (refine ExO.call (f := (69)) (xs := ([.int .i64 (b), .int .i64 (0), .int .i64 (20000)])) (ys := ([.int .i64 (b), .int .i64 (0), .int .i64 (20000)])) (bs := ([])) (cells := ([])) (by rfl) (by rfl) (by rfl) (by first | rfl | simp [ren, ren1, AV.plain, AV.plain1, AV.clean, cleanL, clean_lds, cleanL_append]) (by rfl) (by first | rfl | simp [ren, ren1, AV.plain, AV.plain1, AV.clean, cleanL, clean_lds, cleanL_append]) ((within_ok (b) (0) (20000) (by omega) (by omega))) ?_; rintro v c' ⟨rfl, rfl⟩; refine ⟨_, rfl, rfl, ?_⟩; simp only [List.map_cons, List.map_nil, putA, List.set_cons_zero, List.set_cons_succ, AV.plain, AV.plain1, setAll, List.length_cons, List.length_nil, List.drop_succ_cons, List.drop_zero, List.drop_nil, List.append_nil, Nat.reduceAdd]; (repeat (first|((first|refine ExO.nil ?_|refine Ex.skip ?_|refine Ex.ret ?_|refine Ex.exit ?_); try dsimp only)|((first|(refine xI ?_; intro _ _)|refine xL ?_|(refine xB ?_; intro _ _)|refine xG ?_|refine xS ?_|refine xM ?_|(refine xC ?_; intro _ _)|refine xW ?_); try simp only [sA])|refine Ex.seq ?_|refine Ex.reg ?_|refine Ex.block ?_|refine eT ?_|refine eF ?_|simp only [reduceCtorEq, AEx.ex.injEq, Nat.reduceEqDiff, if_true, if_false])))
  (rename_i m hm; have hm2 : m = false := (by rw [hm]; simp; try omega); clear hm; subst hm2; (repeat (first|((first|refine ExO.nil ?_|refine Ex.skip ?_|refine Ex.ret ?_|refine Ex.exit ?_); try dsimp only)|((first|(refine xI ?_; intro _ _)|refine xL ?_|(refine xB ?_; intro _ _)|refine xG ?_|refine xS ?_|refine xM ?_|(refine xC ?_; intro _ _)|refine xW ?_); try simp only [sA])|refine Ex.seq ?_|refine Ex.reg ?_|refine Ex.block ?_|refine eT ?_|refine eF ?_|simp only [reduceCtorEq, AEx.ex.injEq, Nat.reduceEqDiff, if_true, if_false])))
  simp [evRes, evRes1, one, AV.names, takeCells]
theorem checkHurdle_ok (a b : Int) (h0 : 0 ≤ a) (h1 : a < b) (h2 : b ≤ 20000) : Does Try.prog 94 [.agg [.int .i64 1, .int .i64 a, .int .i64 b]] [] fun v c' => v = .int .i64 0 ∧ c' = [] := by
  refine Does.of comp94 ?_
  unfold F94
  simp only [start, List.length_cons, List.length_nil, List.replicate, List.cons_append, List.nil_append, Nat.reduceAdd, Nat.reduceSub]
  (repeat (first|((first|refine ExO.nil ?_|refine Ex.skip ?_|refine Ex.ret ?_|refine Ex.exit ?_); try dsimp only)|((first|(refine xI ?_; intro _ _)|refine xL ?_|(refine xB ?_; intro _ _)|refine xG ?_|refine xS ?_|refine xM ?_|(refine xC ?_; intro _ _)|refine xW ?_); try simp only [sA])|refine Ex.seq ?_|refine Ex.reg ?_|refine Ex.block ?_|refine eT ?_|refine eF ?_|simp only [reduceCtorEq, AEx.ex.injEq, Nat.reduceEqDiff, if_true, if_false]))
  (refine ExO.call (f := (98)) (xs := ([.agg [.int .i64 1, .int .i64 a, .int .i64 b]])) (ys := ([.agg [.int .i64 1, .int .i64 a, .int .i64 b]])) (bs := ([])) (cells := ([])) (by rfl) (by rfl) (by rfl) (by first | rfl | simp [ren, ren1, AV.plain, AV.plain1, AV.clean, cleanL, clean_lds, cleanL_append]) (by rfl) (by first | rfl | simp [ren, ren1, AV.plain, AV.plain1, AV.clean, cleanL, clean_lds, cleanL_append]) ((checkBend_ok a b h0 h1 h2)) ?_; rintro v c' ⟨rfl, rfl⟩; refine ⟨_, rfl, rfl, ?_⟩; simp only [List.map_cons, List.map_nil, putA, List.set_cons_zero, List.set_cons_succ, AV.plain, AV.plain1, setAll, List.length_cons, List.length_nil, List.drop_succ_cons, List.drop_zero, List.drop_nil, List.append_nil, Nat.reduceAdd]; (repeat (first|((first|refine ExO.nil ?_|refine Ex.skip ?_|refine Ex.ret ?_|refine Ex.exit ?_); try dsimp only)|((first|(refine xI ?_; intro _ _)|refine xL ?_|(refine xB ?_; intro _ _)|refine xG ?_|refine xS ?_|refine xM ?_|(refine xC ?_; intro _ _)|refine xW ?_); try simp only [sA])|refine Ex.seq ?_|refine Ex.reg ?_|refine Ex.block ?_|refine eT ?_|refine eF ?_|simp only [reduceCtorEq, AEx.ex.injEq, Nat.reduceEqDiff, if_true, if_false])))
  simp [evRes, evRes1, one, AV.names, takeCells]

def Bd.av (p : Int × Int) : AV := .agg [.int .i64 1, .int .i64 p.1, .int .i64 p.2]
theorem Bd.av_cells (a b : Int) : (Bd.av (a, b)).cells = [.int .i64 1, .int .i64 a, .int .i64 b] := rfl
theorem Bd.av_len (p : Int × Int) : (Bd.av p).cells.length = 3 := rfl

theorem Ld.av_cells (a b c d e f g : Int) : (Ld.av ⟨a, b, c, d, e, f, g⟩).cells = [.int .i64 a, .int .i64 b, .int .i64 c, .int .i64 d, .int .i64 e, .int .i64 f, .int .i64 g] := rfl
def inLds (L : AV) (ls : List Ld) : Prop := L = .sl (ls.map Ld.av) none ∨ (L = .nils ∧ ls = [])
theorem check_ok (len wid front rear turn kilos mid high : Int) (hF : FOk ⟨len, wid, front, rear, turn, kilos, mid, high⟩) (L : AV) (ls : List Ld) (hL : inLds L ls) (hlen : ls.length ≤ 20) (hall : ∀ l ∈ ls, LOk ⟨len, wid, front, rear, turn, kilos, mid, high⟩ l) : Does Try.prog 53 [.agg [.int .i64 len, .int .i64 wid, .int .i64 front, .int .i64 rear, .int .i64 turn, .int .i64 kilos, .int .i64 mid, .int .i64 high, L]] [] fun v c' => v = .int .i64 0 ∧ c' = [] := by
  rcases hL with rfl | ⟨rfl, rfl⟩
  · refine Does.of comp53 ?_
    unfold F53
    simp only [start, List.length_cons, List.length_nil, List.replicate, List.cons_append, List.nil_append, Nat.reduceAdd, Nat.reduceSub]
    (repeat (first|((first|refine ExO.nil ?_|refine Ex.skip ?_|refine Ex.ret ?_|refine Ex.exit ?_); try dsimp only)|((first|(refine xI ?_; intro _ _)|refine xL ?_|(refine xB ?_; intro _ _)|refine xG ?_|refine xS ?_|refine xM ?_|(refine xC ?_; intro _ _)|refine xW ?_); try simp only [sA])|refine Ex.seq ?_|refine Ex.reg ?_|refine Ex.block ?_|refine eT ?_|refine eF ?_|simp only [reduceCtorEq, AEx.ex.injEq, Nat.reduceEqDiff, if_true, if_false]))
    (refine ExO.call (f := (80)) (xs := ([.agg [.int .i64 len, .int .i64 wid, .int .i64 front, .int .i64 rear, .int .i64 turn, .int .i64 kilos, .int .i64 mid, .int .i64 high, .sl (ls.map Ld.av) none]])) (ys := ([.agg [.int .i64 len, .int .i64 wid, .int .i64 front, .int .i64 rear, .int .i64 turn, .int .i64 kilos, .int .i64 mid, .int .i64 high, .sl (ls.map Ld.av) none]])) (bs := ([])) (cells := ([])) (by rfl) (by rfl) (by rfl) (by first | rfl | simp [ren, ren1, AV.plain, AV.plain1, AV.clean, cleanL, clean_lds, cleanL_append]) (by rfl) (by first | rfl | simp [ren, ren1, AV.plain, AV.plain1, AV.clean, cleanL, clean_lds, cleanL_append]) ((checkFrame_ok len wid front rear turn kilos mid high hF (.sl (ls.map Ld.av) none) ls (.inl ⟨_, rfl⟩))) ?_; rintro v c' ⟨rfl, rfl⟩; refine ⟨_, rfl, rfl, ?_⟩; simp only [List.map_cons, List.map_nil, putA, List.set_cons_zero, List.set_cons_succ, AV.plain, AV.plain1, setAll, List.length_cons, List.length_nil, List.drop_succ_cons, List.drop_zero, List.drop_nil, List.append_nil, Nat.reduceAdd]; (repeat (first|((first|refine ExO.nil ?_|refine Ex.skip ?_|refine Ex.ret ?_|refine Ex.exit ?_); try dsimp only)|((first|(refine xI ?_; intro _ _)|refine xL ?_|(refine xB ?_; intro _ _)|refine xG ?_|refine xS ?_|refine xM ?_|(refine xC ?_; intro _ _)|refine xW ?_); try simp only [sA])|refine Ex.seq ?_|refine Ex.reg ?_|refine Ex.block ?_|refine eT ?_|refine eF ?_|simp only [reduceCtorEq, AEx.ex.injEq, Nat.reduceEqDiff, if_true, if_false])))
    (rename_i m hm; have hm2 : m = false := (by rw [hm]; simp; try omega); clear hm; subst hm2; (repeat (first|((first|refine ExO.nil ?_|refine Ex.skip ?_|refine Ex.ret ?_|refine Ex.exit ?_); try dsimp only)|((first|(refine xI ?_; intro _ _)|refine xL ?_|(refine xB ?_; intro _ _)|refine xG ?_|refine xS ?_|refine xM ?_|(refine xC ?_; intro _ _)|refine xW ?_); try simp only [sA])|refine Ex.seq ?_|refine Ex.reg ?_|refine Ex.block ?_|refine eT ?_|refine eF ?_|simp only [reduceCtorEq, AEx.ex.injEq, Nat.reduceEqDiff, if_true, if_false])))
    refine Ex.loopF (fun k a S => ∃ i, i ≤ ls.length ∧ k = ls.length - i ∧ a = [.junk, .ptr 0 0, .junk, .junk, .junk, .junk, .junk, .junk, .junk, .junk, .junk, .junk, .junk, .junk, .junk, .junk, .junk, .sl (ls.map Ld.av) none, .int .i64 ls.length, .int .i64 (i : Nat), .junk, .junk, .junk, .junk, .junk, .junk, .junk, .junk, .junk, .junk] ∧ S = ⟨[[.int .i64 len, .int .i64 wid, .int .i64 front, .int .i64 rear, .int .i64 turn, .int .i64 kilos, .int .i64 mid, .int .i64 high, .sl (ls.map Ld.av) none]], []⟩) ls.length ?_ ?_
    · refine ⟨_, _, forgets 1 [] ([false, true, false, false, false, false, false, false, false, false, false, false, false, false, false, false, false, true, true, true, false, false, false, false, false, false, false, false, false, false]) (by decide) (by simp) (bx2 := [[.int .i64 len, .int .i64 wid, .int .i64 front, .int .i64 rear, .int .i64 turn, .int .i64 kilos, .int .i64 mid, .int .i64 high, .sl (ls.map Ld.av) none]]) (by simp [re, re1, AV.clean, clean_lds]) (by rfl) (by decide), 0, by omega, by omega, ?_, by rfl⟩
      simp [keepS, re, re1, AV.clean, clean_lds]
    · rintro k a S ⟨i, hi, rfl, rfl, rfl⟩
      (repeat (first|((first|refine ExO.nil ?_|refine Ex.skip ?_|refine Ex.ret ?_|refine Ex.exit ?_); try dsimp only)|((first|(refine xI ?_; intro _ _)|refine xL ?_|(refine xB ?_; intro _ _)|refine xG ?_|refine xS ?_|refine xM ?_|(refine xC ?_; intro _ _)|refine xW ?_); try simp only [sA])|refine Ex.seq ?_|refine Ex.reg ?_|refine Ex.block ?_|refine eT ?_|refine eF ?_|simp only [reduceCtorEq, AEx.ex.injEq, Nat.reduceEqDiff, if_true, if_false]))
      rename_i c hc
      cases c
      · (refine Ex.cond (b := false) (by first | rfl | simp [evd]) ?_; simp only [Bool.false_eq_true, if_false])
        (repeat (first|((first|refine ExO.nil ?_|refine Ex.skip ?_|refine Ex.ret ?_|refine Ex.exit ?_); try dsimp only)|((first|(refine xI ?_; intro _ _)|refine xL ?_|(refine xB ?_; intro _ _)|refine xG ?_|refine xS ?_|refine xM ?_|(refine xC ?_; intro _ _)|refine xW ?_); try simp only [sA])|refine Ex.seq ?_|refine Ex.reg ?_|refine Ex.block ?_|refine eT ?_|refine eF ?_|simp only [reduceCtorEq, AEx.ex.injEq, Nat.reduceEqDiff, if_true, if_false]))
        simp [evRes, evRes1, one, AV.names, takeCells]
      · have hil : i < ls.length := by have := hc.symm; simpa using this
        have e1 : ls[i]? = some ls[i] := List.getElem?_eq_getElem hil
        have hl := hall ls[i] (List.getElem_mem hil)
        generalize ls[i] = l at e1 hl
        obtain ⟨pt, klo, khi, tlo, thi, kind, watts⟩ := l
        have l1 : (i : Int) < (ls.length : Int) := by omega
        (refine Ex.cond (b := true) (by first | rfl | simp [evd]) ?_; simp only [if_true])
        (repeat (first|((first|refine ExO.nil ?_|refine Ex.skip ?_|refine Ex.ret ?_|refine Ex.exit ?_); try dsimp only)|((first|(refine xI ?_; intro _ _)|refine xL ?_|(refine xB ?_; intro _ _)|refine xG ?_|refine xS ?_|refine xM ?_|(refine xC ?_; intro _ _)|refine xW ?_); try simp only [sA])|refine Ex.seq ?_|refine Ex.reg ?_|refine Ex.block ?_|refine eT ?_|refine eF ?_|simp only [reduceCtorEq, AEx.ex.injEq, Nat.reduceEqDiff, if_true, if_false]))
        (apply ExO.stG; (case hk => rfl); (case hv => (simp [vA, fRes_eq, e1, l1, Ld.av_cells]; first|done|exact ⟨⟨rfl,rfl⟩,rfl⟩|exact ⟨rfl,rfl⟩|exact rfl)); (try simp only [sA]))
        (repeat (first|((first|refine ExO.nil ?_|refine Ex.skip ?_|refine Ex.ret ?_|refine Ex.exit ?_); try dsimp only)|((first|(refine xI ?_; intro _ _)|refine xL ?_|(refine xB ?_; intro _ _)|refine xG ?_|refine xS ?_|refine xM ?_|(refine xC ?_; intro _ _)|refine xW ?_); try simp only [sA])|refine Ex.seq ?_|refine Ex.reg ?_|refine Ex.block ?_|refine eT ?_|refine eF ?_|simp only [reduceCtorEq, AEx.ex.injEq, Nat.reduceEqDiff, if_true, if_false]))
        (refine ExO.call (f := (81)) (xs := ([.agg [.int .i64 len, .int .i64 wid, .int .i64 front, .int .i64 rear, .int .i64 turn, .int .i64 kilos, .int .i64 mid, .int .i64 high, .sl (ls.map Ld.av) none], .agg [.int .i64 pt, .int .i64 klo, .int .i64 khi, .int .i64 tlo, .int .i64 thi, .int .i64 kind, .int .i64 watts]])) (ys := ([.agg [.int .i64 len, .int .i64 wid, .int .i64 front, .int .i64 rear, .int .i64 turn, .int .i64 kilos, .int .i64 mid, .int .i64 high, .sl (ls.map Ld.av) none], .agg [.int .i64 pt, .int .i64 klo, .int .i64 khi, .int .i64 tlo, .int .i64 thi, .int .i64 kind, .int .i64 watts]])) (bs := ([])) (cells := ([])) (by rfl) (by rfl) (by rfl) (by first | rfl | simp [ren, ren1, AV.plain, AV.plain1, AV.clean, cleanL, clean_lds, cleanL_append]) (by rfl) (by first | rfl | simp [ren, ren1, AV.plain, AV.plain1, AV.clean, cleanL, clean_lds, cleanL_append]) ((checkLoad_ok len wid front rear turn kilos mid high pt klo khi tlo thi kind watts hl (.sl (ls.map Ld.av) none) ls (.inl ⟨_, rfl⟩))) ?_; rintro v c' ⟨rfl, rfl⟩; refine ⟨_, rfl, rfl, ?_⟩; simp only [List.map_cons, List.map_nil, putA, List.set_cons_zero, List.set_cons_succ, AV.plain, AV.plain1, setAll, List.length_cons, List.length_nil, List.drop_succ_cons, List.drop_zero, List.drop_nil, List.append_nil, Nat.reduceAdd]; (repeat (first|((first|refine ExO.nil ?_|refine Ex.skip ?_|refine Ex.ret ?_|refine Ex.exit ?_); try dsimp only)|((first|(refine xI ?_; intro _ _)|refine xL ?_|(refine xB ?_; intro _ _)|refine xG ?_|refine xS ?_|refine xM ?_|(refine xC ?_; intro _ _)|refine xW ?_); try simp only [sA])|refine Ex.seq ?_|refine Ex.reg ?_|refine Ex.block ?_|refine eT ?_|refine eF ?_|simp only [reduceCtorEq, AEx.ex.injEq, Nat.reduceEqDiff, if_true, if_false])))
        rename_i m hm
        rw [i64_in (by omega) (by omega)] at hm
        have hm2 : m = ((i + 1 : Nat) : Int) := by omega
        subst hm2
        refine ⟨_, _, forgets 1 [] ([false, true, false, false, false, false, false, false, false, false, false, false, false, false, false, false, false, true, true, true, false, false, false, false, false, false, false, false, false, false]) (by decide) (by simp) (bx2 := [[.int .i64 len, .int .i64 wid, .int .i64 front, .int .i64 rear, .int .i64 turn, .int .i64 kilos, .int .i64 mid, .int .i64 high, .sl (ls.map Ld.av) none]]) (by simp [re, re1, AV.clean, clean_lds]) (by rfl) (by decide), ls.length - (i + 1), by omega, i + 1, by omega, rfl, ?_, by rfl⟩
        simp [keepS, re, re1, AV.clean, clean_lds]
  · refine Does.of comp53 ?_
    unfold F53
    simp only [start, List.length_cons, List.length_nil, List.replicate, List.cons_append, List.nil_append, Nat.reduceAdd, Nat.reduceSub]
    (repeat (first|((first|refine ExO.nil ?_|refine Ex.skip ?_|refine Ex.ret ?_|refine Ex.exit ?_); try dsimp only)|((first|(refine xI ?_; intro _ _)|refine xL ?_|(refine xB ?_; intro _ _)|refine xG ?_|refine xS ?_|refine xM ?_|(refine xC ?_; intro _ _)|refine xW ?_); try simp only [sA])|refine Ex.seq ?_|refine Ex.reg ?_|refine Ex.block ?_|refine eT ?_|refine eF ?_|simp only [reduceCtorEq, AEx.ex.injEq, Nat.reduceEqDiff, if_true, if_false]))
    (refine ExO.call (f := (80)) (xs := ([.agg [.int .i64 len, .int .i64 wid, .int .i64 front, .int .i64 rear, .int .i64 turn, .int .i64 kilos, .int .i64 mid, .int .i64 high, .nils]])) (ys := ([.agg [.int .i64 len, .int .i64 wid, .int .i64 front, .int .i64 rear, .int .i64 turn, .int .i64 kilos, .int .i64 mid, .int .i64 high, .nils]])) (bs := ([])) (cells := ([])) (by rfl) (by rfl) (by rfl) (by first | rfl | simp [ren, ren1, AV.plain, AV.plain1, AV.clean, cleanL, clean_lds, cleanL_append]) (by rfl) (by first | rfl | simp [ren, ren1, AV.plain, AV.plain1, AV.clean, cleanL, clean_lds, cleanL_append]) ((checkFrame_ok len wid front rear turn kilos mid high hF (.nils) [] (.inr ⟨rfl, rfl⟩))) ?_; rintro v c' ⟨rfl, rfl⟩; refine ⟨_, rfl, rfl, ?_⟩; simp only [List.map_cons, List.map_nil, putA, List.set_cons_zero, List.set_cons_succ, AV.plain, AV.plain1, setAll, List.length_cons, List.length_nil, List.drop_succ_cons, List.drop_zero, List.drop_nil, List.append_nil, Nat.reduceAdd]; (repeat (first|((first|refine ExO.nil ?_|refine Ex.skip ?_|refine Ex.ret ?_|refine Ex.exit ?_); try dsimp only)|((first|(refine xI ?_; intro _ _)|refine xL ?_|(refine xB ?_; intro _ _)|refine xG ?_|refine xS ?_|refine xM ?_|(refine xC ?_; intro _ _)|refine xW ?_); try simp only [sA])|refine Ex.seq ?_|refine Ex.reg ?_|refine Ex.block ?_|refine eT ?_|refine eF ?_|simp only [reduceCtorEq, AEx.ex.injEq, Nat.reduceEqDiff, if_true, if_false])))
    refine Ex.loopF (fun k a S => k = 0 ∧ a = [.junk, .ptr 0 0, .junk, .junk, .junk, .junk, .junk, .junk, .junk, .junk, .junk, .junk, .junk, .junk, .junk, .junk, .junk, .nils, .int .i64 0, .int .i64 0, .junk, .junk, .junk, .junk, .junk, .junk, .junk, .junk, .junk, .junk] ∧ S = ⟨[[.int .i64 len, .int .i64 wid, .int .i64 front, .int .i64 rear, .int .i64 turn, .int .i64 kilos, .int .i64 mid, .int .i64 high, .nils]], []⟩) 0 ?_ ?_
    · exact ⟨_, _, forgets 1 [] ([false, true, false, false, false, false, false, false, false, false, false, false, false, false, false, false, false, true, true, true, false, false, false, false, false, false, false, false, false, false]) (by decide) (by simp) (bx2 := [[.int .i64 len, .int .i64 wid, .int .i64 front, .int .i64 rear, .int .i64 turn, .int .i64 kilos, .int .i64 mid, .int .i64 high, .nils]]) (by simp [re, re1, AV.clean]) (by rfl) (by decide), rfl, by rfl, by rfl⟩
    · rintro k a S ⟨rfl, rfl, rfl⟩
      (repeat (first|((first|refine ExO.nil ?_|refine Ex.skip ?_|refine Ex.ret ?_|refine Ex.exit ?_); try dsimp only)|((first|(refine xI ?_; intro _ _)|refine xL ?_|(refine xB ?_; intro _ _)|refine xG ?_|refine xS ?_|refine xM ?_|(refine xC ?_; intro _ _)|refine xW ?_); try simp only [sA])|refine Ex.seq ?_|refine Ex.reg ?_|refine Ex.block ?_|refine eT ?_|refine eF ?_|simp only [reduceCtorEq, AEx.ex.injEq, Nat.reduceEqDiff, if_true, if_false]))
      simp [evRes, evRes1, one, AV.names, takeCells]
end Go.Proofs.Ytoefpcpijolofaa
end
section
namespace Go.Proofs.Ytoefpcpijolofaa
open Go.RowKit
set_option linter.unusedVariables false
set_option linter.unusedSimpArgs false

def dstOk (x : AOper) (n : Nat) : Bool := match x.dst with
  | some d => decide (d < n)
  | none => true
inductive DrO (X : Clr) (b0 k0 : Nat) (sts : List St) : List AOper → List AV → Nat → List Nat → List Nat → List AV → Prop
  | nil {a : List AV} {lv : Nat} {bs ts : List Nat} (h : lv + 1 = sts.length) : DrO X b0 k0 sts [] a lv bs ts a
  | pure {x : AOper} {l : List AOper} {a : List AV} {lv : Nat} {bs ts : List Nat} {a1 : List AV} (v : AV) (hw : wantedA x.guard a = some true) (hd : dstOk x a.length = true) (hv : ∀ st ∈ sts, aop x.op (evd a) st = some (.val v)) (h : DrO X b0 k0 sts l (putA a x.dst v) lv bs ts a1) : DrO X b0 k0 sts (x :: l) a lv bs ts a1
  | call {x : AOper} {l : List AOper} {a : List AV} {lv : Nat} {bs ts : List Nat} {a1 : List AV} (f : FuncId) (ys : List AV) (v : AV) (hw : wantedA x.guard a = some true) (hd : dstOk x a.length = true) (hv : ∀ st ∈ sts, aop x.op (evd a) st = some (.call f ys)) (hc : ∀ st ∈ sts, callS X f ys st = some (v, st)) (h : DrO X b0 k0 sts l (putA a x.dst v) lv bs ts a1) : DrO X b0 k0 sts (x :: l) a lv bs ts a1
  | row {x : AOper} {l : List AOper} {a : List AV} {lv : Nat} {bs ts : List Nat} {a1 : List AV} (t s : Nat) (els : List AV) (hw : wantedA x.guard a = some true) (hd : dstOk x a.length = true) (hv : ∀ st ∈ sts, aop x.op (evd a) st = some (.lit s els)) (hr : ∀ st ∈ sts, st.lv[t]? = some (els.length, s)) (ht : k0 ≤ t) (hn : t ∉ ts) (h : DrO X b0 k0 sts l (putA a x.dst (.sl els (some t))) lv bs (t :: ts) a1) : DrO X b0 k0 sts (x :: l) a lv bs ts a1
  | box {x : AOper} {l : List AOper} {a : List AV} {lv : Nat} {bs ts : List Nat} {a1 : List AV} (id : Nat) (cs : List AV) (hw : wantedA x.guard a = some true) (hd : dstOk x a.length = true) (hv : ∀ st ∈ sts, aop x.op (evd a) st = some (.box cs)) (hr : ∀ st ∈ sts, st.bx[id]? = some cs) (ht : b0 ≤ id) (hn : id ∉ bs) (h : DrO X b0 k0 sts l (putA a x.dst (.ptr id 0)) lv (id :: bs) ts a1) : DrO X b0 k0 sts (x :: l) a lv bs ts a1
  | eff {x : AOper} {l : List AOper} {a : List AV} {lv : Nat} {bs ts : List Nat} {a1 : List AV} (v : AV) (st st' : St) (hw : wantedA x.guard a = some true) (hd : dstOk x a.length = true) (hl : loudA x.op = true) (hs : sts[lv]? = some st) (hs' : sts[lv + 1]? = some st') (hv : evOp X x.op a st = some (v, st')) (h : DrO X b0 k0 sts l (putA a x.dst v) (lv + 1) bs ts a1) : DrO X b0 k0 sts (x :: l) a lv bs ts a1

def DrFact (X : Clr) (sts : List St) (a : List AV) (x : AOper) (lv : Nat) (v : AV) (eff : Bool) (bid tid : Option Nat) : Prop :=
  wantedA x.guard a = some true ∧ dstOk x a.length = true ∧
    ((eff = false ∧ bid = none ∧ tid = none ∧ ∀ st ∈ sts, aop x.op (evd a) st = some (.val v) ∨ ∃ f ys, aop x.op (evd a) st = some (.call f ys) ∧ callS X f ys st = some (v, st)) ∨
     (eff = false ∧ bid = none ∧ ∃ s els id, tid = some id ∧ v = .sl els (some id) ∧ ∀ st ∈ sts, aop x.op (evd a) st = some (.lit s els) ∧ st.lv[id]? = some (els.length, s)) ∨
     (eff = false ∧ tid = none ∧ ∃ cs id, bid = some id ∧ v = .ptr id 0 ∧ ∀ st ∈ sts, aop x.op (evd a) st = some (.box cs) ∧ st.bx[id]? = some cs) ∨
     (eff = true ∧ bid = none ∧ tid = none ∧ loudA x.op = true ∧ ∃ st st', sts[lv]? = some st ∧ sts[lv + 1]? = some st' ∧ evOp X x.op a st = some (v, st')))

theorem lvl_cons (f : Bool) (e : Nat → Bool) (i : Nat) : lvl (fun j => match j with | 0 => f | j + 1 => e j) (i + 1) = (if f then 1 else 0) + lvl e i := by
  unfold lvl
  rw [List.range_succ_eq_map, List.filter_cons]
  have e1 : ((List.range i).map Nat.succ).filter (fun j => match j with | 0 => f | j + 1 => e j) = ((List.range i).filter e).map Nat.succ := by
    rw [List.filter_map]
    congr 1
  rw [e1]
  cases f <;> simp; omega

theorem DrO.spec {X : Clr} {b0 k0 : Nat} {sts : List St} {l : List AOper} {a : List AV} {lv : Nat} {bs ts : List Nat} {a1 : List AV} (h : DrO X b0 k0 sts l a lv bs ts a1) :
    ∃ (am : Nat → List AV) (v : Nat → AV) (eff : Nat → Bool) (bid tid : Nat → Option Nat), am 0 = a ∧ am l.length = a1 ∧ lv + lvl eff l.length + 1 = sts.length ∧
      (∀ i x, l[i]? = some x → am (i + 1) = putA (am i) x.dst (v i) ∧ DrFact X sts (am i) x (lv + lvl eff i) (v i) (eff i) (bid i) (tid i)) ∧
      ((∀ i t, i < l.length → bid i = some t → b0 ≤ t ∧ t ∉ bs) ∧ (∀ i j t, i < l.length → j < l.length → bid i = some t → bid j = some t → i = j)) ∧
      ((∀ i t, i < l.length → tid i = some t → k0 ≤ t ∧ t ∉ ts) ∧ (∀ i j t, i < l.length → j < l.length → tid i = some t → tid j = some t → i = j)) := by
  induction h with
  | @nil a lv bs ts h =>
    exact ⟨fun _ => a, fun _ => .junk, fun _ => false, fun _ => none, fun _ => none, rfl, rfl, by simp [lvl]; omega, fun i x h => by simp at h, ⟨fun i t h => by simp at h, fun i j t h => by simp at h⟩, ⟨fun i t h => by simp at h, fun i j t h => by simp at h⟩⟩
  | @pure x l a lv bs ts a1 v hw hd hv h ih =>
    obtain ⟨am, vs, eff, bid, tid, i1, i2, i3, i4, i5, i6⟩ := ih
    refine ⟨fun i => match i with | 0 => a | i + 1 => am i, fun i => match i with | 0 => v | i + 1 => vs i, fun i => match i with | 0 => false | i + 1 => eff i, fun i => match i with | 0 => none | i + 1 => bid i, fun i => match i with | 0 => none | i + 1 => tid i, rfl, i2, ?_, ?_, ⟨fun i t hi ht => by
      cases i with
      | zero => cases ht
      | succ i => exact i5.1 i t (by simpa using hi) ht, fun i j t hi hj h1 h2 => by
      cases i with
      | zero => cases h1
      | succ i => cases j with
        | zero => cases h2
        | succ j => rw [i5.2 i j t (by simpa using hi) (by simpa using hj) h1 h2]⟩, ⟨fun i t hi ht => by
      cases i with
      | zero => cases ht
      | succ i => exact i6.1 i t (by simpa using hi) ht, fun i j t hi hj h1 h2 => by
      cases i with
      | zero => cases h1
      | succ i => cases j with
        | zero => cases h2
        | succ j => rw [i6.2 i j t (by simpa using hi) (by simpa using hj) h1 h2]⟩⟩
    · rw [List.length_cons, lvl_cons]; simpa using i3
    · intro i y hy
      cases i with
      | zero =>
        simp only [List.getElem?_cons_zero, Option.some.injEq] at hy
        subst hy
        exact ⟨i1, hw, hd, .inl ⟨rfl, rfl, rfl, fun st hs => .inl (hv st hs)⟩⟩
      | succ i =>
        rw [lvl_cons]
        simpa using i4 i y (by simpa using hy)
  | @call x l a lv bs ts a1 f ys v hw hd hv hc h ih =>
    obtain ⟨am, vs, eff, bid, tid, i1, i2, i3, i4, i5, i6⟩ := ih
    refine ⟨fun i => match i with | 0 => a | i + 1 => am i, fun i => match i with | 0 => v | i + 1 => vs i, fun i => match i with | 0 => false | i + 1 => eff i, fun i => match i with | 0 => none | i + 1 => bid i, fun i => match i with | 0 => none | i + 1 => tid i, rfl, i2, ?_, ?_, ⟨fun i t hi ht => by
      cases i with
      | zero => cases ht
      | succ i => exact i5.1 i t (by simpa using hi) ht, fun i j t hi hj h1 h2 => by
      cases i with
      | zero => cases h1
      | succ i => cases j with
        | zero => cases h2
        | succ j => rw [i5.2 i j t (by simpa using hi) (by simpa using hj) h1 h2]⟩, ⟨fun i t hi ht => by
      cases i with
      | zero => cases ht
      | succ i => exact i6.1 i t (by simpa using hi) ht, fun i j t hi hj h1 h2 => by
      cases i with
      | zero => cases h1
      | succ i => cases j with
        | zero => cases h2
        | succ j => rw [i6.2 i j t (by simpa using hi) (by simpa using hj) h1 h2]⟩⟩
    · rw [List.length_cons, lvl_cons]; simpa using i3
    · intro i y hy
      cases i with
      | zero =>
        simp only [List.getElem?_cons_zero, Option.some.injEq] at hy
        subst hy
        exact ⟨i1, hw, hd, .inl ⟨rfl, rfl, rfl, fun st hs => .inr ⟨f, ys, hv st hs, hc st hs⟩⟩⟩
      | succ i =>
        rw [lvl_cons]
        simpa using i4 i y (by simpa using hy)
  | @row x l a lv bs ts a1 id s els hw hd hv hr ht hn h ih =>
    obtain ⟨am, vs, eff, bid, tid, i1, i2, i3, i4, i5, i6⟩ := ih
    refine ⟨fun i => match i with | 0 => a | i + 1 => am i, fun i => match i with | 0 => .sl els (some id) | i + 1 => vs i, fun i => match i with | 0 => false | i + 1 => eff i, fun i => match i with | 0 => none | i + 1 => bid i, fun i => match i with | 0 => some id | i + 1 => tid i, rfl, i2, ?_, ?_, ⟨fun i t hi ht => by
      cases i with
      | zero => cases ht
      | succ i => exact i5.1 i t (by simpa using hi) ht, fun i j t hi hj h1 h2 => by
      cases i with
      | zero => cases h1
      | succ i => cases j with
        | zero => cases h2
        | succ j => rw [i5.2 i j t (by simpa using hi) (by simpa using hj) h1 h2]⟩, ⟨fun i t hi ht' => by
      cases i with
      | zero => cases ht'; exact ⟨ht, hn⟩
      | succ i =>
        obtain ⟨h1, h2⟩ := i6.1 i t (by simpa using hi) ht'
        exact ⟨h1, fun h => h2 (List.mem_cons_of_mem _ h)⟩, fun i j t hi hj h1 h2 => by
      cases i with
      | zero => cases j with
        | zero => rfl
        | succ j =>
          cases h1
          exact absurd (List.mem_cons_self ..) (i6.1 j id (by simpa using hj) h2).2
      | succ i => cases j with
        | zero =>
          cases h2
          exact absurd (List.mem_cons_self ..) (i6.1 i id (by simpa using hi) h1).2
        | succ j => rw [i6.2 i j t (by simpa using hi) (by simpa using hj) h1 h2]⟩⟩
    · rw [List.length_cons, lvl_cons]; simpa using i3
    · intro i y hy
      cases i with
      | zero =>
        simp only [List.getElem?_cons_zero, Option.some.injEq] at hy
        subst hy
        exact ⟨i1, hw, hd, .inr (.inl ⟨rfl, rfl, s, els, id, rfl, rfl, fun st hs => ⟨hv st hs, hr st hs⟩⟩)⟩
      | succ i =>
        rw [lvl_cons]
        simpa using i4 i y (by simpa using hy)
  | @box x l a lv bs ts a1 id cs hw hd hv hr ht hn h ih =>
    obtain ⟨am, vs, eff, bid, tid, i1, i2, i3, i4, i5, i6⟩ := ih
    refine ⟨fun i => match i with | 0 => a | i + 1 => am i, fun i => match i with | 0 => .ptr id 0 | i + 1 => vs i, fun i => match i with | 0 => false | i + 1 => eff i, fun i => match i with | 0 => some id | i + 1 => bid i, fun i => match i with | 0 => none | i + 1 => tid i, rfl, i2, ?_, ?_, ⟨fun i t hi ht' => by
      cases i with
      | zero => cases ht'; exact ⟨ht, hn⟩
      | succ i =>
        obtain ⟨h1, h2⟩ := i5.1 i t (by simpa using hi) ht'
        exact ⟨h1, fun h => h2 (List.mem_cons_of_mem _ h)⟩, fun i j t hi hj h1 h2 => by
      cases i with
      | zero => cases j with
        | zero => rfl
        | succ j =>
          cases h1
          exact absurd (List.mem_cons_self ..) (i5.1 j id (by simpa using hj) h2).2
      | succ i => cases j with
        | zero =>
          cases h2
          exact absurd (List.mem_cons_self ..) (i5.1 i id (by simpa using hi) h1).2
        | succ j => rw [i5.2 i j t (by simpa using hi) (by simpa using hj) h1 h2]⟩, ⟨fun i t hi ht => by
      cases i with
      | zero => cases ht
      | succ i => exact i6.1 i t (by simpa using hi) ht, fun i j t hi hj h1 h2 => by
      cases i with
      | zero => cases h1
      | succ i => cases j with
        | zero => cases h2
        | succ j => rw [i6.2 i j t (by simpa using hi) (by simpa using hj) h1 h2]⟩⟩
    · rw [List.length_cons, lvl_cons]; simpa using i3
    · intro i y hy
      cases i with
      | zero =>
        simp only [List.getElem?_cons_zero, Option.some.injEq] at hy
        subst hy
        exact ⟨i1, hw, hd, .inr (.inr (.inl ⟨rfl, rfl, cs, id, rfl, rfl, fun st hs => ⟨hv st hs, hr st hs⟩⟩))⟩
      | succ i =>
        rw [lvl_cons]
        simpa using i4 i y (by simpa using hy)
  | @eff x l a lv bs ts a1 v st st' hw hd hl hs hs' hv h ih =>
    obtain ⟨am, vs, eff, bid, tid, i1, i2, i3, i4, i5, i6⟩ := ih
    refine ⟨fun i => match i with | 0 => a | i + 1 => am i, fun i => match i with | 0 => v | i + 1 => vs i, fun i => match i with | 0 => true | i + 1 => eff i, fun i => match i with | 0 => none | i + 1 => bid i, fun i => match i with | 0 => none | i + 1 => tid i, rfl, i2, ?_, ?_, ⟨fun i t hi ht => by
      cases i with
      | zero => cases ht
      | succ i => exact i5.1 i t (by simpa using hi) ht, fun i j t hi hj h1 h2 => by
      cases i with
      | zero => cases h1
      | succ i => cases j with
        | zero => cases h2
        | succ j => rw [i5.2 i j t (by simpa using hi) (by simpa using hj) h1 h2]⟩, ⟨fun i t hi ht => by
      cases i with
      | zero => cases ht
      | succ i => exact i6.1 i t (by simpa using hi) ht, fun i j t hi hj h1 h2 => by
      cases i with
      | zero => cases h1
      | succ i => cases j with
        | zero => cases h2
        | succ j => rw [i6.2 i j t (by simpa using hi) (by simpa using hj) h1 h2]⟩⟩
    · rw [List.length_cons, lvl_cons]
      simp only [if_true]
      omega
    · intro i y hy
      cases i with
      | zero =>
        simp only [List.getElem?_cons_zero, Option.some.injEq] at hy
        subst hy
        exact ⟨i1, hw, hd, .inr (.inr (.inr ⟨rfl, rfl, rfl, hl, st, st', by simpa [lvl] using hs, by simpa [lvl] using hs', hv⟩))⟩
      | succ i =>
        rw [lvl_cons]
        simp only [if_true]
        have := i4 i y (by simpa using hy)
        rw [show lv + (1 + lvl eff i) = lv + 1 + lvl eff i by omega]
        exact this

theorem compCode_dreg {P : Program} {code : Code} {m : Nat} {xs : List AOper} (h : compCode P code = some (.dreg m xs)) : ∃ id ops, code = .region id ops true ∧ P.follows .mixedOrders = true ∧ okD ops xs m = true ∧ ops.toList.mapM (compOper P ops) = some xs := by
  cases code <;> simp only [compCode, reduceCtorEq] at h
  case region id ops draw =>
    split at h
    · rename_i hd
      subst hd
      split at h
      · rename_i ys hys
        split at h
        · rename_i k hk
          split at h
          · rename_i hmix
            simp only [Option.some.injEq, ACode.dreg.injEq] at h
            obtain ⟨rfl, rfl⟩ := h
            exact ⟨id, ops, rfl, hmix, List.find?_some hk, hys⟩
          · cases h
        · cases h
      · cases h
    · split at h
      · cases h
      · simp at h
  case seq => split at h <;> simp at h
  case cond => split at h <;> simp at h
  all_goals simp at h

theorem Ex.drawE {n0 : Nat} {md : Md} {P : Program} {X : Clr} (hX : ClrOk P X) {m : Nat} {xs : List AOper} {a a1 : List AV} {S : St} {Q : AEx → List AV → St → Prop} (lb : List (List AV)) (lt : List (Nat × Nat)) (ss : List St)
    (hD : DrO X S.bx.length S.lv.length (⟨S.bx ++ lb, S.lv ++ lt⟩ :: ss) (xs.take m) a 0 [] [] a1) (hT : ExO n0 P (xs.drop m) a1 (ss.getLastD ⟨S.bx ++ lb, S.lv ++ lt⟩) (Q .norm)) : Ex n0 md P (.dreg m xs) a S Q := by
  intro E hn code hco act w hA
  obtain ⟨id, ops, rfl, hmix, hok, hc⟩ := compCode_dreg hco
  obtain ⟨hnd, hmle, hxl, hsp⟩ := okD_spec hok
  have hml : (xs.take m).length = m := by simp; omega
  have htk : ∀ i, i < m → (xs.take m)[i]? = xs[i]? := fun i hi => List.getElem?_take_of_lt hi
  generalize hst0 : St.mk (S.bx ++ lb) (S.lv ++ lt) = st0 at hD hT
  obtain ⟨am, v, eff, bid, tid, ha0, ham1, hlv, hstep, ⟨hbn, hbd⟩, htn, htd⟩ := hD.spec
  rw [hml] at ham1 hlv htn htd hbn hbd
  simp only [Nat.zero_add, List.length_cons] at hlv hstep
  let st : Nat → St := fun k => (st0 :: ss).getD k default
  have hstm : ∀ k, k ≤ lvl eff m → st k ∈ st0 :: ss := by
    intro k hk
    have hk' : k < (st0 :: ss).length := by rw [List.length_cons]; omega
    show (st0 :: ss).getD k default ∈ _
    rw [List.getD, List.getElem?_eq_getElem hk']
    exact List.getElem_mem hk'
  have hst : ∀ i, i < m → ∃ o x, ops[i]? = some o ∧ xs[i]? = some x ∧ am (i + 1) = putA (am i) x.dst (v i) ∧ DrFact X (st0 :: ss) (am i) x (lvl eff i) (v i) (eff i) (bid i) (tid i) := by
    intro i hi
    obtain ⟨o, x, hoi, hx, _⟩ := hsp i (by omega)
    obtain ⟨h1, h2⟩ := hstep i x (by rw [htk i hi]; exact hx)
    exact ⟨o, x, hoi, hx, h1, h2⟩
  have hdx : ∀ i t, dO xs i = some t → ∃ x, xs[i]? = some x ∧ x.dst = some t := fun i t h => by
    simp only [dO, Option.bind_eq_some_iff] at h
    exact h
  have hslot : ∀ t i r, i + r ≤ m → (∀ k, i ≤ k → k < i + r → dO xs k ≠ some t) → (am (i + r)).getD t .junk = (am i).getD t .junk := by
    intro t i r
    induction r with
    | zero => intro _ _; rfl
    | succ r ih =>
      intro hr hno
      obtain ⟨_, x, _, hx, h2, _⟩ := hst (i + r) (by omega)
      rw [show i + (r + 1) = i + r + 1 by omega, h2, putA_getD_ne _ _ _ _ (by have := hno (i + r) (by omega) (by omega); simpa [dO, hx] using this)]
      exact ih (by omega) fun k h1 h2 => hno k h1 (by omega)
  have hlenA : ∀ i, i ≤ m → (am i).length = a.length := by
    intro i
    induction i with
    | zero => intro _; rw [ha0]
    | succ i ih =>
      intro hi
      obtain ⟨_, x, _, _, h2, _⟩ := hst i (by omega)
      rw [h2, putA_length, ih (by omega)]
  have hdl : ∀ i t, i < m → dO xs i = some t → t < a.length := by
    intro i t hi hd
    obtain ⟨_, x, _, hx, _, _, hdo, _⟩ := hst i hi
    have hxd : x.dst = some t := by simpa [dO, hx] using hd
    simp only [dstOk, hxd, decide_eq_true_eq] at hdo
    rw [← hlenA i (by omega)]; exact hdo
  have huniq : ∀ i k t, i < m → k < m → dO xs i = some t → dO xs k = some t → k = i := by
    intro i k t hi hk h1 h2
    obtain ⟨_, x, _, hx, _, hmain, _⟩ := hsp i (by omega)
    by_cases he : k = i
    · exact he
    · exact absurd h2 ((hmain hi).1 k hk he t (by simpa [dO, hx] using h1))
  have h1 : ∀ i, i < m → ∀ t, dO xs i = some t → t < a.length ∧ a1.getD t .junk = v i := by
    intro i hi t hd
    have hlt := hdl i t hi hd
    obtain ⟨_, x, _, hx, h2, _⟩ := hst i hi
    refine ⟨hlt, ?_⟩
    have e1 := hslot t (i + 1) (m - (i + 1)) (by omega) (fun k h1 h2 hk => by have := huniq i k t hi (by omega) hd hk; omega)
    rw [show i + 1 + (m - (i + 1)) = m by omega, ham1] at e1
    have hxd : x.dst = some t := by simpa [dO, hx] using hd
    rw [e1, h2, hxd, putA_getD_same _ _ _ (by rw [hlenA i (by omega)]; exact hlt)]
  have h0 : ∀ t, (∀ i, i < m → dO xs i ≠ some t) → a1.getD t .junk = a.getD t .junk := by
    intro t hno
    have e1 := hslot t 0 m (by omega) (fun k _ h2 => hno k (by omega))
    rw [Nat.zero_add, ham1, ha0] at e1
    exact e1
  have ham : ∀ i, i < m → ∀ t, ((∀ k, k < i → dO xs k ≠ some t) → (am i).getD t .junk = a.getD t .junk) ∧ ((∃ k, k < i ∧ dO xs k = some t) → (am i).getD t .junk = a1.getD t .junk) := by
    intro i hi t
    refine ⟨fun hno => ?_, fun ⟨k, hk, hd⟩ => ?_⟩
    · have e1 := hslot t 0 i (by omega) (fun k _ h2 => hno k (by omega))
      rw [Nat.zero_add, ha0] at e1
      exact e1
    · have e1 := hslot t i (m - i) (by omega) (fun k' h1 h2 hk' => by have := huniq k k' t (by omega) (by omega) hd hk'; omega)
      rw [show i + (m - i) = m by omega, ham1] at e1
      exact e1.symm
  have hguard : ∀ i x, i < m → xs[i]? = some x → wantedA x.guard a1 = wantedA x.guard (am i) := by
    intro i x hi hx
    obtain ⟨o, x', hoi, hx', hlt, hmain, _⟩ := hsp i (by omega)
    rw [hx] at hx'; cases hx'
    cases hg : x.guard with
    | none => rfl
    | some g =>
      obtain ⟨d, wnt⟩ := g
      simp only [wantedA]
      have : a1.getD d .junk = (am i).getD d .junk := by
        by_cases hex : ∃ k, k < m ∧ dO xs k = some d
        · obtain ⟨k, hk, hd⟩ := hex
          exact ((ham i hi d).2 ⟨k, hlt k ((hmain hi).2.1 d wnt hg k hk hd), hd⟩).symm
        · have hno : ∀ k, k < m → dO xs k ≠ some d := fun k hk h => hex ⟨k, hk, h⟩
          rw [h0 d hno, (ham i hi d).1 fun k hk => hno k (by omega)]
      rw [this]
  obtain ⟨G, hI, hR, hg0, hk0, hd0⟩ := hA
  have hahead := add_ahead hI.drew lb lt
  rw [hst0] at hahead
  obtain ⟨a1h, a2h, a3h, a4h⟩ := hahead
  refine cwp_region_draw hmix hnd (fun a w h => by
    obtain ⟨x, _, _, h, _⟩ := h
    cases x <;> cases h) ?_
  refine draw_any (a := a) (a1 := a1) (v := v) (st := st) (eff := eff) (bid := bid) (tid := tid) (G0 := G) (S0 := S) (w0 := w) (act0 := act) hX hok hc (by rw [← ham1, hlenA m (Nat.le_refl _)]) h1 h0 am ham ?_ ?_ hbd htd (fun i t hi h => (hbn i t hi h).1) (fun i t hi h => (htn i t hi h).1) ?_ ops.size (Array.replicate ops.size false) act w.drew ?_ (by simp) ?_ ?_ ?_
  · intro i hi x hx
    obtain ⟨_, x', _, hx', _, hw, _, hf⟩ := hst i hi
    rw [hx] at hx'; cases hx'
    refine .inr ⟨(hguard i x hi hx).trans hw, ?_⟩
    rcases hf with ⟨e1, e0, e2, e3⟩ | ⟨e1, e0, s, els, id, e2, e3, e4⟩ | ⟨e1, e0, cs, id, e2, e3, e4⟩ | ⟨e1, e0, e2, e3, s1, s2, e4, e5, e6⟩
    · exact .inl ⟨e1, e0, e2, fun k hk => e3 (st k) (hstm k hk)⟩
    · exact .inr (.inr (.inl ⟨e1, e0, s, els, id, e2, e3, fun k hk => e4 (st k) (hstm k hk)⟩))
    · exact .inr (.inl ⟨e1, e0, cs, id, e2, e3, fun k hk => e4 (st k) (hstm k hk)⟩)
    · have g1 : st (lvl eff i) = s1 := by show (st0 :: ss).getD _ default = _; rw [List.getD, e4]; rfl
      have g2 : st (lvl eff i + 1) = s2 := by show (st0 :: ss).getD _ default = _; rw [List.getD, e5]; rfl
      have g3 : lvl eff i + 1 ≤ lvl eff m := by
        have := (List.getElem?_eq_some_iff.1 e5).1
        rw [List.length_cons] at this
        omega
      exact .inr (.inr (.inr ⟨e1, e0, e2, g3, by rw [g1, g2]; exact e6⟩))
  · intro i hi he
    obtain ⟨_, x', hoi, hx', _, _, _, hf⟩ := hst i hi
    obtain ⟨o, x, hoi2, hx, _, hmain, _⟩ := hsp i (by omega)
    rw [hx'] at hx; cases hx
    have hla : loudA x'.op = true := by
      rcases hf with ⟨e1, _⟩ | ⟨e1, _⟩ | ⟨e1, _⟩ | ⟨_, _, _, e3, _⟩
      · rw [he] at e1; cases e1
      · rw [he] at e1; cases e1
      · rw [he] at e1; cases e1
      · exact e3
    simpa [isLoud, hoi2] using (hmain hi).2.2.2.2 hla
  · intro G' act' w' hI' hR' hg' hk' hd'
    have hlast : st (lvl eff m) = ss.getLastD st0 := by
      show (st0 :: ss).getD (lvl eff m) default = _
      rw [show lvl eff m = ss.length by omega]
      exact getD_last ss st0
    rw [hlast] at hI' hg' hk'
    have hl := wpOps_eq_wpList (P := P) (ops := ops) (Q := fun e act' w' => ∃ x a' S', e = x.out ∧ Q x a' S' ∧ At E a' S' act' w') (ops.toList.drop m) m (fun j => by simp)
    rw [show (ops.toList.drop m).length = ops.size - m by simp] at hl
    rw [hl]
    have hcd : (ops.toList.drop m).mapM (compOper P ops) = some (xs.drop m) := mapM_drop hc m
    exact hT E hn ops _ _ hcd (fun a' S' act' w' h1 h2 => ⟨.norm, a', S', rfl, h1, h2⟩) act' w' ⟨G', hI', hR', hg0.trans hg', hk0.trans hk', hd'.trans hd0⟩
  · unfold toCome
    have : (List.range ops.size).filter (fun i => !(Array.replicate ops.size false).getD i true) = List.range ops.size := by
      apply List.filter_eq_self.2
      intro i hi
      have := List.mem_range.1 hi
      simp [this]
    rw [this, List.length_range]
  · have hcnt : cnt eff m (Array.replicate ops.size false) = 0 := by
      unfold cnt
      rw [List.length_eq_zero_iff, List.filter_eq_nil_iff]
      intro i hi
      have := List.mem_range.1 hi
      have : i < ops.size := by omega
      simp [this]
    have hs0 : st 0 = st0 := rfl
    refine ⟨G, a, ⟨by rw [hcnt, hs0]; exact a1h, hR, rfl, fun i hi hl => ?_, fun _ _ => rfl, fun i hi _ idb hid => a3h idb (hbn i idb hi hid).1, fun i hi _ idb hid n => a4h idb n (htn i idb hi hid).1, by rw [hcnt, hs0]; exact (Gro.drew G S w).trans a2h, by rw [hcnt, hs0, ← hst0]; exact ⟨by simp, by simp, fun _ _ h => h, fun _ _ h => h⟩, rfl⟩⟩
    have : i < ops.size := by omega
    simp [this] at hl
  · intro k hk hkn
    simp [hkn]
  · intro i hi
    by_cases h : i < ops.size <;> simp [h] at hi
end Go.Proofs.Ytoefpcpijolofaa
end
section
namespace Go.Proofs.Ytoefpcpijolofaa
open Go.RowKit
set_option linter.unusedVariables false
set_option linter.unusedSimpArgs false
set_option maxRecDepth 10000
set_option maxHeartbeats 4000000

theorem rwithin_ok (x lo hi : Int) (h1 : lo ≤ x) (h2 : x ≤ hi) : Does Try.prog 91 [.int .i64 x, .int .i64 lo, .int .i64 hi] [] fun v c' => v = .bool true ∧ c' = [] := by
  refine Does.of comp91 ?_
  unfold F91
  simp only [start, List.length_cons, List.length_nil, List.replicate, List.cons_append, List.nil_append, Nat.reduceAdd, Nat.reduceSub]
  (repeat (first|((first|refine ExO.nil ?_|refine Ex.skip ?_|refine Ex.ret ?_|refine Ex.exit ?_); try dsimp only)|((first|(refine xI ?_; intro _ _)|refine xL ?_|(refine xB ?_; intro _ _)|refine xG ?_|refine xS ?_|refine xM ?_|(refine xC ?_; intro _ _)|refine xW ?_); try simp only [sA])|refine Ex.seq ?_|refine Ex.reg ?_|refine Ex.block ?_|refine eT ?_|refine eF ?_|simp only [reduceCtorEq, AEx.ex.injEq, Nat.reduceEqDiff, if_true, if_false]))
  (rename_i m hm; have hm2 : m = true := (by rw [hm]; simp; try omega); clear hm; subst hm2; (repeat (first|((first|refine ExO.nil ?_|refine Ex.skip ?_|refine Ex.ret ?_|refine Ex.exit ?_); try dsimp only)|((first|(refine xI ?_; intro _ _)|refine xL ?_|(refine xB ?_; intro _ _)|refine xG ?_|refine xS ?_|refine xM ?_|(refine xC ?_; intro _ _)|refine xW ?_); try simp only [sA])|refine Ex.seq ?_|refine Ex.reg ?_|refine Ex.block ?_|refine eT ?_|refine eF ?_|simp only [reduceCtorEq, AEx.ex.injEq, Nat.reduceEqDiff, if_true, if_false])))
  (rename_i m hm; have hm2 : m = true := (by rw [hm]; simp; try omega); clear hm; subst hm2; (repeat (first|((first|refine ExO.nil ?_|refine Ex.skip ?_|refine Ex.ret ?_|refine Ex.exit ?_); try dsimp only)|((first|(refine xI ?_; intro _ _)|refine xL ?_|(refine xB ?_; intro _ _)|refine xG ?_|refine xS ?_|refine xM ?_|(refine xC ?_; intro _ _)|refine xW ?_); try simp only [sA])|refine Ex.seq ?_|refine Ex.reg ?_|refine Ex.block ?_|refine eT ?_|refine eF ?_|simp only [reduceCtorEq, AEx.ex.injEq, Nat.reduceEqDiff, if_true, if_false])))
  simp [evRes, evRes1, one, AV.names, takeCells]

theorem rspan_ok (lo hi most : Int) (h0 : 0 ≤ lo) (h1 : lo ≤ hi) (h2 : hi ≤ most) : Does Try.prog 97 [.agg [.int .i64 lo, .int .i64 hi], .int .i64 most] [] fun v c' => v = .int .i64 0 ∧ c' = [] := by
  refine Does.of comp97 ?_
  unfold F97
  simp only [start, List.length_cons, List.length_nil, List.replicate, List.cons_append, List.nil_append, Nat.reduceAdd, Nat.reduceSub]
  (repeat (first|((first|refine ExO.nil ?_|refine Ex.skip ?_|refine Ex.ret ?_|refine Ex.exit ?_); try dsimp only)|((first|(refine xI ?_; intro _ _)|refine xL ?_|(refine xB ?_; intro _ _)|refine xG ?_|refine xS ?_|refine xM ?_|(refine xC ?_; intro _ _)|refine xW ?_); try simp only [sA])|refine Ex.seq ?_|refine Ex.reg ?_|refine Ex.block ?_|refine eT ?_|refine eF ?_|simp only [reduceCtorEq, AEx.ex.injEq, Nat.reduceEqDiff, if_true, if_false]))
  (refine ExO.call (f := (91)) (xs := ([.int .i64 (lo), .int .i64 (0), .int .i64 (most)])) (ys := ([.int .i64 (lo), .int .i64 (0), .int .i64 (most)])) (bs := ([])) (cells := ([])) (by rfl) (by rfl) (by rfl) (by first | rfl | simp [ren, ren1, AV.plain, AV.plain1, AV.clean, cleanL, clean_lds, cleanL_append]) (by rfl) (by first | rfl | simp [ren, ren1, AV.plain, AV.plain1, AV.clean, cleanL, clean_lds, cleanL_append]) ((rwithin_ok (lo) (0) (most) (by omega) (by omega))) ?_; rintro v c' ⟨rfl, rfl⟩; refine ⟨_, rfl, rfl, ?_⟩; simp only [List.map_cons, List.map_nil, putA, List.set_cons_zero, List.set_cons_succ, AV.plain, AV.plain1, setAll, List.length_cons, List.length_nil, List.drop_succ_cons, List.drop_zero, List.drop_nil, List.append_nil, Nat.reduceAdd]; (repeat (first|((first|refine ExO.nil ?_|refine Ex.skip ?_|refine Ex.ret ?_|refine Ex.exit ?_); try dsimp only)|((first|(refine xI ?_; intro _ _)|refine xL ?_|(refine xB ?_; intro _ _)|refine xG ?_|refine xS ?_|refine xM ?_|(refine xC ?_; intro _ _)|refine xW ?_); try simp only [sA])|refine Ex.seq ?_|refine Ex.reg ?_|refine Ex.block ?_|refine eT ?_|refine eF ?_|simp only [reduceCtorEq, AEx.ex.injEq, Nat.reduceEqDiff, if_true, if_false])))
  (refine ExO.call (f := (91)) (xs := ([.int .i64 (hi), .int .i64 (0), .int .i64 (most)])) (ys := ([.int .i64 (hi), .int .i64 (0), .int .i64 (most)])) (bs := ([])) (cells := ([])) (by rfl) (by rfl) (by rfl) (by first | rfl | simp [ren, ren1, AV.plain, AV.plain1, AV.clean, cleanL, clean_lds, cleanL_append]) (by rfl) (by first | rfl | simp [ren, ren1, AV.plain, AV.plain1, AV.clean, cleanL, clean_lds, cleanL_append]) ((rwithin_ok (hi) (0) (most) (by omega) (by omega))) ?_; rintro v c' ⟨rfl, rfl⟩; refine ⟨_, rfl, rfl, ?_⟩; simp only [List.map_cons, List.map_nil, putA, List.set_cons_zero, List.set_cons_succ, AV.plain, AV.plain1, setAll, List.length_cons, List.length_nil, List.drop_succ_cons, List.drop_zero, List.drop_nil, List.append_nil, Nat.reduceAdd]; (repeat (first|((first|refine ExO.nil ?_|refine Ex.skip ?_|refine Ex.ret ?_|refine Ex.exit ?_); try dsimp only)|((first|(refine xI ?_; intro _ _)|refine xL ?_|(refine xB ?_; intro _ _)|refine xG ?_|refine xS ?_|refine xM ?_|(refine xC ?_; intro _ _)|refine xW ?_); try simp only [sA])|refine Ex.seq ?_|refine Ex.reg ?_|refine Ex.block ?_|refine eT ?_|refine eF ?_|simp only [reduceCtorEq, AEx.ex.injEq, Nat.reduceEqDiff, if_true, if_false])))
  (rename_i m hm; have hm2 : m = false := (by rw [hm]; simp; try omega); clear hm; subst hm2; (repeat (first|((first|refine ExO.nil ?_|refine Ex.skip ?_|refine Ex.ret ?_|refine Ex.exit ?_); try dsimp only)|((first|(refine xI ?_; intro _ _)|refine xL ?_|(refine xB ?_; intro _ _)|refine xG ?_|refine xS ?_|refine xM ?_|(refine xC ?_; intro _ _)|refine xW ?_); try simp only [sA])|refine Ex.seq ?_|refine Ex.reg ?_|refine Ex.block ?_|refine eT ?_|refine eF ?_|simp only [reduceCtorEq, AEx.ex.injEq, Nat.reduceEqDiff, if_true, if_false])))
  simp [evRes, evRes1, one, AV.names, takeCells]

theorem rload_ok (len wid front rear turn kilos mid high pt klo khi tlo thi kind watts : Int) (hl : LOk ⟨len, wid, front, rear, turn, kilos, mid, high⟩ ⟨pt, klo, khi, tlo, thi, kind, watts⟩) (ls : List Ld) : Does Try.prog 92 [.agg [.int .i64 len, .int .i64 wid, .int .i64 front, .int .i64 rear, .int .i64 turn, .int .i64 kilos, .int .i64 mid, .int .i64 high, .sl (ls.map Ld.av) none], .agg [.int .i64 pt, .int .i64 klo, .int .i64 khi, .int .i64 tlo, .int .i64 thi, .int .i64 kind, .int .i64 watts]] [] fun v c' => v = .int .i64 0 ∧ c' = [] := by
  have hl' : front ≤ pt ∧ pt ≤ rear ∧ 0 ≤ klo ∧ klo ≤ khi ∧ khi ≤ 900 ∧ 0 ≤ tlo ∧ tlo ≤ thi ∧ thi ≤ 700 ∧ 1 ≤ kind ∧ kind ≤ 4 ∧ 0 ≤ watts ∧ watts < 3000 ∧ (watts = 0 ∨ kind = 2 ∨ kind = 3) := hl
  obtain ⟨p1, p2, p3, p4, p5, p6, p7, p8, p9, p10, p11, p12, p13⟩ := hl'
  refine Does.of comp92 ?_
  unfold F92
  simp only [start, List.length_cons, List.length_nil, List.replicate, List.cons_append, List.nil_append, Nat.reduceAdd, Nat.reduceSub]
  (repeat (first|((first|refine ExO.nil ?_|refine Ex.skip ?_|refine Ex.ret ?_|refine Ex.exit ?_); try dsimp only)|((first|(refine xI ?_; intro _ _)|refine xL ?_|(refine xB ?_; intro _ _)|refine xG ?_|refine xS ?_|refine xM ?_|(refine xC ?_; intro _ _)|refine xW ?_); try simp only [sA])|refine Ex.seq ?_|refine Ex.reg ?_|refine Ex.block ?_|refine eT ?_|refine eF ?_|simp only [reduceCtorEq, AEx.ex.injEq, Nat.reduceEqDiff, if_true, if_false]))
  (refine ExO.call (f := (91)) (xs := ([.int .i64 (pt), .int .i64 (front), .int .i64 (rear)])) (ys := ([.int .i64 (pt), .int .i64 (front), .int .i64 (rear)])) (bs := ([])) (cells := ([])) (by rfl) (by rfl) (by rfl) (by first | rfl | simp [ren, ren1, AV.plain, AV.plain1, AV.clean, cleanL, clean_lds, cleanL_append]) (by rfl) (by first | rfl | simp [ren, ren1, AV.plain, AV.plain1, AV.clean, cleanL, clean_lds, cleanL_append]) ((rwithin_ok (pt) (front) (rear) (by omega) (by omega))) ?_; rintro v c' ⟨rfl, rfl⟩; refine ⟨_, rfl, rfl, ?_⟩; simp only [List.map_cons, List.map_nil, putA, List.set_cons_zero, List.set_cons_succ, AV.plain, AV.plain1, setAll, List.length_cons, List.length_nil, List.drop_succ_cons, List.drop_zero, List.drop_nil, List.append_nil, Nat.reduceAdd]; (repeat (first|((first|refine ExO.nil ?_|refine Ex.skip ?_|refine Ex.ret ?_|refine Ex.exit ?_); try dsimp only)|((first|(refine xI ?_; intro _ _)|refine xL ?_|(refine xB ?_; intro _ _)|refine xG ?_|refine xS ?_|refine xM ?_|(refine xC ?_; intro _ _)|refine xW ?_); try simp only [sA])|refine Ex.seq ?_|refine Ex.reg ?_|refine Ex.block ?_|refine eT ?_|refine eF ?_|simp only [reduceCtorEq, AEx.ex.injEq, Nat.reduceEqDiff, if_true, if_false])))
  (refine ExO.call (f := (97)) (xs := ([.agg [.int .i64 klo, .int .i64 khi], .int .i64 100000])) (ys := ([.agg [.int .i64 klo, .int .i64 khi], .int .i64 100000])) (bs := ([])) (cells := ([])) (by rfl) (by rfl) (by rfl) (by first | rfl | simp [ren, ren1, AV.plain, AV.plain1, AV.clean, cleanL, clean_lds, cleanL_append]) (by rfl) (by first | rfl | simp [ren, ren1, AV.plain, AV.plain1, AV.clean, cleanL, clean_lds, cleanL_append]) ((rspan_ok klo khi 100000 (by omega) (by omega) (by omega))) ?_; rintro v c' ⟨rfl, rfl⟩; refine ⟨_, rfl, rfl, ?_⟩; simp only [List.map_cons, List.map_nil, putA, List.set_cons_zero, List.set_cons_succ, AV.plain, AV.plain1, setAll, List.length_cons, List.length_nil, List.drop_succ_cons, List.drop_zero, List.drop_nil, List.append_nil, Nat.reduceAdd]; (repeat (first|((first|refine ExO.nil ?_|refine Ex.skip ?_|refine Ex.ret ?_|refine Ex.exit ?_); try dsimp only)|((first|(refine xI ?_; intro _ _)|refine xL ?_|(refine xB ?_; intro _ _)|refine xG ?_|refine xS ?_|refine xM ?_|(refine xC ?_; intro _ _)|refine xW ?_); try simp only [sA])|refine Ex.seq ?_|refine Ex.reg ?_|refine Ex.block ?_|refine eT ?_|refine eF ?_|simp only [reduceCtorEq, AEx.ex.injEq, Nat.reduceEqDiff, if_true, if_false])))
  (refine ExO.call (f := (97)) (xs := ([.agg [.int .i64 tlo, .int .i64 thi], .int .i64 2000])) (ys := ([.agg [.int .i64 tlo, .int .i64 thi], .int .i64 2000])) (bs := ([])) (cells := ([])) (by rfl) (by rfl) (by rfl) (by first | rfl | simp [ren, ren1, AV.plain, AV.plain1, AV.clean, cleanL, clean_lds, cleanL_append]) (by rfl) (by first | rfl | simp [ren, ren1, AV.plain, AV.plain1, AV.clean, cleanL, clean_lds, cleanL_append]) ((rspan_ok tlo thi 2000 (by omega) (by omega) (by omega))) ?_; rintro v c' ⟨rfl, rfl⟩; refine ⟨_, rfl, rfl, ?_⟩; simp only [List.map_cons, List.map_nil, putA, List.set_cons_zero, List.set_cons_succ, AV.plain, AV.plain1, setAll, List.length_cons, List.length_nil, List.drop_succ_cons, List.drop_zero, List.drop_nil, List.append_nil, Nat.reduceAdd]; (repeat (first|((first|refine ExO.nil ?_|refine Ex.skip ?_|refine Ex.ret ?_|refine Ex.exit ?_); try dsimp only)|((first|(refine xI ?_; intro _ _)|refine xL ?_|(refine xB ?_; intro _ _)|refine xG ?_|refine xS ?_|refine xM ?_|(refine xC ?_; intro _ _)|refine xW ?_); try simp only [sA])|refine Ex.seq ?_|refine Ex.reg ?_|refine Ex.block ?_|refine eT ?_|refine eF ?_|simp only [reduceCtorEq, AEx.ex.injEq, Nat.reduceEqDiff, if_true, if_false])))
  (refine ExO.call (f := (91)) (xs := ([.int .i64 (kind), .int .i64 (1), .int .i64 (4)])) (ys := ([.int .i64 (kind), .int .i64 (1), .int .i64 (4)])) (bs := ([])) (cells := ([])) (by rfl) (by rfl) (by rfl) (by first | rfl | simp [ren, ren1, AV.plain, AV.plain1, AV.clean, cleanL, clean_lds, cleanL_append]) (by rfl) (by first | rfl | simp [ren, ren1, AV.plain, AV.plain1, AV.clean, cleanL, clean_lds, cleanL_append]) ((rwithin_ok (kind) (1) (4) (by omega) (by omega))) ?_; rintro v c' ⟨rfl, rfl⟩; refine ⟨_, rfl, rfl, ?_⟩; simp only [List.map_cons, List.map_nil, putA, List.set_cons_zero, List.set_cons_succ, AV.plain, AV.plain1, setAll, List.length_cons, List.length_nil, List.drop_succ_cons, List.drop_zero, List.drop_nil, List.append_nil, Nat.reduceAdd]; (repeat (first|((first|refine ExO.nil ?_|refine Ex.skip ?_|refine Ex.ret ?_|refine Ex.exit ?_); try dsimp only)|((first|(refine xI ?_; intro _ _)|refine xL ?_|(refine xB ?_; intro _ _)|refine xG ?_|refine xS ?_|refine xM ?_|(refine xC ?_; intro _ _)|refine xW ?_); try simp only [sA])|refine Ex.seq ?_|refine Ex.reg ?_|refine Ex.block ?_|refine eT ?_|refine eF ?_|simp only [reduceCtorEq, AEx.ex.injEq, Nat.reduceEqDiff, if_true, if_false])))
  (refine ExO.call (f := (91)) (xs := ([.int .i64 (watts), .int .i64 (0), .int .i64 (1000000)])) (ys := ([.int .i64 (watts), .int .i64 (0), .int .i64 (1000000)])) (bs := ([])) (cells := ([])) (by rfl) (by rfl) (by rfl) (by first | rfl | simp [ren, ren1, AV.plain, AV.plain1, AV.clean, cleanL, clean_lds, cleanL_append]) (by rfl) (by first | rfl | simp [ren, ren1, AV.plain, AV.plain1, AV.clean, cleanL, clean_lds, cleanL_append]) ((rwithin_ok (watts) (0) (1000000) (by omega) (by omega))) ?_; rintro v c' ⟨rfl, rfl⟩; refine ⟨_, rfl, rfl, ?_⟩; simp only [List.map_cons, List.map_nil, putA, List.set_cons_zero, List.set_cons_succ, AV.plain, AV.plain1, setAll, List.length_cons, List.length_nil, List.drop_succ_cons, List.drop_zero, List.drop_nil, List.append_nil, Nat.reduceAdd]; (repeat (first|((first|refine ExO.nil ?_|refine Ex.skip ?_|refine Ex.ret ?_|refine Ex.exit ?_); try dsimp only)|((first|(refine xI ?_; intro _ _)|refine xL ?_|(refine xB ?_; intro _ _)|refine xG ?_|refine xS ?_|refine xM ?_|(refine xC ?_; intro _ _)|refine xW ?_); try simp only [sA])|refine Ex.seq ?_|refine Ex.reg ?_|refine Ex.block ?_|refine eT ?_|refine eF ?_|simp only [reduceCtorEq, AEx.ex.injEq, Nat.reduceEqDiff, if_true, if_false])))
  rename_i c hc
  cases c
  · (repeat (first|((first|refine ExO.nil ?_|refine Ex.skip ?_|refine Ex.ret ?_|refine Ex.exit ?_); try dsimp only)|((first|(refine xI ?_; intro _ _)|refine xL ?_|(refine xB ?_; intro _ _)|refine xG ?_|refine xS ?_|refine xM ?_|(refine xC ?_; intro _ _)|refine xW ?_); try simp only [sA])|refine Ex.seq ?_|refine Ex.reg ?_|refine Ex.block ?_|refine eT ?_|refine eF ?_|simp only [reduceCtorEq, AEx.ex.injEq, Nat.reduceEqDiff, if_true, if_false]))
    simp [evRes, evRes1, one, AV.names, takeCells]
  · have hw : 0 < watts := by have := hc.symm; simpa using this
    have hk : kind = 2 ∨ kind = 3 := by rcases p13 with h | h; omega; exact h
    rcases hk with rfl | rfl
    · (repeat (first|((first|refine ExO.nil ?_|refine Ex.skip ?_|refine Ex.ret ?_|refine Ex.exit ?_); try dsimp only)|((first|(refine xI ?_; intro _ _)|refine xL ?_|(refine xB ?_; intro _ _)|refine xG ?_|refine xS ?_|refine xM ?_|(refine xC ?_; intro _ _)|refine xW ?_); try simp only [sA])|refine Ex.seq ?_|refine Ex.reg ?_|refine Ex.block ?_|refine eT ?_|refine eF ?_|simp only [reduceCtorEq, AEx.ex.injEq, Nat.reduceEqDiff, if_true, if_false]))
      simp [evRes, evRes1, one, AV.names, takeCells]
    · (repeat (first|((first|refine ExO.nil ?_|refine Ex.skip ?_|refine Ex.ret ?_|refine Ex.exit ?_); try dsimp only)|((first|(refine xI ?_; intro _ _)|refine xL ?_|(refine xB ?_; intro _ _)|refine xG ?_|refine xS ?_|refine xM ?_|(refine xC ?_; intro _ _)|refine xW ?_); try simp only [sA])|refine Ex.seq ?_|refine Ex.reg ?_|refine Ex.block ?_|refine eT ?_|refine eF ?_|simp only [reduceCtorEq, AEx.ex.injEq, Nat.reduceEqDiff, if_true, if_false]))
      simp [evRes, evRes1, one, AV.names, takeCells]

theorem rcheck_ok (len wid front rear turn kilos mid high : Int) (hF : FOk ⟨len, wid, front, rear, turn, kilos, mid, high⟩) (ls : List Ld) (hlen : ls.length ≤ 20) (hall : ∀ l ∈ ls, LOk ⟨len, wid, front, rear, turn, kilos, mid, high⟩ l) : Does Try.prog 77 [.agg [.int .i64 len, .int .i64 wid, .int .i64 front, .int .i64 rear, .int .i64 turn, .int .i64 kilos, .int .i64 mid, .int .i64 high, .sl (ls.map Ld.av) none]] [] fun v c' => v = .int .i64 0 ∧ c' = [] := by
  have hF' : 2 ≤ len ∧ len ≤ 1200 ∧ 1 ≤ wid ∧ wid ≤ 400 ∧ 0 ≤ front ∧ front < rear ∧ rear ≤ len ∧ 0 ≤ turn ∧ turn < 1500 ∧ 0 ≤ kilos ∧ kilos < 5000 ∧ 0 ≤ mid ∧ mid ≤ len ∧ 0 ≤ high ∧ high < 500 := hF
  obtain ⟨o1, o2, o3, o4, o5, o6, o7, o8, o9, o10, o11, o12, o13, o14, o15⟩ := hF'
  refine Does.of comp77 ?_
  unfold F77
  simp only [start, List.length_cons, List.length_nil, List.replicate, List.cons_append, List.nil_append, Nat.reduceAdd, Nat.reduceSub]
  (repeat (first|((first|refine ExO.nil ?_|refine Ex.skip ?_|refine Ex.ret ?_|refine Ex.exit ?_); try dsimp only)|((first|(refine xI ?_; intro _ _)|refine xL ?_|(refine xB ?_; intro _ _)|refine xG ?_|refine xS ?_|refine xM ?_|(refine xC ?_; intro _ _)|refine xW ?_); try simp only [sA])|refine Ex.seq ?_|refine Ex.reg ?_|refine Ex.block ?_|refine eT ?_|refine eF ?_|simp only [reduceCtorEq, AEx.ex.injEq, Nat.reduceEqDiff, if_true, if_false]))
  (refine ExO.call (f := (91)) (xs := ([.int .i64 (len), .int .i64 (1), .int .i64 (3000)])) (ys := ([.int .i64 (len), .int .i64 (1), .int .i64 (3000)])) (bs := ([])) (cells := ([])) (by rfl) (by rfl) (by rfl) (by first | rfl | simp [ren, ren1, AV.plain, AV.plain1, AV.clean, cleanL, clean_lds, cleanL_append]) (by rfl) (by first | rfl | simp [ren, ren1, AV.plain, AV.plain1, AV.clean, cleanL, clean_lds, cleanL_append]) ((rwithin_ok (len) (1) (3000) (by omega) (by omega))) ?_; rintro v c' ⟨rfl, rfl⟩; refine ⟨_, rfl, rfl, ?_⟩; simp only [List.map_cons, List.map_nil, putA, List.set_cons_zero, List.set_cons_succ, AV.plain, AV.plain1, setAll, List.length_cons, List.length_nil, List.drop_succ_cons, List.drop_zero, List.drop_nil, List.append_nil, Nat.reduceAdd]; (repeat (first|((first|refine ExO.nil ?_|refine Ex.skip ?_|refine Ex.ret ?_|refine Ex.exit ?_); try dsimp only)|((first|(refine xI ?_; intro _ _)|refine xL ?_|(refine xB ?_; intro _ _)|refine xG ?_|refine xS ?_|refine xM ?_|(refine xC ?_; intro _ _)|refine xW ?_); try simp only [sA])|refine Ex.seq ?_|refine Ex.reg ?_|refine Ex.block ?_|refine eT ?_|refine eF ?_|simp only [reduceCtorEq, AEx.ex.injEq, Nat.reduceEqDiff, if_true, if_false])))
  (refine ExO.call (f := (91)) (xs := ([.int .i64 (wid), .int .i64 (1), .int .i64 (1000)])) (ys := ([.int .i64 (wid), .int .i64 (1), .int .i64 (1000)])) (bs := ([])) (cells := ([])) (by rfl) (by rfl) (by rfl) (by first | rfl | simp [ren, ren1, AV.plain, AV.plain1, AV.clean, cleanL, clean_lds, cleanL_append]) (by rfl) (by first | rfl | simp [ren, ren1, AV.plain, AV.plain1, AV.clean, cleanL, clean_lds, cleanL_append]) ((rwithin_ok (wid) (1) (1000) (by omega) (by omega))) ?_; rintro v c' ⟨rfl, rfl⟩; refine ⟨_, rfl, rfl, ?_⟩; simp only [List.map_cons, List.map_nil, putA, List.set_cons_zero, List.set_cons_succ, AV.plain, AV.plain1, setAll, List.length_cons, List.length_nil, List.drop_succ_cons, List.drop_zero, List.drop_nil, List.append_nil, Nat.reduceAdd]; (repeat (first|((first|refine ExO.nil ?_|refine Ex.skip ?_|refine Ex.ret ?_|refine Ex.exit ?_); try dsimp only)|((first|(refine xI ?_; intro _ _)|refine xL ?_|(refine xB ?_; intro _ _)|refine xG ?_|refine xS ?_|refine xM ?_|(refine xC ?_; intro _ _)|refine xW ?_); try simp only [sA])|refine Ex.seq ?_|refine Ex.reg ?_|refine Ex.block ?_|refine eT ?_|refine eF ?_|simp only [reduceCtorEq, AEx.ex.injEq, Nat.reduceEqDiff, if_true, if_false])))
  (refine ExO.call (f := (91)) (xs := ([.int .i64 (front), .int .i64 (0), .int .i64 (len)])) (ys := ([.int .i64 (front), .int .i64 (0), .int .i64 (len)])) (bs := ([])) (cells := ([])) (by rfl) (by rfl) (by rfl) (by first | rfl | simp [ren, ren1, AV.plain, AV.plain1, AV.clean, cleanL, clean_lds, cleanL_append]) (by rfl) (by first | rfl | simp [ren, ren1, AV.plain, AV.plain1, AV.clean, cleanL, clean_lds, cleanL_append]) ((rwithin_ok (front) (0) (len) (by omega) (by omega))) ?_; rintro v c' ⟨rfl, rfl⟩; refine ⟨_, rfl, rfl, ?_⟩; simp only [List.map_cons, List.map_nil, putA, List.set_cons_zero, List.set_cons_succ, AV.plain, AV.plain1, setAll, List.length_cons, List.length_nil, List.drop_succ_cons, List.drop_zero, List.drop_nil, List.append_nil, Nat.reduceAdd]; (repeat (first|((first|refine ExO.nil ?_|refine Ex.skip ?_|refine Ex.ret ?_|refine Ex.exit ?_); try dsimp only)|((first|(refine xI ?_; intro _ _)|refine xL ?_|(refine xB ?_; intro _ _)|refine xG ?_|refine xS ?_|refine xM ?_|(refine xC ?_; intro _ _)|refine xW ?_); try simp only [sA])|refine Ex.seq ?_|refine Ex.reg ?_|refine Ex.block ?_|refine eT ?_|refine eF ?_|simp only [reduceCtorEq, AEx.ex.injEq, Nat.reduceEqDiff, if_true, if_false])))
  (refine ExO.call (f := (91)) (xs := ([.int .i64 (rear), .int .i64 (0), .int .i64 (len)])) (ys := ([.int .i64 (rear), .int .i64 (0), .int .i64 (len)])) (bs := ([])) (cells := ([])) (by rfl) (by rfl) (by rfl) (by first | rfl | simp [ren, ren1, AV.plain, AV.plain1, AV.clean, cleanL, clean_lds, cleanL_append]) (by rfl) (by first | rfl | simp [ren, ren1, AV.plain, AV.plain1, AV.clean, cleanL, clean_lds, cleanL_append]) ((rwithin_ok (rear) (0) (len) (by omega) (by omega))) ?_; rintro v c' ⟨rfl, rfl⟩; refine ⟨_, rfl, rfl, ?_⟩; simp only [List.map_cons, List.map_nil, putA, List.set_cons_zero, List.set_cons_succ, AV.plain, AV.plain1, setAll, List.length_cons, List.length_nil, List.drop_succ_cons, List.drop_zero, List.drop_nil, List.append_nil, Nat.reduceAdd]; (repeat (first|((first|refine ExO.nil ?_|refine Ex.skip ?_|refine Ex.ret ?_|refine Ex.exit ?_); try dsimp only)|((first|(refine xI ?_; intro _ _)|refine xL ?_|(refine xB ?_; intro _ _)|refine xG ?_|refine xS ?_|refine xM ?_|(refine xC ?_; intro _ _)|refine xW ?_); try simp only [sA])|refine Ex.seq ?_|refine Ex.reg ?_|refine Ex.block ?_|refine eT ?_|refine eF ?_|simp only [reduceCtorEq, AEx.ex.injEq, Nat.reduceEqDiff, if_true, if_false])))
  (rename_i m hm; have hm2 : m = false := (by rw [hm]; simp; try omega); clear hm; subst hm2; (repeat (first|((first|refine ExO.nil ?_|refine Ex.skip ?_|refine Ex.ret ?_|refine Ex.exit ?_); try dsimp only)|((first|(refine xI ?_; intro _ _)|refine xL ?_|(refine xB ?_; intro _ _)|refine xG ?_|refine xS ?_|refine xM ?_|(refine xC ?_; intro _ _)|refine xW ?_); try simp only [sA])|refine Ex.seq ?_|refine Ex.reg ?_|refine Ex.block ?_|refine eT ?_|refine eF ?_|simp only [reduceCtorEq, AEx.ex.injEq, Nat.reduceEqDiff, if_true, if_false])))
  (refine ExO.call (f := (91)) (xs := ([.int .i64 (turn), .int .i64 (0), .int .i64 (20000)])) (ys := ([.int .i64 (turn), .int .i64 (0), .int .i64 (20000)])) (bs := ([])) (cells := ([])) (by rfl) (by rfl) (by rfl) (by first | rfl | simp [ren, ren1, AV.plain, AV.plain1, AV.clean, cleanL, clean_lds, cleanL_append]) (by rfl) (by first | rfl | simp [ren, ren1, AV.plain, AV.plain1, AV.clean, cleanL, clean_lds, cleanL_append]) ((rwithin_ok (turn) (0) (20000) (by omega) (by omega))) ?_; rintro v c' ⟨rfl, rfl⟩; refine ⟨_, rfl, rfl, ?_⟩; simp only [List.map_cons, List.map_nil, putA, List.set_cons_zero, List.set_cons_succ, AV.plain, AV.plain1, setAll, List.length_cons, List.length_nil, List.drop_succ_cons, List.drop_zero, List.drop_nil, List.append_nil, Nat.reduceAdd]; (repeat (first|((first|refine ExO.nil ?_|refine Ex.skip ?_|refine Ex.ret ?_|refine Ex.exit ?_); try dsimp only)|((first|(refine xI ?_; intro _ _)|refine xL ?_|(refine xB ?_; intro _ _)|refine xG ?_|refine xS ?_|refine xM ?_|(refine xC ?_; intro _ _)|refine xW ?_); try simp only [sA])|refine Ex.seq ?_|refine Ex.reg ?_|refine Ex.block ?_|refine eT ?_|refine eF ?_|simp only [reduceCtorEq, AEx.ex.injEq, Nat.reduceEqDiff, if_true, if_false])))
  (refine ExO.call (f := (91)) (xs := ([.int .i64 (kilos), .int .i64 (0), .int .i64 (100000)])) (ys := ([.int .i64 (kilos), .int .i64 (0), .int .i64 (100000)])) (bs := ([])) (cells := ([])) (by rfl) (by rfl) (by rfl) (by first | rfl | simp [ren, ren1, AV.plain, AV.plain1, AV.clean, cleanL, clean_lds, cleanL_append]) (by rfl) (by first | rfl | simp [ren, ren1, AV.plain, AV.plain1, AV.clean, cleanL, clean_lds, cleanL_append]) ((rwithin_ok (kilos) (0) (100000) (by omega) (by omega))) ?_; rintro v c' ⟨rfl, rfl⟩; refine ⟨_, rfl, rfl, ?_⟩; simp only [List.map_cons, List.map_nil, putA, List.set_cons_zero, List.set_cons_succ, AV.plain, AV.plain1, setAll, List.length_cons, List.length_nil, List.drop_succ_cons, List.drop_zero, List.drop_nil, List.append_nil, Nat.reduceAdd]; (repeat (first|((first|refine ExO.nil ?_|refine Ex.skip ?_|refine Ex.ret ?_|refine Ex.exit ?_); try dsimp only)|((first|(refine xI ?_; intro _ _)|refine xL ?_|(refine xB ?_; intro _ _)|refine xG ?_|refine xS ?_|refine xM ?_|(refine xC ?_; intro _ _)|refine xW ?_); try simp only [sA])|refine Ex.seq ?_|refine Ex.reg ?_|refine Ex.block ?_|refine eT ?_|refine eF ?_|simp only [reduceCtorEq, AEx.ex.injEq, Nat.reduceEqDiff, if_true, if_false])))
  (refine ExO.call (f := (91)) (xs := ([.int .i64 (mid), .int .i64 (0), .int .i64 (len)])) (ys := ([.int .i64 (mid), .int .i64 (0), .int .i64 (len)])) (bs := ([])) (cells := ([])) (by rfl) (by rfl) (by rfl) (by first | rfl | simp [ren, ren1, AV.plain, AV.plain1, AV.clean, cleanL, clean_lds, cleanL_append]) (by rfl) (by first | rfl | simp [ren, ren1, AV.plain, AV.plain1, AV.clean, cleanL, clean_lds, cleanL_append]) ((rwithin_ok (mid) (0) (len) (by omega) (by omega))) ?_; rintro v c' ⟨rfl, rfl⟩; refine ⟨_, rfl, rfl, ?_⟩; simp only [List.map_cons, List.map_nil, putA, List.set_cons_zero, List.set_cons_succ, AV.plain, AV.plain1, setAll, List.length_cons, List.length_nil, List.drop_succ_cons, List.drop_zero, List.drop_nil, List.append_nil, Nat.reduceAdd]; (repeat (first|((first|refine ExO.nil ?_|refine Ex.skip ?_|refine Ex.ret ?_|refine Ex.exit ?_); try dsimp only)|((first|(refine xI ?_; intro _ _)|refine xL ?_|(refine xB ?_; intro _ _)|refine xG ?_|refine xS ?_|refine xM ?_|(refine xC ?_; intro _ _)|refine xW ?_); try simp only [sA])|refine Ex.seq ?_|refine Ex.reg ?_|refine Ex.block ?_|refine eT ?_|refine eF ?_|simp only [reduceCtorEq, AEx.ex.injEq, Nat.reduceEqDiff, if_true, if_false])))
  (refine ExO.call (f := (91)) (xs := ([.int .i64 (high), .int .i64 (0), .int .i64 (2000)])) (ys := ([.int .i64 (high), .int .i64 (0), .int .i64 (2000)])) (bs := ([])) (cells := ([])) (by rfl) (by rfl) (by rfl) (by first | rfl | simp [ren, ren1, AV.plain, AV.plain1, AV.clean, cleanL, clean_lds, cleanL_append]) (by rfl) (by first | rfl | simp [ren, ren1, AV.plain, AV.plain1, AV.clean, cleanL, clean_lds, cleanL_append]) ((rwithin_ok (high) (0) (2000) (by omega) (by omega))) ?_; rintro v c' ⟨rfl, rfl⟩; refine ⟨_, rfl, rfl, ?_⟩; simp only [List.map_cons, List.map_nil, putA, List.set_cons_zero, List.set_cons_succ, AV.plain, AV.plain1, setAll, List.length_cons, List.length_nil, List.drop_succ_cons, List.drop_zero, List.drop_nil, List.append_nil, Nat.reduceAdd]; (repeat (first|((first|refine ExO.nil ?_|refine Ex.skip ?_|refine Ex.ret ?_|refine Ex.exit ?_); try dsimp only)|((first|(refine xI ?_; intro _ _)|refine xL ?_|(refine xB ?_; intro _ _)|refine xG ?_|refine xS ?_|refine xM ?_|(refine xC ?_; intro _ _)|refine xW ?_); try simp only [sA])|refine Ex.seq ?_|refine Ex.reg ?_|refine Ex.block ?_|refine eT ?_|refine eF ?_|simp only [reduceCtorEq, AEx.ex.injEq, Nat.reduceEqDiff, if_true, if_false])))
  (rename_i m hm; have hm2 : m = false := (by rw [hm]; simp; try omega); clear hm; subst hm2; (repeat (first|((first|refine ExO.nil ?_|refine Ex.skip ?_|refine Ex.ret ?_|refine Ex.exit ?_); try dsimp only)|((first|(refine xI ?_; intro _ _)|refine xL ?_|(refine xB ?_; intro _ _)|refine xG ?_|refine xS ?_|refine xM ?_|(refine xC ?_; intro _ _)|refine xW ?_); try simp only [sA])|refine Ex.seq ?_|refine Ex.reg ?_|refine Ex.block ?_|refine eT ?_|refine eF ?_|simp only [reduceCtorEq, AEx.ex.injEq, Nat.reduceEqDiff, if_true, if_false])))
  refine Ex.loopF (fun k a S => ∃ i, i ≤ ls.length ∧ k = ls.length - i ∧ a = [.junk, .ptr 0 0, .junk, .int .i64 (i : Nat), .junk, .junk, .junk, .junk, .junk, .junk, .junk, .junk, .junk, .junk, .junk, .junk, .junk, .junk, .junk, .junk, .junk, .junk, .junk, .junk, .junk, .junk, .junk, .junk, .junk, .junk, .junk, .junk, .junk, .junk, .junk, .junk, .junk, .junk, .junk, .junk, .junk, .junk, .junk, .junk, .junk, .junk, .junk, .junk, .junk, .junk, .junk, .junk, .junk, .junk, .junk, .junk, .junk, .junk, .junk, .junk, .junk, .junk, .junk, .junk, .junk, .junk, .junk, .junk, .junk, .junk, .junk, .junk, .junk, .junk, .junk, .junk, .junk, .junk, .junk, .junk, .junk] ∧ S = ⟨[[.int .i64 len, .int .i64 wid, .int .i64 front, .int .i64 rear, .int .i64 turn, .int .i64 kilos, .int .i64 mid, .int .i64 high, .sl (ls.map Ld.av) none]], []⟩) ls.length ?_ ?_
  · refine ⟨_, _, forgets 1 [] ([false, true, false, true, false, false, false, false, false, false, false, false, false, false, false, false, false, false, false, false, false, false, false, false, false, false, false, false, false, false, false, false, false, false, false, false, false, false, false, false, false, false, false, false, false, false, false, false, false, false, false, false, false, false, false, false, false, false, false, false, false, false, false, false, false, false, false, false, false, false, false, false, false, false, false, false, false, false, false, false, false]) (by decide) (by simp) (bx2 := [[.int .i64 len, .int .i64 wid, .int .i64 front, .int .i64 rear, .int .i64 turn, .int .i64 kilos, .int .i64 mid, .int .i64 high, .sl (ls.map Ld.av) none]]) (by simp [re, re1, AV.clean, clean_lds]) (by rfl) (by decide), 0, by omega, by omega, ?_, by rfl⟩
    simp [keepS, re, re1, AV.clean, clean_lds]
  · rintro k a S ⟨i, hi, rfl, rfl, rfl⟩
    (repeat (first|((first|refine ExO.nil ?_|refine Ex.skip ?_|refine Ex.ret ?_|refine Ex.exit ?_); try dsimp only)|((first|(refine xI ?_; intro _ _)|refine xL ?_|(refine xB ?_; intro _ _)|refine xG ?_|refine xS ?_|refine xM ?_|(refine xC ?_; intro _ _)|refine xW ?_); try simp only [sA])|refine Ex.seq ?_|refine Ex.reg ?_|refine Ex.block ?_|refine eT ?_|refine eF ?_|simp only [reduceCtorEq, AEx.ex.injEq, Nat.reduceEqDiff, if_true, if_false]))
    rename_i c hc
    cases c
    · (refine Ex.cond (b := false) (by first | rfl | simp [evd]) ?_; simp only [Bool.false_eq_true, if_false])
      (repeat (first|((first|refine ExO.nil ?_|refine Ex.skip ?_|refine Ex.ret ?_|refine Ex.exit ?_); try dsimp only)|((first|(refine xI ?_; intro _ _)|refine xL ?_|(refine xB ?_; intro _ _)|refine xG ?_|refine xS ?_|refine xM ?_|(refine xC ?_; intro _ _)|refine xW ?_); try simp only [sA])|refine Ex.seq ?_|refine Ex.reg ?_|refine Ex.block ?_|refine eT ?_|refine eF ?_|simp only [reduceCtorEq, AEx.ex.injEq, Nat.reduceEqDiff, if_true, if_false]))
      simp [evRes, evRes1, one, AV.names, takeCells]
    · have hil : i < ls.length := by have := hc.symm; simpa using this
      have e1 : ls[i]? = some ls[i] := List.getElem?_eq_getElem hil
      have hl := hall ls[i] (List.getElem_mem hil)
      generalize ls[i] = l at e1 hl
      obtain ⟨pt, klo, khi, tlo, thi, kind, watts⟩ := l
      have l1 : (i : Int) < (ls.length : Int) := by omega
      (refine Ex.cond (b := true) (by first | rfl | simp [evd]) ?_; simp only [if_true])
      (repeat (first|((first|refine ExO.nil ?_|refine Ex.skip ?_|refine Ex.ret ?_|refine Ex.exit ?_); try dsimp only)|((first|(refine xI ?_; intro _ _)|refine xL ?_|(refine xB ?_; intro _ _)|refine xG ?_|refine xS ?_|refine xM ?_|(refine xC ?_; intro _ _)|refine xW ?_); try simp only [sA])|refine Ex.seq ?_|refine Ex.reg ?_|refine Ex.block ?_|refine eT ?_|refine eF ?_|simp only [reduceCtorEq, AEx.ex.injEq, Nat.reduceEqDiff, if_true, if_false]))
      apply Ex.drawE (noClr_ok _) [] [] []
      case hD =>
        simp only [List.take_succ_cons, List.take_zero, List.append_nil]
        (repeat (first | exact DrO.nil rfl | (apply DrO.eff; (case hw => rfl); (case hd => rfl); (case hl => rfl); (case hs => rfl); (case hs' => rfl); (case hv => (simp [vA, fRes_eq, e1, l1, Ld.av_cells]; first|done|exact ⟨⟨rfl,rfl⟩,rfl⟩|exact ⟨rfl,rfl⟩|exact rfl)); (try simp only [sA])) | (apply DrO.pure; (case hw => rfl); (case hd => rfl); (case hv => (simp only [List.mem_cons, List.not_mem_nil, or_false, forall_eq_or_imp, forall_eq]; simp [vA, fRes_eq, e1, l1, Ld.av_cells]; first | done | exact ⟨⟨rfl, rfl⟩, rfl⟩ | exact ⟨rfl, rfl⟩ | exact rfl | (refine ⟨rfl, ?_⟩; first | done | rfl | simp))); (try simp only [sA]))))
      simp only [List.drop_succ_cons, List.drop_zero, List.getLastD_cons, List.getLastD_nil, List.append_nil, List.cons_append, List.nil_append]
      refine ExO.call (f := 92) (xs := [.agg [.int .i64 len, .int .i64 wid, .int .i64 front, .int .i64 rear, .int .i64 turn, .int .i64 kilos, .int .i64 mid, .int .i64 high, .sl (ls.map Ld.av) none], .agg [.int .i64 pt, .int .i64 klo, .int .i64 khi, .int .i64 tlo, .int .i64 thi, .int .i64 kind, .int .i64 watts]]) (ys := [.agg [.int .i64 len, .int .i64 wid, .int .i64 front, .int .i64 rear, .int .i64 turn, .int .i64 kilos, .int .i64 mid, .int .i64 high, .sl (ls.map Ld.av) none], .agg [.int .i64 pt, .int .i64 klo, .int .i64 khi, .int .i64 tlo, .int .i64 thi, .int .i64 kind, .int .i64 watts]]) (bs := []) (cells := []) (by rfl) (by rfl) (by rfl) (by simp [ren, ren1, AV.plain, AV.plain1, AV.clean, cleanL, clean_lds]) (by rfl) (by rfl) (rload_ok len wid front rear turn kilos mid high pt klo khi tlo thi kind watts hl ls) ?_
      rintro v c' ⟨rfl, rfl⟩
      refine ⟨_, rfl, rfl, ?_⟩
      simp only [List.map_cons, List.map_nil, putA, List.set_cons_zero, List.set_cons_succ, AV.plain, AV.plain1, setAll, List.length_cons, List.length_nil, List.drop_succ_cons, List.drop_zero, List.drop_nil, List.append_nil, Nat.reduceAdd]
      (repeat (first|((first|refine ExO.nil ?_|refine Ex.skip ?_|refine Ex.ret ?_|refine Ex.exit ?_); try dsimp only)|((first|(refine xI ?_; intro _ _)|refine xL ?_|(refine xB ?_; intro _ _)|refine xG ?_|refine xS ?_|refine xM ?_|(refine xC ?_; intro _ _)|refine xW ?_); try simp only [sA])|refine Ex.seq ?_|refine Ex.reg ?_|refine Ex.block ?_|refine eT ?_|refine eF ?_|simp only [reduceCtorEq, AEx.ex.injEq, Nat.reduceEqDiff, if_true, if_false]))
      rename_i m hm
      rw [i64_in (by omega) (by omega)] at hm
      have hm2 : m = ((i + 1 : Nat) : Int) := by omega
      subst hm2
      refine ⟨_, _, forgets 1 [] ([false, true, false, true, false, false, false, false, false, false, false, false, false, false, false, false, false, false, false, false, false, false, false, false, false, false, false, false, false, false, false, false, false, false, false, false, false, false, false, false, false, false, false, false, false, false, false, false, false, false, false, false, false, false, false, false, false, false, false, false, false, false, false, false, false, false, false, false, false, false, false, false, false, false, false, false, false, false, false, false, false]) (by decide) (by simp) (bx2 := [[.int .i64 len, .int .i64 wid, .int .i64 front, .int .i64 rear, .int .i64 turn, .int .i64 kilos, .int .i64 mid, .int .i64 high, .sl (ls.map Ld.av) none]]) (by simp [re, re1, AV.clean, clean_lds]) (by rfl) (by decide), ls.length - (i + 1), by omega, i + 1, by omega, rfl, ?_, by rfl⟩
      simp [keepS, re, re1, AV.clean, clean_lds]
end Go.Proofs.Ytoefpcpijolofaa
end
