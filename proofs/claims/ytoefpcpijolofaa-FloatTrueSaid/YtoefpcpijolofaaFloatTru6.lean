/- Part 7 of what the law needs: own work, put together. -/
import Derived.ProofKit
import Derived.Test.YtoefpcpijolofaaRows
import Derived.Test.YtoefpcpijolofaaFloatTru5
section
namespace Go.Proofs.Ytoefpcpijolofaa
open Go.RowKit
set_option linter.unusedVariables false
set_option linter.unusedSimpArgs false
set_option maxRecDepth 10000
set_option maxHeartbeats 4000000

theorem in_m (lo hi x : Int) (h1 : lo ≤ x) (h2 : x ≤ hi) : Does Try.prog 21 [.agg [.int .i64 lo, .int .i64 hi], .int .i64 x] [] fun v c' => v = .bool true ∧ c' = [] := by
  refine Does.of comp21 ?_
  unfold F21
  simp only [start, List.length_cons, List.length_nil, List.replicate, List.cons_append, List.nil_append, Nat.reduceAdd, Nat.reduceSub]
  (repeat (first|((first|refine ExO.nil ?_|refine Ex.skip ?_|refine Ex.ret ?_|refine Ex.exit ?_); try dsimp only)|((first|(refine xI ?_; intro _ _)|refine xL ?_|(refine xB ?_; intro _ _)|refine xG ?_|refine xS ?_|refine xM ?_|(refine xC ?_; intro _ _)|refine xW ?_); try simp only [sA])|refine Ex.seq ?_|refine Ex.reg ?_|refine Ex.block ?_|refine eT ?_|refine eF ?_|simp only [reduceCtorEq, AEx.ex.injEq, Nat.reduceEqDiff, if_true, if_false]))
  rename_i c hc
  have e : c = true := by rw [hc]; simpa using h1
  subst e
  (repeat (first|((first|refine ExO.nil ?_|refine Ex.skip ?_|refine Ex.ret ?_|refine Ex.exit ?_); try dsimp only)|((first|(refine xI ?_; intro _ _)|refine xL ?_|(refine xB ?_; intro _ _)|refine xG ?_|refine xS ?_|refine xM ?_|(refine xC ?_; intro _ _)|(refine xJ ?_; intro _ _)|refine xW ?_); try simp only [sA])|refine Ex.seq ?_|refine Ex.reg ?_|refine Ex.block ?_|refine eT ?_|refine eF ?_|simp only [reduceCtorEq, AEx.ex.injEq, Nat.reduceEqDiff, if_true, if_false]))
  rename_i c2 hc2
  have e2 : c2 = true := by rw [hc2]; simpa using h2
  subst e2
  (repeat (first|((first|refine ExO.nil ?_|refine Ex.skip ?_|refine Ex.ret ?_|refine Ex.exit ?_); try dsimp only)|((first|(refine xI ?_; intro _ _)|refine xL ?_|(refine xB ?_; intro _ _)|refine xG ?_|refine xS ?_|refine xM ?_|(refine xC ?_; intro _ _)|(refine xJ ?_; intro _ _)|refine xW ?_); try simp only [sA])|refine Ex.seq ?_|refine Ex.reg ?_|refine Ex.block ?_|refine eT ?_|refine eF ?_|simp only [reduceCtorEq, AEx.ex.injEq, Nat.reduceEqDiff, if_true, if_false]))
  simp [evRes, evRes1, one, AV.names, takeCells]
theorem agrees_m (is p q : Bool) (h1 : p = true → is = true) (h2 : is = true → q = true) : Does Try.prog 24 [.int .i64 (verd p q), .bool is] [] fun v c' => v = .bool true ∧ c' = [] := by
  refine Does.of comp24 ?_
  unfold F24
  have h3 : verd p q = 1 ∧ is = true ∨ verd p q = 2 ∧ is = false ∨ verd p q = 3 := by
    cases p <;> cases q <;> cases is <;> simp [verd] at h1 h2 ⊢
  rcases h3 with ⟨e, rfl⟩ | ⟨e, rfl⟩ | e
  · rw [e]
    simp only [start, List.length_cons, List.length_nil, List.replicate, List.cons_append, List.nil_append, Nat.reduceAdd, Nat.reduceSub]
    (repeat (first|((first|refine ExO.nil ?_|refine Ex.skip ?_|refine Ex.ret ?_|refine Ex.exit ?_); try dsimp only)|((first|(refine xI ?_; intro _ _)|refine xL ?_|(refine xB ?_; intro _ _)|refine xG ?_|refine xS ?_|refine xM ?_|(refine xC ?_; intro _ _)|(refine xJ ?_; intro _ _)|refine xW ?_); try simp only [sA])|refine Ex.seq ?_|refine Ex.reg ?_|refine Ex.block ?_|refine eT ?_|refine eF ?_|simp only [reduceCtorEq, AEx.ex.injEq, Nat.reduceEqDiff, if_true, if_false]))
    simp [evRes, evRes1, one, AV.names, takeCells]
  · rw [e]
    simp only [start, List.length_cons, List.length_nil, List.replicate, List.cons_append, List.nil_append, Nat.reduceAdd, Nat.reduceSub]
    (repeat (first|((first|refine ExO.nil ?_|refine Ex.skip ?_|refine Ex.ret ?_|refine Ex.exit ?_); try dsimp only)|((first|(refine xI ?_; intro _ _)|refine xL ?_|(refine xB ?_; intro _ _)|refine xG ?_|refine xS ?_|refine xM ?_|(refine xC ?_; intro _ _)|(refine xJ ?_; intro _ _)|refine xW ?_); try simp only [sA])|refine Ex.seq ?_|refine Ex.reg ?_|refine Ex.block ?_|refine eT ?_|refine eF ?_|simp only [reduceCtorEq, AEx.ex.injEq, Nat.reduceEqDiff, if_true, if_false]))
    simp [evRes, evRes1, one, AV.names, takeCells]
  · rw [e]
    simp only [start, List.length_cons, List.length_nil, List.replicate, List.cons_append, List.nil_append, Nat.reduceAdd, Nat.reduceSub]
    (repeat (first|((first|refine ExO.nil ?_|refine Ex.skip ?_|refine Ex.ret ?_|refine Ex.exit ?_); try dsimp only)|((first|(refine xI ?_; intro _ _)|refine xL ?_|(refine xB ?_; intro _ _)|refine xG ?_|refine xS ?_|refine xM ?_|(refine xC ?_; intro _ _)|(refine xJ ?_; intro _ _)|refine xW ?_); try simp only [sA])|refine Ex.seq ?_|refine Ex.reg ?_|refine Ex.block ?_|refine eT ?_|refine eF ?_|simp only [reduceCtorEq, AEx.ex.injEq, Nat.reduceEqDiff, if_true, if_false]))
    simp [evRes, evRes1, one, AV.names, takeCells]
theorem turns2_m (len wid front rear turn kilos mid high a b r : Int) (L : AV) (hF : FOk ⟨len, wid, front, rear, turn, kilos, mid, high⟩) (hs : L.scalar = true) (h0 : 0 ≤ a) (h1 : a ≤ 20000) (h2 : 0 ≤ b) (h3 : b ≤ 20000) (h4 : 0 ≤ r) (h5 : r ≤ 30000) : Does Try.prog 42 [.agg [.int .i64 len, .int .i64 wid, .int .i64 front, .int .i64 rear, .int .i64 turn, .int .i64 kilos, .int .i64 mid, .int .i64 high, L], .agg [.int .i64 1, .int .i64 a, .int .i64 b], .int .i64 r] [] fun v c' => v = .bool (turnsB len wid rear turn a b r) ∧ c' = [] := by
  have hF' := hF
  unfold FOk at hF'
  simp only [] at hF'
  obtain ⟨o1, o2, o3, o4, o5, o6, o7, o8, o9, o10, o11, o12, o13, o14, o15⟩ := hF'
  refine Does.of comp42 ?_
  unfold F42
  simp only [start, List.length_cons, List.length_nil, List.replicate, List.cons_append, List.nil_append, Nat.reduceAdd, Nat.reduceSub]
  (repeat (first|((first|refine ExO.nil ?_|refine Ex.skip ?_|refine Ex.ret ?_|refine Ex.exit ?_); try dsimp only)|((first|(refine xI ?_; intro _ _)|refine xL ?_|(refine xB ?_; intro _ _)|refine xG ?_|refine xS ?_|refine xM ?_|(refine xC ?_; intro _ _)|refine xW ?_); try simp only [sA])|refine Ex.seq ?_|refine Ex.reg ?_|refine Ex.block ?_|refine eT ?_|refine eF ?_|simp only [reduceCtorEq, AEx.ex.injEq, Nat.reduceEqDiff, if_true, if_false]))
  rename_i x1 g1 x2 g2 x3 g3 x4 g4 x5 g5 c1 d1
  rw [i64_in (by omega) (by omega)] at g1
  rw [i64_in (by omega) (by omega)] at g2
  rw [i64_in (by omega) (by omega)] at g3
  have hx4 : x4 = if rear < len - rear then len - rear else rear := by rw [g4, g3]
  have hb4 : 0 ≤ x4 ∧ x4 ≤ 1200 := by rw [hx4]; split <;> omega
  rw [i64_in (by omega) (by omega)] at g5
  have hfar : x5 = far2 len rear := by rw [g5, hx4]; rfl
  cases c1
  · have q1 : ¬ turn ≤ r := by simpa using d1
    (repeat (first|((first|refine ExO.nil ?_|refine Ex.skip ?_|refine Ex.ret ?_|refine Ex.exit ?_); try dsimp only)|((first|(refine xI ?_; intro _ _)|refine xL ?_|(refine xB ?_; intro _ _)|refine xG ?_|refine xS ?_|refine xM ?_|(refine xC ?_; intro _ _)|(refine xJ ?_; intro _ _)|refine xW ?_); try simp only [sA])|refine Ex.seq ?_|refine Ex.reg ?_|refine Ex.block ?_|refine eT ?_|refine eF ?_|simp only [reduceCtorEq, AEx.ex.injEq, Nat.reduceEqDiff, if_true, if_false]))
    simp [evRes, evRes1, one, AV.names, takeCells]
    simp [turnsB, q1]
  · have q1 : turn ≤ r := by simpa using d1
    (repeat (first|((first|refine ExO.nil ?_|refine Ex.skip ?_|refine Ex.ret ?_|refine Ex.exit ?_); try dsimp only)|((first|(refine xI ?_; intro _ _)|refine xL ?_|(refine xB ?_; intro _ _)|refine xG ?_|refine xS ?_|refine xM ?_|(refine xC ?_; intro _ _)|(refine xJ ?_; intro _ _)|refine xW ?_); try simp only [sA])|refine Ex.seq ?_|refine Ex.reg ?_|refine Ex.block ?_|refine eT ?_|refine eF ?_|simp only [reduceCtorEq, AEx.ex.injEq, Nat.reduceEqDiff, if_true, if_false]))
    rename_i y1 e1 y2 e2 y3 e3 c2 d2
    rw [i64_in (by omega) (by omega)] at e1
    rw [i64_in (by omega) (by omega)] at e2
    rw [i64_in (by omega) (by omega)] at e3
    cases c2
    · have q2 : ¬ 2 * a ≤ 2 * r - wid := by have := d2.symm; simp at this; omega
      (repeat (first|((first|refine ExO.nil ?_|refine Ex.skip ?_|refine Ex.ret ?_|refine Ex.exit ?_); try dsimp only)|((first|(refine xI ?_; intro _ _)|refine xL ?_|(refine xB ?_; intro _ _)|refine xG ?_|refine xS ?_|refine xM ?_|(refine xC ?_; intro _ _)|(refine xJ ?_; intro _ _)|refine xW ?_); try simp only [sA])|refine Ex.seq ?_|refine Ex.reg ?_|refine Ex.block ?_|refine eT ?_|refine eF ?_|simp only [reduceCtorEq, AEx.ex.injEq, Nat.reduceEqDiff, if_true, if_false]))
      simp [evRes, evRes1, one, AV.names, takeCells]
      simp [turnsB, q2]
    · have q2 : 2 * a ≤ 2 * r - wid := by have := d2.symm; simp at this; omega
      (repeat (first|((first|refine ExO.nil ?_|refine Ex.skip ?_|refine Ex.ret ?_|refine Ex.exit ?_); try dsimp only)|((first|(refine xI ?_; intro _ _)|refine xL ?_|(refine xB ?_; intro _ _)|refine xG ?_|refine xS ?_|refine xM ?_|(refine xC ?_; intro _ _)|(refine xJ ?_; intro _ _)|refine xW ?_); try simp only [sA])|refine Ex.seq ?_|refine Ex.reg ?_|refine Ex.block ?_|refine eT ?_|refine eF ?_|simp only [reduceCtorEq, AEx.ex.injEq, Nat.reduceEqDiff, if_true, if_false]))
      rename_i p1 u1 p2 u2 p3 u3 p4 u4 p5 u5 c3 d3
      have s1 := sq_in (x := x2) (by omega) (by omega)
      have s2 := sq_in (x := x5) (by omega) (by omega)
      have s3 := m4_in h2 h3
      rw [i64_in (by omega) (by omega)] at u1
      rw [i64_in (by omega) (by omega)] at u2
      rw [i64_in (by omega) (by omega)] at u3
      rw [i64_in (by omega) (by omega)] at u4
      have hp5 : p4 * b = 4 * b * b := by rw [u4]
      rw [hp5, i64_in (by omega) (by omega)] at u5
      simp [evRes, evRes1, one, AV.names, takeCells]
      rw [d3, u3, u1, u2, u5, hfar]
      have e : x2 = 2 * r + wid := by omega
      simp [turnsB, q1, q2, e]

def goesB (len wid front rear turn kilos mid high : Int) (ks ts : List Int) (ls : List Ld) (h : Hd) : Bool :=
  if h.kind = 1 then bendB len wid rear turn h.a h.b else if h.kind = 2 then decide (hgk high ts ≤ h.a) else bridgeB front rear (wtk kilos mid ks ls) h.a h.b
theorem goes_m (len wid front rear turn kilos mid high : Int) (hF : FOk ⟨len, wid, front, rear, turn, kilos, mid, high⟩) (ls : List Ld) (hlen : ls.length ≤ 20) (ks ts : List Int) (hkl : ks.length = ls.length) (htl : ts.length ≤ 20) (hW : ∀ w ∈ wtk kilos mid ks ls, WOk w) (h : Hd) (hh : HOk h) : Does Try.prog 25 [.agg [.int .i64 len, .int .i64 wid, .int .i64 front, .int .i64 rear, .int .i64 turn, .int .i64 kilos, .int .i64 mid, .int .i64 high, .sl (ls.map Ld.av) none], Hd.av h, .agg [IL ks, IL ts]] [] fun v c' => v = .bool (goesB len wid front rear turn kilos mid high ks ts ls h) ∧ c' = [] := by
  have hF' : 2 ≤ len ∧ len ≤ 1200 ∧ 1 ≤ wid ∧ wid ≤ 400 ∧ 0 ≤ front ∧ front < rear ∧ rear ≤ len ∧ 0 ≤ turn ∧ turn < 1500 ∧ 0 ≤ kilos ∧ kilos < 5000 ∧ 0 ≤ mid ∧ mid ≤ len ∧ 0 ≤ high ∧ high < 500 := hF
  have hck := clean_ints ks
  have hct := clean_ints ts
  obtain ⟨kind, a, b⟩ := h
  rcases hh with ⟨k1, k2, k3, k4⟩ | ⟨k1, k2, k3, k4⟩ | ⟨k1, k2, k3, k4, k5⟩
  · simp only [] at k1 k2 k3 k4
    subst k1
    have d1 : Contract Try.prog 33 [.int .i64 (2 * a + wid), .int .i64 2] [] (.int .i64 (-(-(2 * a + wid) / 2))) [] := Does.det (Nat.le_refl _) (up_m (2 * a + wid) 2 (by omega) (by omega) (by omega) (by omega))
    have s1 : IntKind.i64.wrap (2 * a) = 2 * a := i64_in (by omega) (by omega)
    have s2 : IntKind.i64.wrap (2 * a + wid) = 2 * a + wid := i64_in (by omega) (by omega)
    generalize hU : -(-(2 * a + wid) / 2) = U at d1
    generalize hr : (if turn < U then U else turn) = r
    have hr0 : 0 ≤ r ∧ r ≤ 30000 := by rw [← hr]; split <;> omega
    have e : turnsB len wid rear turn a b r = bendB len wid rear turn a b := by
      have e1 : r = turn + wider wid turn a := by
        rw [← hr]
        unfold wider
        split <;> split <;> omega
      have e2 : decide (turn ≤ r) = true := by rw [← hr]; split <;> simp <;> omega
      have e3 : decide (2 * a ≤ 2 * r - wid) = true := by rw [← hr]; split <;> simp <;> omega
      unfold turnsB bendB
      rw [e2, e3, ← e1]
      simp
    have d2 : Contract Try.prog 42 [.agg [.int .i64 len, .int .i64 wid, .int .i64 front, .int .i64 rear, .int .i64 turn, .int .i64 kilos, .int .i64 mid, .int .i64 high, .sl (ls.map Ld.av) none], .agg [.int .i64 1, .int .i64 a, .int .i64 b], .int .i64 r] [] (.bool (turnsB len wid rear turn a b r)) [] := Does.det (Nat.le_refl _) (turns2_m len wid front rear turn kilos mid high a b r (.sl (ls.map Ld.av) none) hF rfl k2 (by omega) (by omega) k4 hr0.1 hr0.2)
    rw [e] at d2
    have hR : List.mapM (ren []) [.agg [.int .i64 len, .int .i64 wid, .int .i64 front, .int .i64 rear, .int .i64 turn, .int .i64 kilos, .int .i64 mid, .int .i64 high, .sl (ls.map Ld.av) none], .agg [.int .i64 1, .int .i64 a, .int .i64 b], .int .i64 r] = some [.agg [.int .i64 len, .int .i64 wid, .int .i64 front, .int .i64 rear, .int .i64 turn, .int .i64 kilos, .int .i64 mid, .int .i64 high, .sl (ls.map Ld.av) none], .agg [.int .i64 1, .int .i64 a, .int .i64 b], .int .i64 r] := by simp [ren, ren1, AV.plain, AV.plain1, AV.clean, cleanL, clean_lds]
    show Does Try.prog 25 [.agg [.int .i64 len, .int .i64 wid, .int .i64 front, .int .i64 rear, .int .i64 turn, .int .i64 kilos, .int .i64 mid, .int .i64 high, .sl (ls.map Ld.av) none], .agg [.int .i64 1, .int .i64 a, .int .i64 b], .agg [IL ks, IL ts]] [] fun v c' => v = .bool (bendB len wid rear turn a b) ∧ c' = []
    generalize bendB len wid rear turn a b = B at d2 ⊢
    unfold IL
    refine Does.of comp25 ?_
    unfold F25
    simp only [start, List.length_cons, List.length_nil, List.replicate, List.cons_append, List.nil_append, Nat.reduceAdd, Nat.reduceSub]
    (repeat (first|((first|refine ExO.nil ?_|refine Ex.skip ?_|refine Ex.ret ?_|refine Ex.exit ?_); try dsimp only)|((first|(refine xI ?_; intro _ _)|refine xL ?_|(refine xB ?_; intro _ _)|refine xG ?_|refine xS ?_|refine xM ?_|(refine xC ?_; intro _ _)|refine xW ?_); try simp only [sA])|refine Ex.seq ?_|refine Ex.reg ?_|refine Ex.block ?_|refine eT ?_|refine eF ?_|simp only [reduceCtorEq, AEx.ex.injEq, Nat.reduceEqDiff, if_true, if_false]))
    apply Ex.drawX (only_ok [(33, [.int .i64 (2 * a + wid), .int .i64 2], .int .i64 U), (42, [.agg [.int .i64 len, .int .i64 wid, .int .i64 front, .int .i64 rear, .int .i64 turn, .int .i64 kilos, .int .i64 mid, .int .i64 high, .sl (ls.map Ld.av) none], .agg [.int .i64 1, .int .i64 a, .int .i64 b], .int .i64 r], .bool B)])
    case hq => rfl
    case h =>
      simp only [List.take_succ_cons, List.take_zero]
      (apply QX.val; (case hw => rfl); (case hv => (simp [vA, fRes_eq, s1, s2]; first|done|exact rfl|(refine ⟨rfl,?_⟩; rfl))); simp only [sA])
      (apply QX.val; (case hw => rfl); (case hv => (simp [vA, fRes_eq, s1, s2]; first|done|exact rfl|(refine ⟨rfl,?_⟩; rfl))); simp only [sA])
      (apply QX.val; (case hw => rfl); (case hv => (simp [vA, fRes_eq, s1, s2]; first|done|exact rfl|(refine ⟨rfl,?_⟩; rfl))); simp only [sA])
      (apply QX.val; (case hw => rfl); (case hv => (simp [vA, fRes_eq, s1, s2]; first|done|exact rfl|(refine ⟨rfl,?_⟩; rfl))); simp only [sA])
      (apply QX.val; (case hw => rfl); (case hv => (simp [vA, fRes_eq, s1, s2]; first|done|exact rfl|(refine ⟨rfl,?_⟩; rfl))); simp only [sA])
      (apply QX.val; (case hw => rfl); (case hv => (simp [vA, fRes_eq, s1, s2]; first|done|exact rfl|(refine ⟨rfl,?_⟩; rfl))); simp only [sA])
      (apply QX.val; (case hw => rfl); (case hv => (simp [vA, fRes_eq, s1, s2]; first|done|exact rfl|(refine ⟨rfl,?_⟩; rfl))); simp only [sA])
      (apply QX.val; (case hw => rfl); (case hv => (simp [vA, fRes_eq, s1, s2]; first|done|exact rfl|(refine ⟨rfl,?_⟩; rfl))); simp only [sA])
      (apply QX.val; (case hw => rfl); (case hv => (simp [vA, fRes_eq, s1, s2]; first|done|exact rfl|(refine ⟨rfl,?_⟩; rfl))); simp only [sA])
      (apply QX.val; (case hw => rfl); (case hv => (simp [vA, fRes_eq, s1, s2]; first|done|exact rfl|(refine ⟨rfl,?_⟩; rfl))); simp only [sA])
      (apply QX.call 33 [.int .i64 (2 * a + wid), .int .i64 2] (.int .i64 U); (case hw => rfl); (case hv => simp [aop, evd]); (case hc => exact call_onlyN _ rfl (by rfl) d1 (by simp) (by simp) (fun n => rfl)); simp only [sA])
      (apply QX.val; (case hw => rfl); (case hv => (simp [vA, fRes_eq, hr]; first|done|exact rfl|(refine ⟨rfl,?_⟩; rfl))); simp only [sA])
      exact QX.nil
    case h2 =>
      simp only [List.drop_succ_cons, List.drop_zero]
      (apply QX.call 42 [.agg [.int .i64 len, .int .i64 wid, .int .i64 front, .int .i64 rear, .int .i64 turn, .int .i64 kilos, .int .i64 mid, .int .i64 high, .sl (ls.map Ld.av) none], .agg [.int .i64 1, .int .i64 a, .int .i64 b], .int .i64 r] (.bool B); (case hw => rfl); (case hv => simp [aop, evd]); (case hc => exact call_onlyN _ rfl hR d2 (by simp) (by simp) (fun n => rfl)); simp only [sA])
      (apply QX.val; (case hw => rfl); (case hv => (simp [vA, fRes_eq]; first|done|exact rfl|(refine ⟨rfl,?_⟩; rfl))); simp only [sA])
      exact QX.nil
    (repeat (first|((first|refine ExO.nil ?_|refine Ex.skip ?_|refine Ex.ret ?_|refine Ex.exit ?_); try dsimp only)|((first|(refine xI ?_; intro _ _)|refine xL ?_|(refine xB ?_; intro _ _)|refine xG ?_|refine xS ?_|refine xM ?_|(refine xC ?_; intro _ _)|refine xW ?_); try simp only [sA])|refine Ex.seq ?_|refine Ex.reg ?_|refine Ex.block ?_|refine eT ?_|refine eF ?_|simp only [reduceCtorEq, AEx.ex.injEq, Nat.reduceEqDiff, if_true, if_false]))
    simp [evRes, evRes1, one, AV.names, takeCells]
  · simp only [] at k1 k2 k3 k4
    subst k1
    have d1 := Does.det (Nat.le_refl _) (tall_m len wid front rear turn kilos mid high ls ks ts htl)
    have hR : List.mapM (ren []) [.agg [.int .i64 len, .int .i64 wid, .int .i64 front, .int .i64 rear, .int .i64 turn, .int .i64 kilos, .int .i64 mid, .int .i64 high, .sl (ls.map Ld.av) none], .agg [.sl (ks.map fun z => AV.int .i64 z) none, .sl (ts.map fun z => AV.int .i64 z) none]] = some [.agg [.int .i64 len, .int .i64 wid, .int .i64 front, .int .i64 rear, .int .i64 turn, .int .i64 kilos, .int .i64 mid, .int .i64 high, .sl (ls.map Ld.av) none], .agg [.sl (ks.map fun z => AV.int .i64 z) none, .sl (ts.map fun z => AV.int .i64 z) none]] := by simp [ren, ren1, AV.plain, AV.plain1, AV.clean, cleanL, clean_lds, hck, hct]
    show Does Try.prog 25 [.agg [.int .i64 len, .int .i64 wid, .int .i64 front, .int .i64 rear, .int .i64 turn, .int .i64 kilos, .int .i64 mid, .int .i64 high, .sl (ls.map Ld.av) none], .agg [.int .i64 2, .int .i64 a, .int .i64 b], .agg [IL ks, IL ts]] [] fun v c' => v = .bool (decide (hgk high ts ≤ a)) ∧ c' = []
    generalize hgk high ts = HG at d1 ⊢
    unfold IL at d1 ⊢
    refine Does.of comp25 ?_
    unfold F25
    simp only [start, List.length_cons, List.length_nil, List.replicate, List.cons_append, List.nil_append, Nat.reduceAdd, Nat.reduceSub]
    (repeat (first|((first|refine ExO.nil ?_|refine Ex.skip ?_|refine Ex.ret ?_|refine Ex.exit ?_); try dsimp only)|((first|(refine xI ?_; intro _ _)|refine xL ?_|(refine xB ?_; intro _ _)|refine xG ?_|refine xS ?_|refine xM ?_|(refine xC ?_; intro _ _)|refine xW ?_); try simp only [sA])|refine Ex.seq ?_|refine Ex.reg ?_|refine Ex.block ?_|refine eT ?_|refine eF ?_|simp only [reduceCtorEq, AEx.ex.injEq, Nat.reduceEqDiff, if_true, if_false]))
    apply Ex.drawX (only_ok [(23, [.agg [.int .i64 len, .int .i64 wid, .int .i64 front, .int .i64 rear, .int .i64 turn, .int .i64 kilos, .int .i64 mid, .int .i64 high, .sl (ls.map Ld.av) none], .agg [.sl (ks.map fun z => AV.int .i64 z) none, .sl (ts.map fun z => AV.int .i64 z) none]], .int .i64 HG)])
    case hq => rfl
    case h =>
      simp only [List.take_succ_cons, List.take_zero]
      (apply QX.val; (case hw => rfl); (case hv => (simp [vA, fRes_eq]; first|done|exact rfl|(refine ⟨rfl,?_⟩; rfl))); simp only [sA])
      (apply QX.val; (case hw => rfl); (case hv => (simp [vA, fRes_eq]; first|done|exact rfl|(refine ⟨rfl,?_⟩; rfl))); simp only [sA])
      (apply QX.call 23 [.agg [.int .i64 len, .int .i64 wid, .int .i64 front, .int .i64 rear, .int .i64 turn, .int .i64 kilos, .int .i64 mid, .int .i64 high, .sl (ls.map Ld.av) none], .agg [.sl (ks.map fun z => AV.int .i64 z) none, .sl (ts.map fun z => AV.int .i64 z) none]] (.int .i64 HG); (case hw => rfl); (case hv => simp [aop, evd]); (case hc => exact call_onlyN _ rfl hR d1 (by simp) (by simp) (fun n => rfl)); simp only [sA])
      (apply QX.val; (case hw => rfl); (case hv => (simp [vA, fRes_eq]; first|done|exact rfl|(refine ⟨rfl,?_⟩; rfl))); simp only [sA])
      (apply QX.val; (case hw => rfl); (case hv => (simp [vA, fRes_eq]; first|done|exact rfl|(refine ⟨rfl,?_⟩; rfl))); simp only [sA])
      exact QX.nil
    case h2 =>
      simp only [List.drop_succ_cons, List.drop_zero]
      (apply QX.val; (case hw => rfl); (case hv => (simp [vA, fRes_eq]; first|done|exact rfl|(refine ⟨rfl,?_⟩; rfl))); simp only [sA])
      (apply QX.val; (case hw => rfl); (case hv => (simp [vA, fRes_eq]; first|done|exact rfl|(refine ⟨rfl,?_⟩; rfl))); simp only [sA])
      exact QX.nil
    (repeat (first|((first|refine ExO.nil ?_|refine Ex.skip ?_|refine Ex.ret ?_|refine Ex.exit ?_); try dsimp only)|((first|(refine xI ?_; intro _ _)|refine xL ?_|(refine xB ?_; intro _ _)|refine xG ?_|refine xS ?_|refine xM ?_|(refine xC ?_; intro _ _)|refine xW ?_); try simp only [sA])|refine Ex.seq ?_|refine Ex.reg ?_|refine Ex.block ?_|refine eT ?_|refine eF ?_|simp only [reduceCtorEq, AEx.ex.injEq, Nat.reduceEqDiff, if_true, if_false]))
    simp [evRes, evRes1, one, AV.names, takeCells]
  · simp only [] at k1 k2 k3 k4 k5
    subst k1
    have d1 := Does.det (Nat.le_refl _) (weighs_m len wid front rear turn kilos mid high ls ks ts hlen hkl hW)
    have d2 := carries_m len wid front rear turn kilos mid high ls ks ts hlen hkl hW (by omega) (by omega) (by omega) (by omega)
    have hR : List.mapM (ren []) [.agg [.int .i64 len, .int .i64 wid, .int .i64 front, .int .i64 rear, .int .i64 turn, .int .i64 kilos, .int .i64 mid, .int .i64 high, .sl (ls.map Ld.av) none], .agg [.sl (ks.map fun z => AV.int .i64 z) none, .sl (ts.map fun z => AV.int .i64 z) none]] = some [.agg [.int .i64 len, .int .i64 wid, .int .i64 front, .int .i64 rear, .int .i64 turn, .int .i64 kilos, .int .i64 mid, .int .i64 high, .sl (ls.map Ld.av) none], .agg [.sl (ks.map fun z => AV.int .i64 z) none, .sl (ts.map fun z => AV.int .i64 z) none]] := by simp [ren, ren1, AV.plain, AV.plain1, AV.clean, cleanL, clean_lds, hck, hct]
    have hm0 : 0 ≤ b * (rear - front) := Int.mul_nonneg k4 (by omega)
    have hm1 : b * (rear - front) ≤ 10000000 * 1200 := Int.mul_le_mul k5 (by omega) (by omega) (by omega)
    have s1 : IntKind.i64.wrap (rear - front) = rear - front := i64_in (by omega) (by omega)
    have s2 : IntKind.i64.wrap (b * (rear - front)) = b * (rear - front) := i64_in (by omega) (by omega)
    show Does Try.prog 25 [.agg [.int .i64 len, .int .i64 wid, .int .i64 front, .int .i64 rear, .int .i64 turn, .int .i64 kilos, .int .i64 mid, .int .i64 high, .sl (ls.map Ld.av) none], .agg [.int .i64 3, .int .i64 a, .int .i64 b], .agg [IL ks, IL ts]] [] fun v c' => v = .bool (bridgeB front rear (wtk kilos mid ks ls) a b) ∧ c' = []
    unfold bridgeB
    generalize tot (wtk kilos mid ks ls) = TT at d1 ⊢
    generalize -mom rear (wtk kilos mid ks ls) = MR at d2 ⊢
    generalize mom front (wtk kilos mid ks ls) = MF at d2 ⊢
    unfold IL at d1 d2 ⊢
    refine Does.of comp25 ?_
    unfold F25
    simp only [start, List.length_cons, List.length_nil, List.replicate, List.cons_append, List.nil_append, Nat.reduceAdd, Nat.reduceSub]
    (repeat (first|((first|refine ExO.nil ?_|refine Ex.skip ?_|refine Ex.ret ?_|refine Ex.exit ?_); try dsimp only)|((first|(refine xI ?_; intro _ _)|refine xL ?_|(refine xB ?_; intro _ _)|refine xG ?_|refine xS ?_|refine xM ?_|(refine xC ?_; intro _ _)|refine xW ?_); try simp only [sA])|refine Ex.seq ?_|refine Ex.reg ?_|refine Ex.block ?_|refine eT ?_|refine eF ?_|simp only [reduceCtorEq, AEx.ex.injEq, Nat.reduceEqDiff, if_true, if_false]))
    refine ExO.call (f := 20) (xs := [.agg [.int .i64 len, .int .i64 wid, .int .i64 front, .int .i64 rear, .int .i64 turn, .int .i64 kilos, .int .i64 mid, .int .i64 high, .sl (ls.map Ld.av) none], .agg [.sl (ks.map fun z => AV.int .i64 z) none, .sl (ts.map fun z => AV.int .i64 z) none]]) (ys := [.agg [.int .i64 len, .int .i64 wid, .int .i64 front, .int .i64 rear, .int .i64 turn, .int .i64 kilos, .int .i64 mid, .int .i64 high, .sl (ls.map Ld.av) none], .agg [.sl (ks.map fun z => AV.int .i64 z) none, .sl (ts.map fun z => AV.int .i64 z) none]]) (bs := []) (cells := []) (by rfl) (by rfl) (by rfl) (by exact hR) (by rfl) (by rfl) d2 ?_
    rintro v c' ⟨rfl, rfl⟩
    refine ⟨_, rfl, rfl, ?_⟩
    simp only [List.map_cons, List.map_nil, putA, List.set_cons_zero, List.set_cons_succ, AV.plain, AV.plain1, setAll, List.length_cons, List.length_nil, List.drop_succ_cons, List.drop_zero, List.drop_nil, List.append_nil, Nat.reduceAdd]
    (repeat (first|((first|refine ExO.nil ?_|refine Ex.skip ?_|refine Ex.ret ?_|refine Ex.exit ?_); try dsimp only)|((first|(refine xI ?_; intro _ _)|refine xL ?_|(refine xB ?_; intro _ _)|refine xG ?_|refine xS ?_|refine xM ?_|(refine xC ?_; intro _ _)|refine xW ?_); try simp only [sA])|refine Ex.seq ?_|refine Ex.reg ?_|refine Ex.block ?_|refine eT ?_|refine eF ?_|simp only [reduceCtorEq, AEx.ex.injEq, Nat.reduceEqDiff, if_true, if_false]))
    rename_i K hK
    rw [s1] at hK
    subst hK
    clear s1 hm0 hm1
    generalize rear - front = K at s2 ⊢
    generalize hBM : b * K = BM at s2 ⊢
    by_cases hy : TT ≤ a
    · by_cases hy2 : MR ≤ BM
      · apply Ex.drawX (only_ok [(22, [.agg [.int .i64 len, .int .i64 wid, .int .i64 front, .int .i64 rear, .int .i64 turn, .int .i64 kilos, .int .i64 mid, .int .i64 high, .sl (ls.map Ld.av) none], .agg [.sl (ks.map fun z => AV.int .i64 z) none, .sl (ts.map fun z => AV.int .i64 z) none]], .int .i64 TT)])
        case hq => rfl
        case h =>
          simp only [List.take_succ_cons, List.take_zero]
          (apply QX.val; (case hw => rfl); (case hv => (simp [vA, fRes_eq]; first|done|exact rfl|(refine ⟨rfl,?_⟩; rfl))); simp only [sA])
          (apply QX.val; (case hw => rfl); (case hv => (simp [vA, fRes_eq]; first|done|exact rfl|(refine ⟨rfl,?_⟩; rfl))); simp only [sA])
          (apply QX.call 22 [.agg [.int .i64 len, .int .i64 wid, .int .i64 front, .int .i64 rear, .int .i64 turn, .int .i64 kilos, .int .i64 mid, .int .i64 high, .sl (ls.map Ld.av) none], .agg [.sl (ks.map fun z => AV.int .i64 z) none, .sl (ts.map fun z => AV.int .i64 z) none]] (.int .i64 TT); (case hw => rfl); (case hv => simp [aop, evd]); (case hc => exact call_onlyN _ rfl hR d1 (by simp) (by simp) (fun n => rfl)); simp only [sA])
          (apply QX.val; (case hw => rfl); (case hv => (simp [vA, fRes_eq]; first|done|exact rfl|(refine ⟨rfl,?_⟩; rfl))); simp only [sA])
          (apply QX.val; (case hw => rfl); (case hv => (simp [vA, fRes_eq]; first|done|exact rfl|(refine ⟨rfl,?_⟩; rfl))); simp only [sA])
          (apply QX.val; (case hw => rfl); (case hv => (simp [vA, fRes_eq, hy]; first|done|exact rfl|(refine ⟨rfl,?_⟩; rfl))); simp only [sA])
          (apply QX.val; (case hw => rfl); (case hv => (simp [vA, fRes_eq]; first|done|exact rfl|(refine ⟨rfl,?_⟩; rfl))); simp only [sA])
          (apply QX.val; (case hw => rfl); (case hv => (simp [vA, fRes_eq, hBM, s2]; first|done|exact rfl|(refine ⟨rfl,?_⟩; rfl))); simp only [sA])
          (apply QX.val; (case hw => rfl); (case hv => (simp [vA, fRes_eq, hBM, s2]; first|done|exact rfl|(refine ⟨rfl,?_⟩; rfl))); simp only [sA])
          (apply QX.val; (case hw => rfl); (case hv => (simp [vA, fRes_eq, hBM, s2]; first|done|exact rfl|(refine ⟨rfl,?_⟩; rfl))); simp only [sA])
          (apply QX.val; (case hw => rfl); (case hv => (simp [vA, fRes_eq, hBM, s2]; first|done|exact rfl|(refine ⟨rfl,?_⟩; rfl))); simp only [sA])
          (apply QX.val; (case hw => rfl); (case hv => (simp [vA, fRes_eq, hBM, s2]; first|done|exact rfl|(refine ⟨rfl,?_⟩; rfl))); simp only [sA])
          (apply QX.val; (case hw => rfl); (case hv => (simp [vA, fRes_eq, hy2]; first|done|exact rfl|(refine ⟨rfl,?_⟩; rfl))); simp only [sA])
          (apply QX.val; (case hw => rfl); (case hv => (simp [vA, fRes_eq]; first|done|exact rfl|(refine ⟨rfl,?_⟩; rfl))); simp only [sA])
          (apply QX.val; (case hw => rfl); (case hv => (simp [vA, fRes_eq]; first|done|exact rfl|(refine ⟨rfl,?_⟩; rfl))); simp only [sA])
          (apply QX.val; (case hw => rfl); (case hv => (simp [vA, fRes_eq, hBM, s2]; first|done|exact rfl|(refine ⟨rfl,?_⟩; rfl))); simp only [sA])
          (apply QX.val; (case hw => rfl); (case hv => (simp [vA, fRes_eq, hBM, s2]; first|done|exact rfl|(refine ⟨rfl,?_⟩; rfl))); simp only [sA])
          (apply QX.val; (case hw => rfl); (case hv => (simp [vA, fRes_eq, hBM, s2]; first|done|exact rfl|(refine ⟨rfl,?_⟩; rfl))); simp only [sA])
          (apply QX.val; (case hw => rfl); (case hv => (simp [vA, fRes_eq, hBM, s2]; first|done|exact rfl|(refine ⟨rfl,?_⟩; rfl))); simp only [sA])
          (apply QX.val; (case hw => rfl); (case hv => (simp [vA, fRes_eq, hBM, s2]; first|done|exact rfl|(refine ⟨rfl,?_⟩; rfl))); simp only [sA])
          exact QX.nil
        case h2 =>
          simp only [List.drop_succ_cons, List.drop_zero]
          (apply QX.val; (case hw => rfl); (case hv => (simp [vA, fRes_eq]; first|done|exact rfl|(refine ⟨rfl,?_⟩; rfl))); simp only [sA])
          (apply QX.val; (case hw => rfl); (case hv => (simp [vA, fRes_eq]; first|done|exact rfl|(refine ⟨rfl,?_⟩; rfl))); simp only [sA])
          (apply QX.val; (case hw => rfl); (case hv => (simp [vA, fRes_eq]; first|done|exact rfl|(refine ⟨rfl,?_⟩; rfl))); simp only [sA])
          exact QX.nil
        (repeat (first|((first|refine ExO.nil ?_|refine Ex.skip ?_|refine Ex.ret ?_|refine Ex.exit ?_); try dsimp only)|((first|(refine xI ?_; intro _ _)|refine xL ?_|(refine xB ?_; intro _ _)|refine xG ?_|refine xS ?_|refine xM ?_|(refine xC ?_; intro _ _)|refine xW ?_); try simp only [sA])|refine Ex.seq ?_|refine Ex.reg ?_|refine Ex.block ?_|refine eT ?_|refine eF ?_|simp only [reduceCtorEq, AEx.ex.injEq, Nat.reduceEqDiff, if_true, if_false]))
        simp [evRes, evRes1, one, AV.names, takeCells, hy, hy2]
      · apply Ex.drawX (only_ok [(22, [.agg [.int .i64 len, .int .i64 wid, .int .i64 front, .int .i64 rear, .int .i64 turn, .int .i64 kilos, .int .i64 mid, .int .i64 high, .sl (ls.map Ld.av) none], .agg [.sl (ks.map fun z => AV.int .i64 z) none, .sl (ts.map fun z => AV.int .i64 z) none]], .int .i64 TT)])
        case hq => rfl
        case h =>
          simp only [List.take_succ_cons, List.take_zero]
          (apply QX.val; (case hw => rfl); (case hv => (simp [vA, fRes_eq]; first|done|exact rfl|(refine ⟨rfl,?_⟩; rfl))); simp only [sA])
          (apply QX.val; (case hw => rfl); (case hv => (simp [vA, fRes_eq]; first|done|exact rfl|(refine ⟨rfl,?_⟩; rfl))); simp only [sA])
          (apply QX.call 22 [.agg [.int .i64 len, .int .i64 wid, .int .i64 front, .int .i64 rear, .int .i64 turn, .int .i64 kilos, .int .i64 mid, .int .i64 high, .sl (ls.map Ld.av) none], .agg [.sl (ks.map fun z => AV.int .i64 z) none, .sl (ts.map fun z => AV.int .i64 z) none]] (.int .i64 TT); (case hw => rfl); (case hv => simp [aop, evd]); (case hc => exact call_onlyN _ rfl hR d1 (by simp) (by simp) (fun n => rfl)); simp only [sA])
          (apply QX.val; (case hw => rfl); (case hv => (simp [vA, fRes_eq]; first|done|exact rfl|(refine ⟨rfl,?_⟩; rfl))); simp only [sA])
          (apply QX.val; (case hw => rfl); (case hv => (simp [vA, fRes_eq]; first|done|exact rfl|(refine ⟨rfl,?_⟩; rfl))); simp only [sA])
          (apply QX.val; (case hw => rfl); (case hv => (simp [vA, fRes_eq, hy]; first|done|exact rfl|(refine ⟨rfl,?_⟩; rfl))); simp only [sA])
          (apply QX.val; (case hw => rfl); (case hv => (simp [vA, fRes_eq]; first|done|exact rfl|(refine ⟨rfl,?_⟩; rfl))); simp only [sA])
          (apply QX.val; (case hw => rfl); (case hv => (simp [vA, fRes_eq, hBM, s2]; first|done|exact rfl|(refine ⟨rfl,?_⟩; rfl))); simp only [sA])
          (apply QX.val; (case hw => rfl); (case hv => (simp [vA, fRes_eq, hBM, s2]; first|done|exact rfl|(refine ⟨rfl,?_⟩; rfl))); simp only [sA])
          (apply QX.val; (case hw => rfl); (case hv => (simp [vA, fRes_eq, hBM, s2]; first|done|exact rfl|(refine ⟨rfl,?_⟩; rfl))); simp only [sA])
          (apply QX.val; (case hw => rfl); (case hv => (simp [vA, fRes_eq, hBM, s2]; first|done|exact rfl|(refine ⟨rfl,?_⟩; rfl))); simp only [sA])
          (apply QX.val; (case hw => rfl); (case hv => (simp [vA, fRes_eq, hBM, s2]; first|done|exact rfl|(refine ⟨rfl,?_⟩; rfl))); simp only [sA])
          (apply QX.val; (case hw => rfl); (case hv => (simp [vA, fRes_eq, hy2]; first|done|exact rfl|(refine ⟨rfl,?_⟩; rfl))); simp only [sA])
          (apply QX.val; (case hw => rfl); (case hv => (simp [vA, fRes_eq]; first|done|exact rfl|(refine ⟨rfl,?_⟩; rfl))); simp only [sA])
          (apply QX.val; (case hw => rfl); (case hv => (simp [vA, fRes_eq]; first|done|exact rfl|(refine ⟨rfl,?_⟩; rfl))); simp only [sA])
          (apply QX.skip; (case hw => rfl); simp only [sA])
          (apply QX.skip; (case hw => rfl); simp only [sA])
          (apply QX.skip; (case hw => rfl); simp only [sA])
          (apply QX.skip; (case hw => rfl); simp only [sA])
          (apply QX.skip; (case hw => rfl); simp only [sA])
          exact QX.nil
        case h2 =>
          simp only [List.drop_succ_cons, List.drop_zero]
          (apply QX.skip; (case hw => rfl); simp only [sA])
          (apply QX.val; (case hw => rfl); (case hv => (simp [vA, fRes_eq]; first|done|exact rfl|(refine ⟨rfl,?_⟩; rfl))); simp only [sA])
          (apply QX.val; (case hw => rfl); (case hv => (simp [vA, fRes_eq]; first|done|exact rfl|(refine ⟨rfl,?_⟩; rfl))); simp only [sA])
          exact QX.nil
        (repeat (first|((first|refine ExO.nil ?_|refine Ex.skip ?_|refine Ex.ret ?_|refine Ex.exit ?_); try dsimp only)|((first|(refine xI ?_; intro _ _)|refine xL ?_|(refine xB ?_; intro _ _)|refine xG ?_|refine xS ?_|refine xM ?_|(refine xC ?_; intro _ _)|refine xW ?_); try simp only [sA])|refine Ex.seq ?_|refine Ex.reg ?_|refine Ex.block ?_|refine eT ?_|refine eF ?_|simp only [reduceCtorEq, AEx.ex.injEq, Nat.reduceEqDiff, if_true, if_false]))
        simp [evRes, evRes1, one, AV.names, takeCells, hy, hy2]
    · apply Ex.drawX (only_ok [(22, [.agg [.int .i64 len, .int .i64 wid, .int .i64 front, .int .i64 rear, .int .i64 turn, .int .i64 kilos, .int .i64 mid, .int .i64 high, .sl (ls.map Ld.av) none], .agg [.sl (ks.map fun z => AV.int .i64 z) none, .sl (ts.map fun z => AV.int .i64 z) none]], .int .i64 TT)])
      case hq => rfl
      case h =>
        simp only [List.take_succ_cons, List.take_zero]
        (apply QX.val; (case hw => rfl); (case hv => (simp [vA, fRes_eq]; first|done|exact rfl|(refine ⟨rfl,?_⟩; rfl))); simp only [sA])
        (apply QX.val; (case hw => rfl); (case hv => (simp [vA, fRes_eq]; first|done|exact rfl|(refine ⟨rfl,?_⟩; rfl))); simp only [sA])
        (apply QX.call 22 [.agg [.int .i64 len, .int .i64 wid, .int .i64 front, .int .i64 rear, .int .i64 turn, .int .i64 kilos, .int .i64 mid, .int .i64 high, .sl (ls.map Ld.av) none], .agg [.sl (ks.map fun z => AV.int .i64 z) none, .sl (ts.map fun z => AV.int .i64 z) none]] (.int .i64 TT); (case hw => rfl); (case hv => simp [aop, evd]); (case hc => exact call_onlyN _ rfl hR d1 (by simp) (by simp) (fun n => rfl)); simp only [sA])
        (apply QX.val; (case hw => rfl); (case hv => (simp [vA, fRes_eq]; first|done|exact rfl|(refine ⟨rfl,?_⟩; rfl))); simp only [sA])
        (apply QX.val; (case hw => rfl); (case hv => (simp [vA, fRes_eq]; first|done|exact rfl|(refine ⟨rfl,?_⟩; rfl))); simp only [sA])
        (apply QX.val; (case hw => rfl); (case hv => (simp [vA, fRes_eq, hy]; first|done|exact rfl|(refine ⟨rfl,?_⟩; rfl))); simp only [sA])
        (apply QX.val; (case hw => rfl); (case hv => (simp [vA, fRes_eq]; first|done|exact rfl|(refine ⟨rfl,?_⟩; rfl))); simp only [sA])
        (apply QX.skip; (case hw => rfl); simp only [sA])
        (apply QX.skip; (case hw => rfl); simp only [sA])
        (apply QX.skip; (case hw => rfl); simp only [sA])
        (apply QX.skip; (case hw => rfl); simp only [sA])
        (apply QX.skip; (case hw => rfl); simp only [sA])
        (apply QX.skip; (case hw => rfl); simp only [sA])
        (apply QX.val; (case hw => rfl); (case hv => (simp [vA, fRes_eq]; first|done|exact rfl|(refine ⟨rfl,?_⟩; rfl))); simp only [sA])
        (apply QX.val; (case hw => rfl); (case hv => (simp [vA, fRes_eq]; first|done|exact rfl|(refine ⟨rfl,?_⟩; rfl))); simp only [sA])
        (apply QX.skip; (case hw => rfl); simp only [sA])
        (apply QX.skip; (case hw => rfl); simp only [sA])
        (apply QX.skip; (case hw => rfl); simp only [sA])
        (apply QX.skip; (case hw => rfl); simp only [sA])
        (apply QX.skip; (case hw => rfl); simp only [sA])
        exact QX.nil
      case h2 =>
        simp only [List.drop_succ_cons, List.drop_zero]
        (apply QX.skip; (case hw => rfl); simp only [sA])
        (apply QX.val; (case hw => rfl); (case hv => (simp [vA, fRes_eq]; first|done|exact rfl|(refine ⟨rfl,?_⟩; rfl))); simp only [sA])
        (apply QX.val; (case hw => rfl); (case hv => (simp [vA, fRes_eq]; first|done|exact rfl|(refine ⟨rfl,?_⟩; rfl))); simp only [sA])
        exact QX.nil
      (repeat (first|((first|refine ExO.nil ?_|refine Ex.skip ?_|refine Ex.ret ?_|refine Ex.exit ?_); try dsimp only)|((first|(refine xI ?_; intro _ _)|refine xL ?_|(refine xB ?_; intro _ _)|refine xG ?_|refine xS ?_|refine xM ?_|(refine xC ?_; intro _ _)|refine xW ?_); try simp only [sA])|refine Ex.seq ?_|refine Ex.reg ?_|refine Ex.block ?_|refine eT ?_|refine eF ?_|simp only [reduceCtorEq, AEx.ex.injEq, Nat.reduceEqDiff, if_true, if_false]))
      simp [evRes, evRes1, one, AV.names, takeCells, hy]

theorem wtk_nar (kilos mid : Int) : ∀ (ls ms : List Ld), narL ls ms → wtk kilos mid (ms.map Ld.klo) ls = wts kilos mid Ld.klo ms := by
  intro ls ms h
  unfold wtk wts
  congr 1
  induction ls generalizing ms with
  | nil => cases ms with
    | nil => rfl
    | cons m ms => exact h.elim
  | cons l ls ih => cases ms with
    | nil => exact h.elim
    | cons m ms =>
      have e := ih ms h.2
      simp only [List.map_cons, List.zipWith_cons_cons]
      rw [e, h.1.pt]
theorem goes_nar (len wid front rear turn kilos mid high : Int) (ls ms : List Ld) (h : narL ls ms) (x : Hd) : goesB len wid front rear turn kilos mid high (ms.map Ld.klo) (ms.map Ld.tlo) ls x = passB len wid front rear turn kilos mid high Ld.klo Ld.tlo ms x := by
  unfold goesB passB
  rw [wtk_nar kilos mid ls ms h, hgk_map]
theorem goes_in (len wid front rear turn kilos mid high : Int) (ls ms : List Ld) (h : narL ls ms) (hpt : ∀ l ∈ ls, front ≤ l.pt ∧ l.pt ≤ rear) (x : Hd) : (passB len wid front rear turn kilos mid high Ld.khi Ld.thi ls x = true → goesB len wid front rear turn kilos mid high (ms.map Ld.klo) (ms.map Ld.tlo) ls x = true) ∧ (goesB len wid front rear turn kilos mid high (ms.map Ld.klo) (ms.map Ld.tlo) ls x = true → passB len wid front rear turn kilos mid high Ld.klo Ld.tlo ls x = true) := by
  rw [goes_nar _ _ _ _ _ _ _ _ _ _ h]
  exact ⟨fun hp => (lt_of' front rear kilos mid high Ld.khi Ld.thi Ld.klo Ld.tlo ls ms h hpt (fun l m q => Int.le_trans q.k2 q.k3) (fun l m q => Int.le_trans q.t2 q.t3)).passB len wid turn x hp, fun hp => (lt_of front rear kilos mid high Ld.klo Ld.tlo Ld.klo Ld.tlo ls ms h hpt (fun l m q => q.k1) (fun l m q => q.t1)).passB len wid turn x hp⟩
end Go.Proofs.Ytoefpcpijolofaa
end
section
namespace Go.Proofs.Ytoefpcpijolofaa
open Go.RowKit
set_option linter.unusedVariables false
set_option linter.unusedSimpArgs false
set_option maxRecDepth 10000
set_option maxHeartbeats 4000000

theorem hgt_bd (high : Int) (g : Ld → Int) (ls : List Ld) (h : ∀ l ∈ ls, 0 ≤ g l ∧ g l ≤ 700) (h0 : 0 ≤ high) (h1 : high ≤ 2000) : 0 ≤ hgt high g ls ∧ hgt high g ls ≤ 2000 := by
  induction ls generalizing high with
  | nil => exact ⟨h0, h1⟩
  | cons l ls ih =>
    have hl := h l (by simp)
    show 0 ≤ hgt (if high < g l then g l else high) g ls ∧ hgt (if high < g l then g l else high) g ls ≤ 2000
    refine ih _ (fun x hx => h x (List.mem_cons_of_mem _ hx)) ?_ ?_ <;> split <;> omega

theorem routeOf_m (b n : Int) (n0 : 0 ≤ n) (n1 : n ≤ 20) (len wid front rear turn kilos mid high : Int) (hF : FOk ⟨len, wid, front, rear, turn, kilos, mid, high⟩) (ls : List Ld) (hlen : ls.length ≤ 20) (hall : ∀ l ∈ ls, LOk ⟨len, wid, front, rear, turn, kilos, mid, high⟩ l) : Does Try.prog 13 [.ptr 0 0, .agg [.int .i64 len, .int .i64 wid, .int .i64 front, .int .i64 rear, .int .i64 turn, .int .i64 kilos, .int .i64 mid, .int .i64 high, .sl (ls.map Ld.av) none], .int .i64 n] [[.int .u64 b]] fun v c' => ∃ (hs : List Hd) (b' : Int), v = .sl (hs.map Hd.av) none ∧ c' = [[.int .u64 b']] ∧ (∀ h ∈ hs, HOk h) ∧ (hs.length : Int) ≤ n := by
  have hF' : 2 ≤ len ∧ len ≤ 1200 ∧ 1 ≤ wid ∧ wid ≤ 400 ∧ 0 ≤ front ∧ front < rear ∧ rear ≤ len ∧ 0 ≤ turn ∧ turn < 1500 ∧ 0 ≤ kilos ∧ kilos < 5000 ∧ 0 ≤ mid ∧ mid ≤ len ∧ 0 ≤ high ∧ high < 500 := hF
  have hw1 := wts_ok _ hF Ld.klo (klo_ok _) ls hall
  have hw2 := wts_ok _ hF Ld.khi (khi_ok _) ls hall
  simp only [] at hw1 hw2
  have t1 := tot_in _ hw1
  have t2 := tot_in _ hw2
  rw [wts_len] at t1 t2
  have hlo : ∀ l ∈ ls, front ≤ l.pt ∧ l.pt ≤ rear ∧ 0 ≤ l.klo ∧ l.klo ≤ l.khi ∧ l.khi ≤ 900 ∧ 0 ≤ l.tlo ∧ l.tlo ≤ l.thi ∧ l.thi ≤ 700 := fun l hl => by
    have := hall l hl
    have h1 : front ≤ l.pt ∧ l.pt ≤ rear ∧ 0 ≤ l.klo ∧ l.klo ≤ l.khi ∧ l.khi ≤ 900 ∧ 0 ≤ l.tlo ∧ l.tlo ≤ l.thi ∧ l.thi ≤ 700 ∧ 1 ≤ l.kind ∧ l.kind ≤ 4 ∧ 0 ≤ l.watts ∧ l.watts < 3000 ∧ (l.watts = 0 ∨ l.kind = 2 ∨ l.kind = 3) := this
    omega
  have r1 := rear_bd kilos mid front rear Ld.klo ls hlen (fun l hl => by have := hlo l hl; omega) (by omega) (by omega) (by omega) (by omega) (by omega) (by omega) (by omega)
  have r2 := rear_bd kilos mid front rear Ld.khi ls hlen (fun l hl => by have := hlo l hl; omega) (by omega) (by omega) (by omega) (by omega) (by omega) (by omega) (by omega)
  have g1 := hgt_bd high Ld.tlo ls (fun l hl => by have := hlo l hl; omega) (by omega) (by omega)
  have g2 := hgt_bd high Ld.thi ls (fun l hl => by have := hlo l hl; omega) (by omega) (by omega)
  have e1 := TotalR_m len wid front rear turn kilos mid high hF ls hlen hall
  have e2 := AxlesR_m len wid front rear turn kilos mid high hF ls hlen hall
  have e3 := HeightR_m len wid front rear turn kilos mid high hF ls hlen hall
  unfold parts at e2
  have l21 : ((ls.length + 1 : Nat) : Int) ≤ 21 := by omega
  generalize tot (wts kilos mid Ld.klo ls) = T1v at e1 t1
  generalize tot (wts kilos mid Ld.khi ls) = T2v at e1 t2
  generalize mom front (wts kilos mid Ld.klo ls) / (rear - front) = R1v at e2 r1
  generalize -(-mom front (wts kilos mid Ld.khi ls) / (rear - front)) = R2v at e2 r2
  generalize -mom rear (wts kilos mid Ld.klo ls) / (rear - front) = F1v at e2
  generalize -(- -mom rear (wts kilos mid Ld.khi ls) / (rear - front)) = F2v at e2
  generalize hgt high Ld.tlo ls = H1v at e3 g1
  generalize hgt high Ld.thi ls = H2v at e3 g2
  have r1' : -10000000 < R1v ∧ R1v < 9999000 := by omega
  have r2' : -10000000 < R2v ∧ R2v < 9999000 := by omega
  clear r1 r2 hw1 hw2 hlo
  refine Does.of comp13 ?_
  unfold F13
  simp only [start, List.length_cons, List.length_nil, List.replicate, List.cons_append, List.nil_append, Nat.reduceAdd, Nat.reduceSub]
  (repeat (first|((first|refine ExO.nil ?_|refine Ex.skip ?_|refine Ex.ret ?_|refine Ex.exit ?_); try dsimp only)|((first|(refine xI ?_; intro _ _)|refine xL ?_|(refine xB ?_; intro _ _)|refine xG ?_|refine xS ?_|refine xM ?_|(refine xC ?_; intro _ _)|refine xW ?_); try simp only [sA])|refine Ex.seq ?_|refine Ex.reg ?_|refine Ex.block ?_|refine eT ?_|refine eF ?_|simp only [reduceCtorEq, AEx.ex.injEq, Nat.reduceEqDiff, if_true, if_false]))
  refine ExO.call (f := 50) (xs := [.agg [.int .i64 len, .int .i64 wid, .int .i64 front, .int .i64 rear, .int .i64 turn, .int .i64 kilos, .int .i64 mid, .int .i64 high, .sl (ls.map Ld.av) none]]) (ys := [.agg [.int .i64 len, .int .i64 wid, .int .i64 front, .int .i64 rear, .int .i64 turn, .int .i64 kilos, .int .i64 mid, .int .i64 high, .sl (ls.map Ld.av) none]]) (bs := []) (cells := []) (by rfl) (by rfl) (by rfl) (by simp [ren_fl]) (by rfl) (by rfl) e1 ?_
  rintro v c' ⟨rfl, rfl⟩
  refine ⟨_, rfl, rfl, ?_⟩
  simp only [List.map_cons, List.map_nil, putA, List.set_cons_zero, List.set_cons_succ, AV.plain, AV.plain1, setAll, List.length_cons, List.length_nil, List.drop_succ_cons, List.drop_zero, List.drop_nil, List.append_nil, Nat.reduceAdd]
  (repeat (first|((first|refine ExO.nil ?_|refine Ex.skip ?_|refine Ex.ret ?_|refine Ex.exit ?_); try dsimp only)|((first|(refine xI ?_; intro _ _)|refine xL ?_|(refine xB ?_; intro _ _)|refine xG ?_|refine xS ?_|refine xM ?_|(refine xC ?_; intro _ _)|refine xW ?_); try simp only [sA])|refine Ex.seq ?_|refine Ex.reg ?_|refine Ex.block ?_|refine eT ?_|refine eF ?_|simp only [reduceCtorEq, AEx.ex.injEq, Nat.reduceEqDiff, if_true, if_false]))
  refine ExO.call (f := 51) (xs := [.agg [.int .i64 len, .int .i64 wid, .int .i64 front, .int .i64 rear, .int .i64 turn, .int .i64 kilos, .int .i64 mid, .int .i64 high, .sl (ls.map Ld.av) none]]) (ys := [.agg [.int .i64 len, .int .i64 wid, .int .i64 front, .int .i64 rear, .int .i64 turn, .int .i64 kilos, .int .i64 mid, .int .i64 high, .sl (ls.map Ld.av) none]]) (bs := []) (cells := []) (by rfl) (by rfl) (by rfl) (by simp [ren_fl]) (by rfl) (by rfl) e2 ?_
  rintro v c' ⟨rfl, rfl⟩
  refine ⟨_, rfl, rfl, ?_⟩
  simp only [List.map_cons, List.map_nil, putA, List.set_cons_zero, List.set_cons_succ, AV.plain, AV.plain1, setAll, List.length_cons, List.length_nil, List.drop_succ_cons, List.drop_zero, List.drop_nil, List.append_nil, Nat.reduceAdd]
  (repeat (first|((first|refine ExO.nil ?_|refine Ex.skip ?_|refine Ex.ret ?_|refine Ex.exit ?_); try dsimp only)|((first|(refine xI ?_; intro _ _)|refine xL ?_|(refine xB ?_; intro _ _)|refine xG ?_|refine xS ?_|refine xM ?_|(refine xC ?_; intro _ _)|refine xW ?_); try simp only [sA])|refine Ex.seq ?_|refine Ex.reg ?_|refine Ex.block ?_|refine eT ?_|refine eF ?_|simp only [reduceCtorEq, AEx.ex.injEq, Nat.reduceEqDiff, if_true, if_false]))
  refine ExO.call (f := 52) (xs := [.agg [.int .i64 len, .int .i64 wid, .int .i64 front, .int .i64 rear, .int .i64 turn, .int .i64 kilos, .int .i64 mid, .int .i64 high, .sl (ls.map Ld.av) none]]) (ys := [.agg [.int .i64 len, .int .i64 wid, .int .i64 front, .int .i64 rear, .int .i64 turn, .int .i64 kilos, .int .i64 mid, .int .i64 high, .sl (ls.map Ld.av) none]]) (bs := []) (cells := []) (by rfl) (by rfl) (by rfl) (by simp [ren_fl]) (by rfl) (by rfl) e3 ?_
  rintro v c' ⟨rfl, rfl⟩
  refine ⟨_, rfl, rfl, ?_⟩
  simp only [List.map_cons, List.map_nil, putA, List.set_cons_zero, List.set_cons_succ, AV.plain, AV.plain1, setAll, List.length_cons, List.length_nil, List.drop_succ_cons, List.drop_zero, List.drop_nil, List.append_nil, Nat.reduceAdd]
  (repeat (first|((first|refine ExO.nil ?_|refine Ex.skip ?_|refine Ex.ret ?_|refine Ex.exit ?_); try dsimp only)|((first|(refine xI ?_; intro _ _)|refine xL ?_|(refine xB ?_; intro _ _)|refine xG ?_|refine xS ?_|refine xM ?_|(refine xC ?_; intro _ _)|refine xW ?_); try simp only [sA])|refine Ex.seq ?_|refine Ex.reg ?_|refine Ex.block ?_|refine eT ?_|refine eF ?_|simp only [reduceCtorEq, AEx.ex.injEq, Nat.reduceEqDiff, if_true, if_false]))
  rename_i n2 hn2
  rw [i64_in (by omega) (by omega)] at hn2
  (refine ExO.call (f := (40)) (xs := ([.ptr 0 0, .int .i64 n2])) (bs := [0]) (cells := ([[.int .u64 b]])) (by rfl) (by rfl) (by rfl) (by rfl) (by rfl) (by rfl) ((roll_m b n2 (by omega))) ?_; rintro v c' ⟨cnt, b0, rfl, rfl, c1, c2, c3⟩; refine ⟨_, rfl, rfl, ?_⟩; simp only [List.map_cons, List.map_nil, putA, List.set_cons_zero, List.set_cons_succ, AV.plain, AV.plain1, setAll, List.length_cons, List.length_nil, List.drop_succ_cons, List.drop_zero, List.drop_nil, List.append_nil, Nat.reduceAdd]; (repeat (first|((first|refine ExO.nil ?_|refine Ex.skip ?_|refine Ex.ret ?_|refine Ex.exit ?_); try dsimp only)|((first|(refine xI ?_; intro _ _)|refine xL ?_|(refine xB ?_; intro _ _)|refine xG ?_|refine xS ?_|refine xM ?_|(refine xC ?_; intro _ _)|refine xW ?_); try simp only [sA])|refine Ex.seq ?_|refine Ex.reg ?_|refine Ex.block ?_|refine eT ?_|refine eF ?_|simp only [reduceCtorEq, AEx.ex.injEq, Nat.reduceEqDiff, if_true, if_false])))
  clear e1 e2 e3
  obtain ⟨FS, hFS0⟩ : ∃ FS : List AV, FS = [.int .i64 F1v, .int .i64 F2v] := ⟨_, rfl⟩
  have hFS : ∀ σ, FS.mapM (re 6 σ) = some FS := fun σ => by rw [hFS0]; rfl
  rw [← hFS0]
  obtain ⟨FB, hFB0⟩ : ∃ FB : List AV, FB = [.int .i64 len, .int .i64 wid, .int .i64 front, .int .i64 rear, .int .i64 turn, .int .i64 kilos, .int .i64 mid, .int .i64 high, .sl (ls.map Ld.av) none] := ⟨_, rfl⟩
  have hFB : ∀ σ, FB.mapM (re 6 σ) = some FB := fun σ => by rw [hFB0]; simp [re, re1, AV.clean, cleanL, clean_lds]
  rw [← hFB0]
  refine Ex.loopF (fun k a S => ∃ (m b : Int) (hs : List Hd) (L : AV) (lv : List (Nat × Nat)), k = m.toNat ∧ 0 ≤ m ∧ (hs.length : Int) + m ≤ n ∧ (∀ h ∈ hs, HOk h) ∧ ((hs = [] ∧ L = .nils ∧ lv = []) ∨ (L = .sl (hs.map Hd.av) (some 0) ∧ lv = [(hs.length, 3)])) ∧ a = [.ptr 0 0, .junk, .junk, .junk, .ptr 1 0, .junk, .junk, .ptr 2 0, .junk, .junk, .ptr 4 0, .junk, .ptr 5 0, .junk, L, .int .i64 m, .junk, .junk, .junk, .junk, .junk, .junk, .junk, .junk, .junk, .junk, .junk, .junk, .junk, .junk, .junk, .junk, .junk, .junk, .junk, .junk, .junk, .junk, .junk, .junk, .junk, .junk, .junk, .junk, .junk, .junk, .junk, .junk, .junk, .junk, .junk, .junk, .junk, .junk, .junk, .junk, .junk, .junk, .junk, .junk, .junk, .junk, .junk, .junk, .junk, .junk, .junk, .junk, .junk, .junk, .junk, .junk, .junk, .junk, .junk, .junk, .junk, .junk, .junk, .junk, .junk, .junk, .junk, .junk, .junk, .junk, .junk, .junk, .junk, .junk, .junk, .junk, .junk, .junk, .junk, .junk, .junk, .junk, .junk, .junk, .junk, .junk, .junk] ∧ S = ⟨[[.int .u64 b], FB, [.int .i64 T1v, .int .i64 T2v], FS, [.int .i64 R1v, .int .i64 R2v], [.int .i64 H1v, .int .i64 H2v]], lv⟩) cnt.toNat ?_ ?_
  · exact ⟨_, _, forgets 6 [] ([true, false, false, false, true, false, false, true, false, false, true, false, true, false, true, true, false, false, false, false, false, false, false, false, false, false, false, false, false, false, false, false, false, false, false, false, false, false, false, false, false, false, false, false, false, false, false, false, false, false, false, false, false, false, false, false, false, false, false, false, false, false, false, false, false, false, false, false, false, false, false, false, false, false, false, false, false, false, false, false, false, false, false, false, false, false, false, false, false, false, false, false, false, false, false, false, false, false, false, false, false, false, false]) (by decide) (by simp) (bx2 := [[.int .u64 b0], FB, [.int .i64 T1v, .int .i64 T2v], FS, [.int .i64 R1v, .int .i64 R2v], [.int .i64 H1v, .int .i64 H2v]]) (by simp [re, re1, AV.clean, cleanL, hFB, hFS]) (by rfl) (by decide), cnt, b0, [], .nils, [], rfl, by omega, by simp; omega, by simp, .inl ⟨rfl, rfl, rfl⟩, by rfl, by rfl⟩
  · rintro k a S ⟨m, b, hs, L, lv, rfl, hm0, hcnt, hall2, hL, rfl, rfl⟩
    (repeat (first|((first|refine ExO.nil ?_|refine Ex.skip ?_|refine Ex.ret ?_|refine Ex.exit ?_); try dsimp only)|((first|(refine xI ?_; intro _ _)|refine xL ?_|(refine xB ?_; intro _ _)|refine xG ?_|refine xS ?_|refine xM ?_|(refine xC ?_; intro _ _)|refine xW ?_); try simp only [sA])|refine Ex.seq ?_|refine Ex.reg ?_|refine Ex.block ?_|refine eT ?_|refine eF ?_|simp only [reduceCtorEq, AEx.ex.injEq, Nat.reduceEqDiff, if_true, if_false]))
    rename_i c hc
    cases c
    · rcases hL with ⟨rfl, rfl, rfl⟩ | ⟨rfl, rfl⟩
      · refine Ex.forget (fade ([false, false, false, false, false, false, false, false, false, false, false, false, false, false, true, false, false, false, false, false, false, false, false, false, false, false, false, false, false, false, false, false, false, false, false, false, false, false, false, false, false, false, false, false, false, false, false, false, false, false, false, false, false, false, false, false, false, false, false, false, false, false, false, false, false, false, false, false, false, false, false, false, false, false, false, false, false, false, false, false, false, false, false, false, false, false, false, false, false, false, false, false, false, false, false, false, false, false, false, false, false, false, false]) []) ?_
        dsimp only [chillL, chillB, fadeS, fadeV, Bool.false_eq_true, if_false, if_true]
        (refine Ex.cond (b := false) (by first | rfl | simp [evd]) ?_; simp only [Bool.false_eq_true, if_false])
        (repeat (first|((first|refine ExO.nil ?_|refine Ex.skip ?_|refine Ex.ret ?_|refine Ex.exit ?_); try dsimp only)|((first|(refine xI ?_; intro _ _)|refine xL ?_|(refine xB ?_; intro _ _)|refine xG ?_|refine xS ?_|refine xM ?_|(refine xC ?_; intro _ _)|refine xW ?_); try simp only [sA])|refine Ex.seq ?_|refine Ex.reg ?_|refine Ex.block ?_|refine eT ?_|refine eF ?_|simp only [reduceCtorEq, AEx.ex.injEq, Nat.reduceEqDiff, if_true, if_false]))
        exact ⟨by simp, _, rfl, by simp [AV.names, one], [], b, rfl, by simp [AV.names, one], hall2, by simp; omega⟩
      · refine Ex.forget (fade ([false, false, false, false, false, false, false, false, false, false, false, false, false, false, true, false, false, false, false, false, false, false, false, false, false, false, false, false, false, false, false, false, false, false, false, false, false, false, false, false, false, false, false, false, false, false, false, false, false, false, false, false, false, false, false, false, false, false, false, false, false, false, false, false, false, false, false, false, false, false, false, false, false, false, false, false, false, false, false, false, false, false, false, false, false, false, false, false, false, false, false, false, false, false, false, false, false, false, false, false, false, false, false]) []) ?_
        dsimp only [chillL, chillB, fadeS, fadeV, Bool.false_eq_true, if_false, if_true]
        (refine Ex.cond (b := false) (by first | rfl | simp [evd]) ?_; simp only [Bool.false_eq_true, if_false])
        (repeat (first|((first|refine ExO.nil ?_|refine Ex.skip ?_|refine Ex.ret ?_|refine Ex.exit ?_); try dsimp only)|((first|(refine xI ?_; intro _ _)|refine xL ?_|(refine xB ?_; intro _ _)|refine xG ?_|refine xS ?_|refine xM ?_|(refine xC ?_; intro _ _)|refine xW ?_); try simp only [sA])|refine Ex.seq ?_|refine Ex.reg ?_|refine Ex.block ?_|refine eT ?_|refine eF ?_|simp only [reduceCtorEq, AEx.ex.injEq, Nat.reduceEqDiff, if_true, if_false]))
        exact ⟨by simp, _, rfl, by simp [AV.names, one], hs, b, rfl, by simp [AV.names, one], hall2, by omega⟩
    · (refine Ex.cond (b := true) (by first | rfl | simp [evd]) ?_; simp only [if_true])
      have hmp : 0 < m := by have := hc.symm; simpa using this
      rcases hL with ⟨rfl, rfl, rfl⟩ | ⟨rfl, rfl⟩
      · (repeat (first|((first|refine ExO.nil ?_|refine Ex.skip ?_|refine Ex.ret ?_|refine Ex.exit ?_); try dsimp only)|((first|(refine xI ?_; intro _ _)|refine xL ?_|(refine xB ?_; intro _ _)|refine xG ?_|refine xS ?_|refine xM ?_|(refine xC ?_; intro _ _)|refine xW ?_); try simp only [sA])|refine Ex.seq ?_|refine Ex.reg ?_|refine Ex.block ?_|refine eT ?_|refine eF ?_|simp only [reduceCtorEq, AEx.ex.injEq, Nat.reduceEqDiff, if_true, if_false]))
        (refine ExO.call (f := (41)) (xs := ([.ptr 0 0, .int .i64 1, .int .i64 3])) (bs := [0]) (cells := ([[.int .u64 b]])) (by rfl) (by rfl) (by rfl) (by rfl) (by rfl) (by rfl) ((mid_m b 1 3 (by omega) (by omega) (by omega) (by omega))) ?_; rintro v c' ⟨kind, b1, rfl, rfl, k1, k2, k3⟩; refine ⟨_, rfl, rfl, ?_⟩; simp only [List.map_cons, List.map_nil, putA, List.set_cons_zero, List.set_cons_succ, AV.plain, AV.plain1, setAll, List.length_cons, List.length_nil, List.drop_succ_cons, List.drop_zero, List.drop_nil, List.append_nil, Nat.reduceAdd]; (repeat (first|((first|refine ExO.nil ?_|refine Ex.skip ?_|refine Ex.ret ?_|refine Ex.exit ?_); try dsimp only)|((first|(refine xI ?_; intro _ _)|refine xL ?_|(refine xB ?_; intro _ _)|refine xG ?_|refine xS ?_|refine xM ?_|(refine xC ?_; intro _ _)|refine xW ?_); try simp only [sA])|refine Ex.seq ?_|refine Ex.reg ?_|refine Ex.block ?_|refine eT ?_|refine eF ?_|simp only [reduceCtorEq, AEx.ex.injEq, Nat.reduceEqDiff, if_true, if_false])))
        rename_i c2 hc2
        cases c2
        · (refine Ex.cond (b := false) (by first | rfl | simp [evd]) ?_; simp only [Bool.false_eq_true, if_false])
          (repeat (first|((first|refine ExO.nil ?_|refine Ex.skip ?_|refine Ex.ret ?_|refine Ex.exit ?_); try dsimp only)|((first|(refine xI ?_; intro _ _)|refine xL ?_|(refine xB ?_; intro _ _)|refine xG ?_|refine xS ?_|refine xM ?_|(refine xC ?_; intro _ _)|refine xW ?_); try simp only [sA])|refine Ex.seq ?_|refine Ex.reg ?_|refine Ex.block ?_|refine eT ?_|refine eF ?_|simp only [reduceCtorEq, AEx.ex.injEq, Nat.reduceEqDiff, if_true, if_false]))
          rename_i c3 hc3
          cases c3
          · have hk1 : kind ≠ 1 := by have := hc2.symm; simpa using this
            have hk2 : kind ≠ 2 := by have := hc3.symm; simpa using this
            have hk3 := k2 (by decide)
            obtain rfl : kind = 3 := by omega
            (refine Ex.cond (b := false) (by first | rfl | simp [evd]) ?_; simp only [Bool.false_eq_true, if_false])
            (repeat (first|((first|refine ExO.nil ?_|refine Ex.skip ?_|refine Ex.ret ?_|refine Ex.exit ?_); try dsimp only)|((first|(refine xI ?_; intro _ _)|refine xL ?_|(refine xB ?_; intro _ _)|refine xG ?_|refine xS ?_|refine xM ?_|(refine xC ?_; intro _ _)|refine xW ?_); try simp only [sA])|refine Ex.seq ?_|refine Ex.reg ?_|refine Ex.block ?_|refine eT ?_|refine eF ?_|simp only [reduceCtorEq, AEx.ex.injEq, Nat.reduceEqDiff, if_true, if_false]))
            obtain ⟨q1, b2, o1, p1, p2⟩ := of_o5 b1 T1v T2v (by omega) (by omega) (by omega) (by omega)
            obtain ⟨d1, b3, o2, p3⟩ := any_o b2 [-1, 0, 1, 300] (by simp) (by simp)
            have p3' : d1 = -1 ∨ d1 = 0 ∨ d1 = 1 ∨ d1 = 300 := by simpa using p3
            obtain ⟨q2, b4, o3, p4, p5⟩ := of_o5 b3 R1v R2v (by omega) (by omega) (by omega) (by omega)
            obtain ⟨d2, b5, o4, p6⟩ := any_o b4 [-1, 0, 1] (by simp) (by simp)
            have p6' : d2 = -1 ∨ d2 = 0 ∨ d2 = 1 := by simpa using p6
            obtain ⟨q3, b6, o5, p7⟩ := any_o b5 [T2v, q2 + d2] (by simp) (by simp)
            have p7' : q3 = T2v ∨ q3 = q2 + d2 := by simpa using p7
            have wx1 : IntKind.i64.wrap (q1 + d1) = q1 + d1 := i64_in (by omega) (by omega)
            have wx2 : IntKind.i64.wrap (q2 + d2) = q2 + d2 := i64_in (by omega) (by omega)
            obtain ⟨y1, hy1⟩ : ∃ y, (if 0 < q1 + d1 then q1 + d1 else 0) = y := ⟨_, rfl⟩
            obtain ⟨y2, hy2⟩ : ∃ y, (if 0 < q3 then q3 else 0) = y := ⟨_, rfl⟩
            have by1 : 0 ≤ y1 ∧ y1 ≤ 10000000 := by rw [← hy1]; split <;> omega
            have by2 : 0 ≤ y2 ∧ y2 ≤ 10000000 := by rw [← hy2]; split <;> omega
            apply Ex.drawE T5_ok [] [(4, 1), (3, 1), (2, 1)] [⟨[[.int .u64 b2], FB, [.int .i64 T1v, .int .i64 T2v], FS, [.int .i64 R1v, .int .i64 R2v], [.int .i64 H1v, .int .i64 H2v], [.int .i64 3, .int .i64 0, .int .i64 0]], [(4, 1), (3, 1), (2, 1)]⟩, ⟨[[.int .u64 b3], FB, [.int .i64 T1v, .int .i64 T2v], FS, [.int .i64 R1v, .int .i64 R2v], [.int .i64 H1v, .int .i64 H2v], [.int .i64 3, .int .i64 0, .int .i64 0]], [(4, 1), (3, 1), (2, 1)]⟩, ⟨[[.int .u64 b4], FB, [.int .i64 T1v, .int .i64 T2v], FS, [.int .i64 R1v, .int .i64 R2v], [.int .i64 H1v, .int .i64 H2v], [.int .i64 3, .int .i64 0, .int .i64 0]], [(4, 1), (3, 1), (2, 1)]⟩, ⟨[[.int .u64 b5], FB, [.int .i64 T1v, .int .i64 T2v], FS, [.int .i64 R1v, .int .i64 R2v], [.int .i64 H1v, .int .i64 H2v], [.int .i64 3, .int .i64 0, .int .i64 0]], [(4, 1), (3, 1), (2, 1)]⟩, ⟨[[.int .u64 b6], FB, [.int .i64 T1v, .int .i64 T2v], FS, [.int .i64 R1v, .int .i64 R2v], [.int .i64 H1v, .int .i64 H2v], [.int .i64 3, .int .i64 0, .int .i64 0]], [(4, 1), (3, 1), (2, 1)]⟩, ⟨[[.int .u64 b6], FB, [.int .i64 T1v, .int .i64 T2v], FS, [.int .i64 R1v, .int .i64 R2v], [.int .i64 H1v, .int .i64 H2v], [.int .i64 3, .int .i64 y1, .int .i64 0]], [(4, 1), (3, 1), (2, 1)]⟩]
            case hD =>
              simp only [List.take_succ_cons, List.take_zero, List.append_nil, List.nil_append, List.cons_append]
              (apply DrO.pure; (case hw => rfl); (case hd => rfl); (case hv => (simp only [List.mem_cons, List.not_mem_nil, or_false, forall_eq_or_imp, forall_eq]; simp [vA, fRes_eq]; first | done | exact ⟨⟨rfl, rfl⟩, rfl⟩ | exact ⟨rfl, rfl⟩ | exact rfl | (refine ⟨rfl, ?_⟩; first | done | rfl | simp))); (try simp only [sA]))
              (apply DrO.pure; (case hw => rfl); (case hd => rfl); (case hv => (simp only [List.mem_cons, List.not_mem_nil, or_false, forall_eq_or_imp, forall_eq]; simp [vA, fRes_eq]; first | done | exact ⟨⟨rfl, rfl⟩, rfl⟩ | exact ⟨rfl, rfl⟩ | exact rfl | (refine ⟨rfl, ?_⟩; first | done | rfl | simp))); (try simp only [sA]))
              apply DrO.eff (.int .i64 q1) (⟨[[.int .u64 b1], FB, [.int .i64 T1v, .int .i64 T2v], FS, [.int .i64 R1v, .int .i64 R2v], [.int .i64 H1v, .int .i64 H2v], [.int .i64 3, .int .i64 0, .int .i64 0]], [(4, 1), (3, 1), (2, 1)]⟩) (⟨[[.int .u64 b2], FB, [.int .i64 T1v, .int .i64 T2v], FS, [.int .i64 R1v, .int .i64 R2v], [.int .i64 H1v, .int .i64 H2v], [.int .i64 3, .int .i64 0, .int .i64 0]], [(4, 1), (3, 1), (2, 1)]⟩) rfl rfl rfl rfl rfl (by rw [evOp_call (f := 35) (xs := [.ptr 0 0, .agg [.int .i64 T1v, .int .i64 T2v]]) rfl]; exact drum_callT rfl rfl o1)
              simp only [putA, List.set_cons_zero, List.set_cons_succ]
              (apply DrO.pure; (case hw => rfl); (case hd => rfl); (case hv => (simp only [List.mem_cons, List.not_mem_nil, or_false, forall_eq_or_imp, forall_eq]; simp [vA, fRes_eq]; first | done | exact ⟨⟨rfl, rfl⟩, rfl⟩ | exact ⟨rfl, rfl⟩ | exact rfl | (refine ⟨rfl, ?_⟩; first | done | rfl | simp))); (try simp only [sA]))
              apply DrO.row 0 1 [.int .i64 (-1), .int .i64 0, .int .i64 1, .int .i64 300] rfl rfl (fun st _ => rfl) (by simp) (by simp) (by simp)
              simp only [putA, List.set_cons_zero, List.set_cons_succ]
              apply DrO.eff (.int .i64 d1) (⟨[[.int .u64 b2], FB, [.int .i64 T1v, .int .i64 T2v], FS, [.int .i64 R1v, .int .i64 R2v], [.int .i64 H1v, .int .i64 H2v], [.int .i64 3, .int .i64 0, .int .i64 0]], [(4, 1), (3, 1), (2, 1)]⟩) (⟨[[.int .u64 b3], FB, [.int .i64 T1v, .int .i64 T2v], FS, [.int .i64 R1v, .int .i64 R2v], [.int .i64 H1v, .int .i64 H2v], [.int .i64 3, .int .i64 0, .int .i64 0]], [(4, 1), (3, 1), (2, 1)]⟩) rfl rfl rfl rfl rfl (by rw [evOp_call (f := 39) (xs := [.ptr 0 0, .sl [.int .i64 (-1), .int .i64 0, .int .i64 1, .int .i64 300] (some 0)]) rfl]; exact drum_callT rfl rfl o2)
              simp only [putA, List.set_cons_zero, List.set_cons_succ]
              (apply DrO.pure; (case hw => rfl); (case hd => rfl); (case hv => (simp only [List.mem_cons, List.not_mem_nil, or_false, forall_eq_or_imp, forall_eq]; simp [vA, fRes_eq, wx1]; first | done | exact ⟨⟨rfl, rfl⟩, rfl⟩ | exact ⟨rfl, rfl⟩ | exact rfl | (refine ⟨rfl, ?_⟩; first | done | rfl | simp))); (try simp only [sA]))
              (apply DrO.pure; (case hw => rfl); (case hd => rfl); (case hv => (simp only [List.mem_cons, List.not_mem_nil, or_false, forall_eq_or_imp, forall_eq]; simp [vA, fRes_eq, hy1]; first | done | exact ⟨⟨rfl, rfl⟩, rfl⟩ | exact ⟨rfl, rfl⟩ | exact rfl | (refine ⟨rfl, ?_⟩; first | done | rfl | simp))); (try simp only [sA]))
              (apply DrO.pure; (case hw => rfl); (case hd => rfl); (case hv => (simp only [List.mem_cons, List.not_mem_nil, or_false, forall_eq_or_imp, forall_eq]; simp [vA, fRes_eq]; first | done | exact ⟨⟨rfl, rfl⟩, rfl⟩ | exact ⟨rfl, rfl⟩ | exact rfl | (refine ⟨rfl, ?_⟩; first | done | rfl | simp))); (try simp only [sA]))
              (apply DrO.pure; (case hw => rfl); (case hd => rfl); (case hv => (simp only [List.mem_cons, List.not_mem_nil, or_false, forall_eq_or_imp, forall_eq]; simp [vA, fRes_eq]; first | done | exact ⟨⟨rfl, rfl⟩, rfl⟩ | exact ⟨rfl, rfl⟩ | exact rfl | (refine ⟨rfl, ?_⟩; first | done | rfl | simp))); (try simp only [sA]))
              (apply DrO.pure; (case hw => rfl); (case hd => rfl); (case hv => (simp only [List.mem_cons, List.not_mem_nil, or_false, forall_eq_or_imp, forall_eq]; simp [vA, fRes_eq]; first | done | exact ⟨⟨rfl, rfl⟩, rfl⟩ | exact ⟨rfl, rfl⟩ | exact rfl | (refine ⟨rfl, ?_⟩; first | done | rfl | simp))); (try simp only [sA]))
              (apply DrO.pure; (case hw => rfl); (case hd => rfl); (case hv => (simp only [List.mem_cons, List.not_mem_nil, or_false, forall_eq_or_imp, forall_eq]; simp [vA, fRes_eq]; first | done | exact ⟨⟨rfl, rfl⟩, rfl⟩ | exact ⟨rfl, rfl⟩ | exact rfl | (refine ⟨rfl, ?_⟩; first | done | rfl | simp))); (try simp only [sA]))
              (apply DrO.pure; (case hw => rfl); (case hd => rfl); (case hv => (simp only [List.mem_cons, List.not_mem_nil, or_false, forall_eq_or_imp, forall_eq]; simp [vA, fRes_eq]; first | done | exact ⟨⟨rfl, rfl⟩, rfl⟩ | exact ⟨rfl, rfl⟩ | exact rfl | (refine ⟨rfl, ?_⟩; first | done | rfl | simp))); (try simp only [sA]))
              apply DrO.eff (.int .i64 q2) (⟨[[.int .u64 b3], FB, [.int .i64 T1v, .int .i64 T2v], FS, [.int .i64 R1v, .int .i64 R2v], [.int .i64 H1v, .int .i64 H2v], [.int .i64 3, .int .i64 0, .int .i64 0]], [(4, 1), (3, 1), (2, 1)]⟩) (⟨[[.int .u64 b4], FB, [.int .i64 T1v, .int .i64 T2v], FS, [.int .i64 R1v, .int .i64 R2v], [.int .i64 H1v, .int .i64 H2v], [.int .i64 3, .int .i64 0, .int .i64 0]], [(4, 1), (3, 1), (2, 1)]⟩) rfl rfl rfl rfl rfl (by rw [evOp_call (f := 35) (xs := [.ptr 0 0, .agg [.int .i64 R1v, .int .i64 R2v]]) rfl]; exact drum_callT rfl rfl o3)
              simp only [putA, List.set_cons_zero, List.set_cons_succ]
              (apply DrO.pure; (case hw => rfl); (case hd => rfl); (case hv => (simp only [List.mem_cons, List.not_mem_nil, or_false, forall_eq_or_imp, forall_eq]; simp [vA, fRes_eq]; first | done | exact ⟨⟨rfl, rfl⟩, rfl⟩ | exact ⟨rfl, rfl⟩ | exact rfl | (refine ⟨rfl, ?_⟩; first | done | rfl | simp))); (try simp only [sA]))
              apply DrO.row 1 1 [.int .i64 (-1), .int .i64 0, .int .i64 1] rfl rfl (fun st _ => rfl) (by simp) (by simp) (by simp)
              simp only [putA, List.set_cons_zero, List.set_cons_succ]
              apply DrO.eff (.int .i64 d2) (⟨[[.int .u64 b4], FB, [.int .i64 T1v, .int .i64 T2v], FS, [.int .i64 R1v, .int .i64 R2v], [.int .i64 H1v, .int .i64 H2v], [.int .i64 3, .int .i64 0, .int .i64 0]], [(4, 1), (3, 1), (2, 1)]⟩) (⟨[[.int .u64 b5], FB, [.int .i64 T1v, .int .i64 T2v], FS, [.int .i64 R1v, .int .i64 R2v], [.int .i64 H1v, .int .i64 H2v], [.int .i64 3, .int .i64 0, .int .i64 0]], [(4, 1), (3, 1), (2, 1)]⟩) rfl rfl rfl rfl rfl (by rw [evOp_call (f := 39) (xs := [.ptr 0 0, .sl [.int .i64 (-1), .int .i64 0, .int .i64 1] (some 1)]) rfl]; exact drum_callT rfl rfl o4)
              simp only [putA, List.set_cons_zero, List.set_cons_succ]
              (apply DrO.pure; (case hw => rfl); (case hd => rfl); (case hv => (simp only [List.mem_cons, List.not_mem_nil, or_false, forall_eq_or_imp, forall_eq]; simp [vA, fRes_eq, wx2]; first | done | exact ⟨⟨rfl, rfl⟩, rfl⟩ | exact ⟨rfl, rfl⟩ | exact rfl | (refine ⟨rfl, ?_⟩; first | done | rfl | simp))); (try simp only [sA]))
              apply DrO.row 2 1 [.int .i64 T2v, .int .i64 (q2 + d2)] rfl rfl (fun st _ => rfl) (by simp) (by simp) (by simp)
              simp only [putA, List.set_cons_zero, List.set_cons_succ]
              apply DrO.eff (.int .i64 q3) (⟨[[.int .u64 b5], FB, [.int .i64 T1v, .int .i64 T2v], FS, [.int .i64 R1v, .int .i64 R2v], [.int .i64 H1v, .int .i64 H2v], [.int .i64 3, .int .i64 0, .int .i64 0]], [(4, 1), (3, 1), (2, 1)]⟩) (⟨[[.int .u64 b6], FB, [.int .i64 T1v, .int .i64 T2v], FS, [.int .i64 R1v, .int .i64 R2v], [.int .i64 H1v, .int .i64 H2v], [.int .i64 3, .int .i64 0, .int .i64 0]], [(4, 1), (3, 1), (2, 1)]⟩) rfl rfl rfl rfl rfl (by rw [evOp_call (f := 39) (xs := [.ptr 0 0, .sl [.int .i64 T2v, .int .i64 (q2 + d2)] (some 2)]) rfl]; exact drum_callT rfl rfl o5)
              simp only [putA, List.set_cons_zero, List.set_cons_succ]
              (apply DrO.pure; (case hw => rfl); (case hd => rfl); (case hv => (simp only [List.mem_cons, List.not_mem_nil, or_false, forall_eq_or_imp, forall_eq]; simp [vA, fRes_eq, hy2]; first | done | exact ⟨⟨rfl, rfl⟩, rfl⟩ | exact ⟨rfl, rfl⟩ | exact rfl | (refine ⟨rfl, ?_⟩; first | done | rfl | simp))); (try simp only [sA]))
              (apply DrO.pure; (case hw => rfl); (case hd => rfl); (case hv => (simp only [List.mem_cons, List.not_mem_nil, or_false, forall_eq_or_imp, forall_eq]; simp [vA, fRes_eq]; first | done | exact ⟨⟨rfl, rfl⟩, rfl⟩ | exact ⟨rfl, rfl⟩ | exact rfl | (refine ⟨rfl, ?_⟩; first | done | rfl | simp))); (try simp only [sA]))
              (apply DrO.eff; (case hw => rfl); (case hd => rfl); (case hl => rfl); (case hs => rfl); (case hs' => rfl); (case hv => (simp [vA, fRes_eq]; first|done|exact ⟨⟨rfl,rfl⟩,rfl⟩|exact ⟨rfl,rfl⟩|exact rfl)); (try simp only [sA]))
              exact DrO.nil rfl
            simp only [List.drop_succ_cons, List.drop_zero, List.getLastD_cons, List.getLastD_nil, List.append_nil, List.cons_append, List.nil_append]
            (repeat (first|((first|refine ExO.nil ?_|refine Ex.skip ?_|refine Ex.ret ?_|refine Ex.exit ?_); try dsimp only)|((first|(refine xI ?_; intro _ _)|refine xL ?_|(refine xB ?_; intro _ _)|refine xG ?_|refine xS ?_|refine xM ?_|(refine xC ?_; intro _ _)|refine xW ?_); try simp only [sA])|refine Ex.seq ?_|refine Ex.reg ?_|refine Ex.block ?_|refine eT ?_|refine eF ?_|simp only [reduceCtorEq, AEx.ex.injEq, Nat.reduceEqDiff, if_true, if_false]))
            rename_i m3 hm3
            rw [i64_in (by omega) (by omega)] at hm3
            refine ⟨_, _, forgets 6 [4] ([true, false, false, false, true, false, false, true, false, false, true, false, true, false, true, true, false, false, false, false, false, false, false, false, false, false, false, false, false, false, false, false, false, false, false, false, false, false, false, false, false, false, false, false, false, false, false, false, false, false, false, false, false, false, false, false, false, false, false, false, false, false, false, false, false, false, false, false, false, false, false, false, false, false, false, false, false, false, false, false, false, false, false, false, false, false, false, false, false, false, false, false, false, false, false, false, false, false, false, false, false, false, false]) (by decide) (by simp) (bx2 := [[.int .u64 b6], FB, [.int .i64 T1v, .int .i64 T2v], FS, [.int .i64 R1v, .int .i64 R2v], [.int .i64 H1v, .int .i64 H2v]]) (by simp [re, re1, AV.clean, cleanL, hFB, hFS]) (lv2 := [(1, 3)]) (by simp) (by decide), m3.toNat, by omega, m3, b6, [⟨3, y1, y2⟩], _, _, rfl, by omega, by simp at hcnt ⊢; omega, ?_, .inr ⟨rfl, rfl⟩, ?_, by simp⟩
            · intro h hh
              simp only [List.mem_singleton] at hh
              subst hh
              exact .inr (.inr ⟨rfl, by show 0 ≤ y1; omega, by show y1 ≤ 10000000; omega, by show 0 ≤ y2; omega, by show y2 ≤ 10000000; omega⟩)
            · simp [keepS, re, re1, AV.clean, cleanL, clean_hds, cleanL_append, Hd.av, List.idxOf?, List.findIdx?, List.findIdx?.go]
          · obtain rfl : kind = 2 := by have := hc3.symm; simpa using this
            (refine Ex.cond (b := true) (by first | rfl | simp [evd]) ?_; simp only [if_true])
            (repeat (first|((first|refine ExO.nil ?_|refine Ex.skip ?_|refine Ex.ret ?_|refine Ex.exit ?_); try dsimp only)|((first|(refine xI ?_; intro _ _)|refine xL ?_|(refine xB ?_; intro _ _)|refine xG ?_|refine xS ?_|refine xM ?_|(refine xC ?_; intro _ _)|refine xW ?_); try simp only [sA])|refine Ex.seq ?_|refine Ex.reg ?_|refine Ex.block ?_|refine eT ?_|refine eF ?_|simp only [reduceCtorEq, AEx.ex.injEq, Nat.reduceEqDiff, if_true, if_false]))
            (refine ExO.call (f := (35)) (xs := ([.ptr 0 0, .agg [.int .i64 H1v, .int .i64 H2v]])) (bs := [0]) (cells := ([[.int .u64 b1]])) (by rfl) (by rfl) (by rfl) (by rfl) (by rfl) (by rfl) (((Meets.does (ofw_f b1 H1v H2v (by omega) (by omega) (by omega) (by omega))))) ?_; rintro v c' ⟨q, b2, rfl, rfl, q1, q2⟩; refine ⟨_, rfl, rfl, ?_⟩; simp only [List.map_cons, List.map_nil, putA, List.set_cons_zero, List.set_cons_succ, AV.plain, AV.plain1, setAll, List.length_cons, List.length_nil, List.drop_succ_cons, List.drop_zero, List.drop_nil, List.append_nil, Nat.reduceAdd]; (repeat (first|((first|refine ExO.nil ?_|refine Ex.skip ?_|refine Ex.ret ?_|refine Ex.exit ?_); try dsimp only)|((first|(refine xI ?_; intro _ _)|refine xL ?_|(refine xB ?_; intro _ _)|refine xG ?_|refine xS ?_|refine xM ?_|(refine xC ?_; intro _ _)|refine xW ?_); try simp only [sA])|refine Ex.seq ?_|refine Ex.reg ?_|refine Ex.block ?_|refine eT ?_|refine eF ?_|simp only [reduceCtorEq, AEx.ex.injEq, Nat.reduceEqDiff, if_true, if_false])))
            (refine ExO.call (f := (39)) (xs := ([.ptr 0 0, .sl [.int .i64 (-1), .int .i64 0, .int .i64 1, .int .i64 50] (some 0)])) (bs := [0]) (cells := ([[.int .u64 b2]])) (by rfl) (by rfl) (by rfl) (by rfl) (by rfl) (by rfl) ((any_m b2 [-1, 0, 1, 50] (by simp) (by simp))) ?_; rintro v c' ⟨d, b3, rfl, rfl, hd⟩; refine ⟨_, rfl, rfl, ?_⟩; simp only [List.map_cons, List.map_nil, putA, List.set_cons_zero, List.set_cons_succ, AV.plain, AV.plain1, setAll, List.length_cons, List.length_nil, List.drop_succ_cons, List.drop_zero, List.drop_nil, List.append_nil, Nat.reduceAdd]; (repeat (first|((first|refine ExO.nil ?_|refine Ex.skip ?_|refine Ex.ret ?_|refine Ex.exit ?_); try dsimp only)|((first|(refine xI ?_; intro _ _)|refine xL ?_|(refine xB ?_; intro _ _)|refine xG ?_|refine xS ?_|refine xM ?_|(refine xC ?_; intro _ _)|refine xW ?_); try simp only [sA])|refine Ex.seq ?_|refine Ex.reg ?_|refine Ex.block ?_|refine eT ?_|refine eF ?_|simp only [reduceCtorEq, AEx.ex.injEq, Nat.reduceEqDiff, if_true, if_false])))
            have hd3 : d = -1 ∨ d = 0 ∨ d = 1 ∨ d = 50 := by simpa using hd
            clear hd
            (repeat (first|((first|refine ExO.nil ?_|refine Ex.skip ?_|refine Ex.ret ?_|refine Ex.exit ?_); try dsimp only)|((first|(refine xI ?_; intro _ _)|refine xL ?_|(refine xB ?_; intro _ _)|refine xG ?_|refine xS ?_|refine xM ?_|(refine xC ?_; intro _ _)|refine xW ?_); try simp only [sA])|refine Ex.seq ?_|refine Ex.reg ?_|refine Ex.block ?_|refine eT ?_|refine eF ?_|simp only [reduceCtorEq, AEx.ex.injEq, Nat.reduceEqDiff, if_true, if_false]))
            rename_i x hx y hy z hz m3 hm3
            rw [i64_in (by omega) (by omega)] at hx
            have hz' : 0 ≤ z ∧ z ≤ 2000 := by
              split at hy <;> split at hz <;> omega
            clear hy hz
            rw [i64_in (by omega) (by omega)] at hm3
            refine ⟨_, _, forgets 6 [2] ([true, false, false, false, true, false, false, true, false, false, true, false, true, false, true, true, false, false, false, false, false, false, false, false, false, false, false, false, false, false, false, false, false, false, false, false, false, false, false, false, false, false, false, false, false, false, false, false, false, false, false, false, false, false, false, false, false, false, false, false, false, false, false, false, false, false, false, false, false, false, false, false, false, false, false, false, false, false, false, false, false, false, false, false, false, false, false, false, false, false, false, false, false, false, false, false, false, false, false, false, false, false, false]) (by decide) (by simp) (bx2 := [[.int .u64 b3], FB, [.int .i64 T1v, .int .i64 T2v], FS, [.int .i64 R1v, .int .i64 R2v], [.int .i64 H1v, .int .i64 H2v]]) (by simp [re, re1, AV.clean, cleanL, hFB, hFS]) (lv2 := [(1, 3)]) (by simp) (by decide), m3.toNat, by omega, m3, b3, [⟨2, z, 0⟩], _, _, rfl, by omega, by simp at hcnt ⊢; omega, ?_, .inr ⟨rfl, rfl⟩, ?_, by simp⟩
            · intro h hh
              simp only [List.mem_singleton] at hh
              subst hh
              exact .inr (.inl ⟨rfl, by show 0 ≤ z; omega, by show z ≤ 2000; omega, rfl⟩)
            · simp [keepS, re, re1, AV.clean, cleanL, clean_hds, cleanL_append, Hd.av, List.idxOf?, List.findIdx?, List.findIdx?.go]
        · obtain rfl : kind = 1 := by have := hc2.symm; simpa using this
          (refine Ex.cond (b := true) (by first | rfl | simp [evd]) ?_; simp only [if_true])
          (repeat (first|((first|refine ExO.nil ?_|refine Ex.skip ?_|refine Ex.ret ?_|refine Ex.exit ?_); try dsimp only)|((first|(refine xI ?_; intro _ _)|refine xL ?_|(refine xB ?_; intro _ _)|refine xG ?_|refine xS ?_|refine xM ?_|(refine xC ?_; intro _ _)|refine xW ?_); try simp only [sA])|refine Ex.seq ?_|refine Ex.reg ?_|refine Ex.block ?_|refine eT ?_|refine eF ?_|simp only [reduceCtorEq, AEx.ex.injEq, Nat.reduceEqDiff, if_true, if_false]))
          (refine ExO.call (f := (40)) (xs := ([.ptr 0 0, .int .i64 2000])) (bs := [0]) (cells := ([[.int .u64 b1]])) (by rfl) (by rfl) (by rfl) (by rfl) (by rfl) (by rfl) ((roll_m b1 2000 (by omega))) ?_; rintro v c' ⟨r1, b2, rfl, rfl, r11, r12, r13⟩; refine ⟨_, rfl, rfl, ?_⟩; simp only [List.map_cons, List.map_nil, putA, List.set_cons_zero, List.set_cons_succ, AV.plain, AV.plain1, setAll, List.length_cons, List.length_nil, List.drop_succ_cons, List.drop_zero, List.drop_nil, List.append_nil, Nat.reduceAdd]; (repeat (first|((first|refine ExO.nil ?_|refine Ex.skip ?_|refine Ex.ret ?_|refine Ex.exit ?_); try dsimp only)|((first|(refine xI ?_; intro _ _)|refine xL ?_|(refine xB ?_; intro _ _)|refine xG ?_|refine xS ?_|refine xM ?_|(refine xC ?_; intro _ _)|refine xW ?_); try simp only [sA])|refine Ex.seq ?_|refine Ex.reg ?_|refine Ex.block ?_|refine eT ?_|refine eF ?_|simp only [reduceCtorEq, AEx.ex.injEq, Nat.reduceEqDiff, if_true, if_false])))
          (refine ExO.call (f := (39)) (xs := ([.ptr 0 0, .sl [.int .i64 0, .int .i64 r1] (some 0)])) (bs := [0]) (cells := ([[.int .u64 b2]])) (by rfl) (by rfl) (by rfl) (by rfl) (by rfl) (by rfl) ((any2_m b2 0 r1)) ?_; rintro v c' ⟨a, b3, rfl, rfl, ha⟩; refine ⟨_, rfl, rfl, ?_⟩; simp only [List.map_cons, List.map_nil, putA, List.set_cons_zero, List.set_cons_succ, AV.plain, AV.plain1, setAll, List.length_cons, List.length_nil, List.drop_succ_cons, List.drop_zero, List.drop_nil, List.append_nil, Nat.reduceAdd]; (repeat (first|((first|refine ExO.nil ?_|refine Ex.skip ?_|refine Ex.ret ?_|refine Ex.exit ?_); try dsimp only)|((first|(refine xI ?_; intro _ _)|refine xL ?_|(refine xB ?_; intro _ _)|refine xG ?_|refine xS ?_|refine xM ?_|(refine xC ?_; intro _ _)|refine xW ?_); try simp only [sA])|refine Ex.seq ?_|refine Ex.reg ?_|refine Ex.block ?_|refine eT ?_|refine eF ?_|simp only [reduceCtorEq, AEx.ex.injEq, Nat.reduceEqDiff, if_true, if_false])))
          have ha0 : 0 ≤ a ∧ a < 2000 := by omega
          clear ha
          obtain ⟨q, b4, hq1, hq2⟩ := any_o b3 [300, 2500] (by simp) (by simp)
          have hq3 : q = 300 ∨ q = 2500 := by simpa using hq2
          obtain ⟨d, b5, hd1, hd2, hd3⟩ := mid_o b4 1 q (by omega) (by omega) (by omega)
          have wd : IntKind.i64.wrap (a + d) = a + d := i64_in (by omega) (by omega)
          apply Ex.drawE T5_ok [] [(2, 1)] [⟨[[.int .u64 b4], FB, [.int .i64 T1v, .int .i64 T2v], FS, [.int .i64 R1v, .int .i64 R2v], [.int .i64 H1v, .int .i64 H2v], [.int .i64 1, .int .i64 a, .int .i64 0]], [(2, 1), (2, 1)]⟩, ⟨[[.int .u64 b5], FB, [.int .i64 T1v, .int .i64 T2v], FS, [.int .i64 R1v, .int .i64 R2v], [.int .i64 H1v, .int .i64 H2v], [.int .i64 1, .int .i64 a, .int .i64 0]], [(2, 1), (2, 1)]⟩]
          case hD =>
            simp only [List.take_succ_cons, List.take_zero, List.append_nil, List.nil_append, List.cons_append]
            (apply DrO.pure; (case hw => rfl); (case hd => rfl); (case hv => (simp only [List.mem_cons, List.not_mem_nil, or_false, forall_eq_or_imp, forall_eq]; simp [vA, fRes_eq]; first | done | exact ⟨⟨rfl, rfl⟩, rfl⟩ | exact ⟨rfl, rfl⟩ | exact rfl | (refine ⟨rfl, ?_⟩; first | done | rfl | simp))); (try simp only [sA]))
            (apply DrO.pure; (case hw => rfl); (case hd => rfl); (case hv => (simp only [List.mem_cons, List.not_mem_nil, or_false, forall_eq_or_imp, forall_eq]; simp [vA, fRes_eq]; first | done | exact ⟨⟨rfl, rfl⟩, rfl⟩ | exact ⟨rfl, rfl⟩ | exact rfl | (refine ⟨rfl, ?_⟩; first | done | rfl | simp))); (try simp only [sA]))
            (apply DrO.pure; (case hw => rfl); (case hd => rfl); (case hv => (simp only [List.mem_cons, List.not_mem_nil, or_false, forall_eq_or_imp, forall_eq]; simp [vA, fRes_eq]; first | done | exact ⟨⟨rfl, rfl⟩, rfl⟩ | exact ⟨rfl, rfl⟩ | exact rfl | (refine ⟨rfl, ?_⟩; first | done | rfl | simp))); (try simp only [sA]))
            (apply DrO.pure; (case hw => rfl); (case hd => rfl); (case hv => (simp only [List.mem_cons, List.not_mem_nil, or_false, forall_eq_or_imp, forall_eq]; simp [vA, fRes_eq]; first | done | exact ⟨⟨rfl, rfl⟩, rfl⟩ | exact ⟨rfl, rfl⟩ | exact rfl | (refine ⟨rfl, ?_⟩; first | done | rfl | simp))); (try simp only [sA]))
            apply DrO.row 1 1 [.int .i64 300, .int .i64 2500] rfl rfl (fun st _ => rfl) (by simp) (by simp) (by simp)
            simp only [putA, List.set_cons_zero, List.set_cons_succ]
            apply DrO.eff (.int .i64 q) (⟨[[.int .u64 b3], FB, [.int .i64 T1v, .int .i64 T2v], FS, [.int .i64 R1v, .int .i64 R2v], [.int .i64 H1v, .int .i64 H2v], [.int .i64 1, .int .i64 a, .int .i64 0]], [(2, 1), (2, 1)]⟩) (⟨[[.int .u64 b4], FB, [.int .i64 T1v, .int .i64 T2v], FS, [.int .i64 R1v, .int .i64 R2v], [.int .i64 H1v, .int .i64 H2v], [.int .i64 1, .int .i64 a, .int .i64 0]], [(2, 1), (2, 1)]⟩) rfl rfl rfl rfl rfl (by rw [evOp_call (f := 39) (xs := [.ptr 0 0, .sl [.int .i64 300, .int .i64 2500] (some 1)]) rfl]; exact drum_callT rfl rfl hq1)
            simp only [putA, List.set_cons_zero, List.set_cons_succ]
            apply DrO.eff (.int .i64 d) (⟨[[.int .u64 b4], FB, [.int .i64 T1v, .int .i64 T2v], FS, [.int .i64 R1v, .int .i64 R2v], [.int .i64 H1v, .int .i64 H2v], [.int .i64 1, .int .i64 a, .int .i64 0]], [(2, 1), (2, 1)]⟩) (⟨[[.int .u64 b5], FB, [.int .i64 T1v, .int .i64 T2v], FS, [.int .i64 R1v, .int .i64 R2v], [.int .i64 H1v, .int .i64 H2v], [.int .i64 1, .int .i64 a, .int .i64 0]], [(2, 1), (2, 1)]⟩) rfl rfl rfl rfl rfl (by rw [evOp_call (f := 41) (xs := [.ptr 0 0, .int .i64 1, .int .i64 q]) rfl]; exact drum_callT rfl rfl hd1)
            simp only [putA, List.set_cons_zero, List.set_cons_succ]
            exact DrO.nil rfl
          simp only [List.drop_succ_cons, List.drop_zero, List.getLastD_cons, List.getLastD_nil, List.append_nil, List.cons_append, List.nil_append]
          (repeat (first|((first|refine ExO.nil ?_|refine Ex.skip ?_|refine Ex.ret ?_|refine Ex.exit ?_); try dsimp only)|((first|(refine xI ?_; intro _ _)|refine xL ?_|(refine xB ?_; intro _ _)|refine xG ?_|refine xS ?_|refine xM ?_|(refine xC ?_; intro _ _)|refine xW ?_); try simp only [sA])|refine Ex.seq ?_|refine Ex.reg ?_|refine Ex.block ?_|refine eT ?_|refine eF ?_|simp only [reduceCtorEq, AEx.ex.injEq, Nat.reduceEqDiff, if_true, if_false]))
          rename_i bb hbb m3 hm3
          rw [wd] at hbb
          subst hbb
          rw [i64_in (by omega) (by omega)] at hm3
          refine ⟨_, _, forgets 6 [3] ([true, false, false, false, true, false, false, true, false, false, true, false, true, false, true, true, false, false, false, false, false, false, false, false, false, false, false, false, false, false, false, false, false, false, false, false, false, false, false, false, false, false, false, false, false, false, false, false, false, false, false, false, false, false, false, false, false, false, false, false, false, false, false, false, false, false, false, false, false, false, false, false, false, false, false, false, false, false, false, false, false, false, false, false, false, false, false, false, false, false, false, false, false, false, false, false, false, false, false, false, false, false, false]) (by decide) (by simp) (bx2 := [[.int .u64 b5], FB, [.int .i64 T1v, .int .i64 T2v], FS, [.int .i64 R1v, .int .i64 R2v], [.int .i64 H1v, .int .i64 H2v]]) (by simp [re, re1, AV.clean, cleanL, hFB, hFS]) (lv2 := [(1, 3)]) (by simp) (by decide), m3.toNat, by omega, m3, b5, [⟨1, a, (a + d)⟩], _, _, rfl, by omega, by simp at hcnt ⊢; omega, ?_, .inr ⟨rfl, rfl⟩, ?_, by simp⟩
          · intro h hh
            simp only [List.mem_singleton] at hh
            subst hh
            exact .inl ⟨rfl, by show 0 ≤ a; omega, by show a < a + d; omega, by show a + d ≤ 20000; omega⟩
          · simp [keepS, re, re1, AV.clean, cleanL, clean_hds, cleanL_append, Hd.av, List.idxOf?, List.findIdx?, List.findIdx?.go]
      · (repeat (first|((first|refine ExO.nil ?_|refine Ex.skip ?_|refine Ex.ret ?_|refine Ex.exit ?_); try dsimp only)|((first|(refine xI ?_; intro _ _)|refine xL ?_|(refine xB ?_; intro _ _)|refine xG ?_|refine xS ?_|refine xM ?_|(refine xC ?_; intro _ _)|refine xW ?_); try simp only [sA])|refine Ex.seq ?_|refine Ex.reg ?_|refine Ex.block ?_|refine eT ?_|refine eF ?_|simp only [reduceCtorEq, AEx.ex.injEq, Nat.reduceEqDiff, if_true, if_false]))
        (refine ExO.call (f := (41)) (xs := ([.ptr 0 0, .int .i64 1, .int .i64 3])) (bs := [0]) (cells := ([[.int .u64 b]])) (by rfl) (by rfl) (by rfl) (by rfl) (by rfl) (by rfl) ((mid_m b 1 3 (by omega) (by omega) (by omega) (by omega))) ?_; rintro v c' ⟨kind, b1, rfl, rfl, k1, k2, k3⟩; refine ⟨_, rfl, rfl, ?_⟩; simp only [List.map_cons, List.map_nil, putA, List.set_cons_zero, List.set_cons_succ, AV.plain, AV.plain1, setAll, List.length_cons, List.length_nil, List.drop_succ_cons, List.drop_zero, List.drop_nil, List.append_nil, Nat.reduceAdd]; (repeat (first|((first|refine ExO.nil ?_|refine Ex.skip ?_|refine Ex.ret ?_|refine Ex.exit ?_); try dsimp only)|((first|(refine xI ?_; intro _ _)|refine xL ?_|(refine xB ?_; intro _ _)|refine xG ?_|refine xS ?_|refine xM ?_|(refine xC ?_; intro _ _)|refine xW ?_); try simp only [sA])|refine Ex.seq ?_|refine Ex.reg ?_|refine Ex.block ?_|refine eT ?_|refine eF ?_|simp only [reduceCtorEq, AEx.ex.injEq, Nat.reduceEqDiff, if_true, if_false])))
        rename_i c2 hc2
        cases c2
        · (refine Ex.cond (b := false) (by first | rfl | simp [evd]) ?_; simp only [Bool.false_eq_true, if_false])
          (repeat (first|((first|refine ExO.nil ?_|refine Ex.skip ?_|refine Ex.ret ?_|refine Ex.exit ?_); try dsimp only)|((first|(refine xI ?_; intro _ _)|refine xL ?_|(refine xB ?_; intro _ _)|refine xG ?_|refine xS ?_|refine xM ?_|(refine xC ?_; intro _ _)|refine xW ?_); try simp only [sA])|refine Ex.seq ?_|refine Ex.reg ?_|refine Ex.block ?_|refine eT ?_|refine eF ?_|simp only [reduceCtorEq, AEx.ex.injEq, Nat.reduceEqDiff, if_true, if_false]))
          rename_i c3 hc3
          cases c3
          · have hk1 : kind ≠ 1 := by have := hc2.symm; simpa using this
            have hk2 : kind ≠ 2 := by have := hc3.symm; simpa using this
            have hk3 := k2 (by decide)
            obtain rfl : kind = 3 := by omega
            (refine Ex.cond (b := false) (by first | rfl | simp [evd]) ?_; simp only [Bool.false_eq_true, if_false])
            (repeat (first|((first|refine ExO.nil ?_|refine Ex.skip ?_|refine Ex.ret ?_|refine Ex.exit ?_); try dsimp only)|((first|(refine xI ?_; intro _ _)|refine xL ?_|(refine xB ?_; intro _ _)|refine xG ?_|refine xS ?_|refine xM ?_|(refine xC ?_; intro _ _)|refine xW ?_); try simp only [sA])|refine Ex.seq ?_|refine Ex.reg ?_|refine Ex.block ?_|refine eT ?_|refine eF ?_|simp only [reduceCtorEq, AEx.ex.injEq, Nat.reduceEqDiff, if_true, if_false]))
            obtain ⟨q1, b2, o1, p1, p2⟩ := of_o5 b1 T1v T2v (by omega) (by omega) (by omega) (by omega)
            obtain ⟨d1, b3, o2, p3⟩ := any_o b2 [-1, 0, 1, 300] (by simp) (by simp)
            have p3' : d1 = -1 ∨ d1 = 0 ∨ d1 = 1 ∨ d1 = 300 := by simpa using p3
            obtain ⟨q2, b4, o3, p4, p5⟩ := of_o5 b3 R1v R2v (by omega) (by omega) (by omega) (by omega)
            obtain ⟨d2, b5, o4, p6⟩ := any_o b4 [-1, 0, 1] (by simp) (by simp)
            have p6' : d2 = -1 ∨ d2 = 0 ∨ d2 = 1 := by simpa using p6
            obtain ⟨q3, b6, o5, p7⟩ := any_o b5 [T2v, q2 + d2] (by simp) (by simp)
            have p7' : q3 = T2v ∨ q3 = q2 + d2 := by simpa using p7
            have wx1 : IntKind.i64.wrap (q1 + d1) = q1 + d1 := i64_in (by omega) (by omega)
            have wx2 : IntKind.i64.wrap (q2 + d2) = q2 + d2 := i64_in (by omega) (by omega)
            obtain ⟨y1, hy1⟩ : ∃ y, (if 0 < q1 + d1 then q1 + d1 else 0) = y := ⟨_, rfl⟩
            obtain ⟨y2, hy2⟩ : ∃ y, (if 0 < q3 then q3 else 0) = y := ⟨_, rfl⟩
            have by1 : 0 ≤ y1 ∧ y1 ≤ 10000000 := by rw [← hy1]; split <;> omega
            have by2 : 0 ≤ y2 ∧ y2 ≤ 10000000 := by rw [← hy2]; split <;> omega
            apply Ex.drawE T5_ok [] [(4, 1), (3, 1), (2, 1)] [⟨[[.int .u64 b2], FB, [.int .i64 T1v, .int .i64 T2v], FS, [.int .i64 R1v, .int .i64 R2v], [.int .i64 H1v, .int .i64 H2v], [.int .i64 3, .int .i64 0, .int .i64 0]], [(hs.length, 3), (4, 1), (3, 1), (2, 1)]⟩, ⟨[[.int .u64 b3], FB, [.int .i64 T1v, .int .i64 T2v], FS, [.int .i64 R1v, .int .i64 R2v], [.int .i64 H1v, .int .i64 H2v], [.int .i64 3, .int .i64 0, .int .i64 0]], [(hs.length, 3), (4, 1), (3, 1), (2, 1)]⟩, ⟨[[.int .u64 b4], FB, [.int .i64 T1v, .int .i64 T2v], FS, [.int .i64 R1v, .int .i64 R2v], [.int .i64 H1v, .int .i64 H2v], [.int .i64 3, .int .i64 0, .int .i64 0]], [(hs.length, 3), (4, 1), (3, 1), (2, 1)]⟩, ⟨[[.int .u64 b5], FB, [.int .i64 T1v, .int .i64 T2v], FS, [.int .i64 R1v, .int .i64 R2v], [.int .i64 H1v, .int .i64 H2v], [.int .i64 3, .int .i64 0, .int .i64 0]], [(hs.length, 3), (4, 1), (3, 1), (2, 1)]⟩, ⟨[[.int .u64 b6], FB, [.int .i64 T1v, .int .i64 T2v], FS, [.int .i64 R1v, .int .i64 R2v], [.int .i64 H1v, .int .i64 H2v], [.int .i64 3, .int .i64 0, .int .i64 0]], [(hs.length, 3), (4, 1), (3, 1), (2, 1)]⟩, ⟨[[.int .u64 b6], FB, [.int .i64 T1v, .int .i64 T2v], FS, [.int .i64 R1v, .int .i64 R2v], [.int .i64 H1v, .int .i64 H2v], [.int .i64 3, .int .i64 y1, .int .i64 0]], [(hs.length, 3), (4, 1), (3, 1), (2, 1)]⟩]
            case hD =>
              simp only [List.take_succ_cons, List.take_zero, List.append_nil, List.nil_append, List.cons_append]
              (apply DrO.pure; (case hw => rfl); (case hd => rfl); (case hv => (simp only [List.mem_cons, List.not_mem_nil, or_false, forall_eq_or_imp, forall_eq]; simp [vA, fRes_eq]; first | done | exact ⟨⟨rfl, rfl⟩, rfl⟩ | exact ⟨rfl, rfl⟩ | exact rfl | (refine ⟨rfl, ?_⟩; first | done | rfl | simp))); (try simp only [sA]))
              (apply DrO.pure; (case hw => rfl); (case hd => rfl); (case hv => (simp only [List.mem_cons, List.not_mem_nil, or_false, forall_eq_or_imp, forall_eq]; simp [vA, fRes_eq]; first | done | exact ⟨⟨rfl, rfl⟩, rfl⟩ | exact ⟨rfl, rfl⟩ | exact rfl | (refine ⟨rfl, ?_⟩; first | done | rfl | simp))); (try simp only [sA]))
              apply DrO.eff (.int .i64 q1) (⟨[[.int .u64 b1], FB, [.int .i64 T1v, .int .i64 T2v], FS, [.int .i64 R1v, .int .i64 R2v], [.int .i64 H1v, .int .i64 H2v], [.int .i64 3, .int .i64 0, .int .i64 0]], [(hs.length, 3), (4, 1), (3, 1), (2, 1)]⟩) (⟨[[.int .u64 b2], FB, [.int .i64 T1v, .int .i64 T2v], FS, [.int .i64 R1v, .int .i64 R2v], [.int .i64 H1v, .int .i64 H2v], [.int .i64 3, .int .i64 0, .int .i64 0]], [(hs.length, 3), (4, 1), (3, 1), (2, 1)]⟩) rfl rfl rfl rfl rfl (by rw [evOp_call (f := 35) (xs := [.ptr 0 0, .agg [.int .i64 T1v, .int .i64 T2v]]) rfl]; exact drum_callT rfl rfl o1)
              simp only [putA, List.set_cons_zero, List.set_cons_succ]
              (apply DrO.pure; (case hw => rfl); (case hd => rfl); (case hv => (simp only [List.mem_cons, List.not_mem_nil, or_false, forall_eq_or_imp, forall_eq]; simp [vA, fRes_eq]; first | done | exact ⟨⟨rfl, rfl⟩, rfl⟩ | exact ⟨rfl, rfl⟩ | exact rfl | (refine ⟨rfl, ?_⟩; first | done | rfl | simp))); (try simp only [sA]))
              apply DrO.row 1 1 [.int .i64 (-1), .int .i64 0, .int .i64 1, .int .i64 300] rfl rfl (fun st _ => rfl) (by simp) (by simp) (by simp)
              simp only [putA, List.set_cons_zero, List.set_cons_succ]
              apply DrO.eff (.int .i64 d1) (⟨[[.int .u64 b2], FB, [.int .i64 T1v, .int .i64 T2v], FS, [.int .i64 R1v, .int .i64 R2v], [.int .i64 H1v, .int .i64 H2v], [.int .i64 3, .int .i64 0, .int .i64 0]], [(hs.length, 3), (4, 1), (3, 1), (2, 1)]⟩) (⟨[[.int .u64 b3], FB, [.int .i64 T1v, .int .i64 T2v], FS, [.int .i64 R1v, .int .i64 R2v], [.int .i64 H1v, .int .i64 H2v], [.int .i64 3, .int .i64 0, .int .i64 0]], [(hs.length, 3), (4, 1), (3, 1), (2, 1)]⟩) rfl rfl rfl rfl rfl (by rw [evOp_call (f := 39) (xs := [.ptr 0 0, .sl [.int .i64 (-1), .int .i64 0, .int .i64 1, .int .i64 300] (some 1)]) rfl]; exact drum_callT rfl rfl o2)
              simp only [putA, List.set_cons_zero, List.set_cons_succ]
              (apply DrO.pure; (case hw => rfl); (case hd => rfl); (case hv => (simp only [List.mem_cons, List.not_mem_nil, or_false, forall_eq_or_imp, forall_eq]; simp [vA, fRes_eq, wx1]; first | done | exact ⟨⟨rfl, rfl⟩, rfl⟩ | exact ⟨rfl, rfl⟩ | exact rfl | (refine ⟨rfl, ?_⟩; first | done | rfl | simp))); (try simp only [sA]))
              (apply DrO.pure; (case hw => rfl); (case hd => rfl); (case hv => (simp only [List.mem_cons, List.not_mem_nil, or_false, forall_eq_or_imp, forall_eq]; simp [vA, fRes_eq, hy1]; first | done | exact ⟨⟨rfl, rfl⟩, rfl⟩ | exact ⟨rfl, rfl⟩ | exact rfl | (refine ⟨rfl, ?_⟩; first | done | rfl | simp))); (try simp only [sA]))
              (apply DrO.pure; (case hw => rfl); (case hd => rfl); (case hv => (simp only [List.mem_cons, List.not_mem_nil, or_false, forall_eq_or_imp, forall_eq]; simp [vA, fRes_eq]; first | done | exact ⟨⟨rfl, rfl⟩, rfl⟩ | exact ⟨rfl, rfl⟩ | exact rfl | (refine ⟨rfl, ?_⟩; first | done | rfl | simp))); (try simp only [sA]))
              (apply DrO.pure; (case hw => rfl); (case hd => rfl); (case hv => (simp only [List.mem_cons, List.not_mem_nil, or_false, forall_eq_or_imp, forall_eq]; simp [vA, fRes_eq]; first | done | exact ⟨⟨rfl, rfl⟩, rfl⟩ | exact ⟨rfl, rfl⟩ | exact rfl | (refine ⟨rfl, ?_⟩; first | done | rfl | simp))); (try simp only [sA]))
              (apply DrO.pure; (case hw => rfl); (case hd => rfl); (case hv => (simp only [List.mem_cons, List.not_mem_nil, or_false, forall_eq_or_imp, forall_eq]; simp [vA, fRes_eq]; first | done | exact ⟨⟨rfl, rfl⟩, rfl⟩ | exact ⟨rfl, rfl⟩ | exact rfl | (refine ⟨rfl, ?_⟩; first | done | rfl | simp))); (try simp only [sA]))
              (apply DrO.pure; (case hw => rfl); (case hd => rfl); (case hv => (simp only [List.mem_cons, List.not_mem_nil, or_false, forall_eq_or_imp, forall_eq]; simp [vA, fRes_eq]; first | done | exact ⟨⟨rfl, rfl⟩, rfl⟩ | exact ⟨rfl, rfl⟩ | exact rfl | (refine ⟨rfl, ?_⟩; first | done | rfl | simp))); (try simp only [sA]))
              (apply DrO.pure; (case hw => rfl); (case hd => rfl); (case hv => (simp only [List.mem_cons, List.not_mem_nil, or_false, forall_eq_or_imp, forall_eq]; simp [vA, fRes_eq]; first | done | exact ⟨⟨rfl, rfl⟩, rfl⟩ | exact ⟨rfl, rfl⟩ | exact rfl | (refine ⟨rfl, ?_⟩; first | done | rfl | simp))); (try simp only [sA]))
              apply DrO.eff (.int .i64 q2) (⟨[[.int .u64 b3], FB, [.int .i64 T1v, .int .i64 T2v], FS, [.int .i64 R1v, .int .i64 R2v], [.int .i64 H1v, .int .i64 H2v], [.int .i64 3, .int .i64 0, .int .i64 0]], [(hs.length, 3), (4, 1), (3, 1), (2, 1)]⟩) (⟨[[.int .u64 b4], FB, [.int .i64 T1v, .int .i64 T2v], FS, [.int .i64 R1v, .int .i64 R2v], [.int .i64 H1v, .int .i64 H2v], [.int .i64 3, .int .i64 0, .int .i64 0]], [(hs.length, 3), (4, 1), (3, 1), (2, 1)]⟩) rfl rfl rfl rfl rfl (by rw [evOp_call (f := 35) (xs := [.ptr 0 0, .agg [.int .i64 R1v, .int .i64 R2v]]) rfl]; exact drum_callT rfl rfl o3)
              simp only [putA, List.set_cons_zero, List.set_cons_succ]
              (apply DrO.pure; (case hw => rfl); (case hd => rfl); (case hv => (simp only [List.mem_cons, List.not_mem_nil, or_false, forall_eq_or_imp, forall_eq]; simp [vA, fRes_eq]; first | done | exact ⟨⟨rfl, rfl⟩, rfl⟩ | exact ⟨rfl, rfl⟩ | exact rfl | (refine ⟨rfl, ?_⟩; first | done | rfl | simp))); (try simp only [sA]))
              apply DrO.row 2 1 [.int .i64 (-1), .int .i64 0, .int .i64 1] rfl rfl (fun st _ => rfl) (by simp) (by simp) (by simp)
              simp only [putA, List.set_cons_zero, List.set_cons_succ]
              apply DrO.eff (.int .i64 d2) (⟨[[.int .u64 b4], FB, [.int .i64 T1v, .int .i64 T2v], FS, [.int .i64 R1v, .int .i64 R2v], [.int .i64 H1v, .int .i64 H2v], [.int .i64 3, .int .i64 0, .int .i64 0]], [(hs.length, 3), (4, 1), (3, 1), (2, 1)]⟩) (⟨[[.int .u64 b5], FB, [.int .i64 T1v, .int .i64 T2v], FS, [.int .i64 R1v, .int .i64 R2v], [.int .i64 H1v, .int .i64 H2v], [.int .i64 3, .int .i64 0, .int .i64 0]], [(hs.length, 3), (4, 1), (3, 1), (2, 1)]⟩) rfl rfl rfl rfl rfl (by rw [evOp_call (f := 39) (xs := [.ptr 0 0, .sl [.int .i64 (-1), .int .i64 0, .int .i64 1] (some 2)]) rfl]; exact drum_callT rfl rfl o4)
              simp only [putA, List.set_cons_zero, List.set_cons_succ]
              (apply DrO.pure; (case hw => rfl); (case hd => rfl); (case hv => (simp only [List.mem_cons, List.not_mem_nil, or_false, forall_eq_or_imp, forall_eq]; simp [vA, fRes_eq, wx2]; first | done | exact ⟨⟨rfl, rfl⟩, rfl⟩ | exact ⟨rfl, rfl⟩ | exact rfl | (refine ⟨rfl, ?_⟩; first | done | rfl | simp))); (try simp only [sA]))
              apply DrO.row 3 1 [.int .i64 T2v, .int .i64 (q2 + d2)] rfl rfl (fun st _ => rfl) (by simp) (by simp) (by simp)
              simp only [putA, List.set_cons_zero, List.set_cons_succ]
              apply DrO.eff (.int .i64 q3) (⟨[[.int .u64 b5], FB, [.int .i64 T1v, .int .i64 T2v], FS, [.int .i64 R1v, .int .i64 R2v], [.int .i64 H1v, .int .i64 H2v], [.int .i64 3, .int .i64 0, .int .i64 0]], [(hs.length, 3), (4, 1), (3, 1), (2, 1)]⟩) (⟨[[.int .u64 b6], FB, [.int .i64 T1v, .int .i64 T2v], FS, [.int .i64 R1v, .int .i64 R2v], [.int .i64 H1v, .int .i64 H2v], [.int .i64 3, .int .i64 0, .int .i64 0]], [(hs.length, 3), (4, 1), (3, 1), (2, 1)]⟩) rfl rfl rfl rfl rfl (by rw [evOp_call (f := 39) (xs := [.ptr 0 0, .sl [.int .i64 T2v, .int .i64 (q2 + d2)] (some 3)]) rfl]; exact drum_callT rfl rfl o5)
              simp only [putA, List.set_cons_zero, List.set_cons_succ]
              (apply DrO.pure; (case hw => rfl); (case hd => rfl); (case hv => (simp only [List.mem_cons, List.not_mem_nil, or_false, forall_eq_or_imp, forall_eq]; simp [vA, fRes_eq, hy2]; first | done | exact ⟨⟨rfl, rfl⟩, rfl⟩ | exact ⟨rfl, rfl⟩ | exact rfl | (refine ⟨rfl, ?_⟩; first | done | rfl | simp))); (try simp only [sA]))
              (apply DrO.pure; (case hw => rfl); (case hd => rfl); (case hv => (simp only [List.mem_cons, List.not_mem_nil, or_false, forall_eq_or_imp, forall_eq]; simp [vA, fRes_eq]; first | done | exact ⟨⟨rfl, rfl⟩, rfl⟩ | exact ⟨rfl, rfl⟩ | exact rfl | (refine ⟨rfl, ?_⟩; first | done | rfl | simp))); (try simp only [sA]))
              (apply DrO.eff; (case hw => rfl); (case hd => rfl); (case hl => rfl); (case hs => rfl); (case hs' => rfl); (case hv => (simp [vA, fRes_eq]; first|done|exact ⟨⟨rfl,rfl⟩,rfl⟩|exact ⟨rfl,rfl⟩|exact rfl)); (try simp only [sA]))
              exact DrO.nil rfl
            simp only [List.drop_succ_cons, List.drop_zero, List.getLastD_cons, List.getLastD_nil, List.append_nil, List.cons_append, List.nil_append]
            (repeat (first|((first|refine ExO.nil ?_|refine Ex.skip ?_|refine Ex.ret ?_|refine Ex.exit ?_); try dsimp only)|((first|(refine xI ?_; intro _ _)|refine xL ?_|(refine xB ?_; intro _ _)|refine xG ?_|refine xS ?_|refine xM ?_|(refine xC ?_; intro _ _)|refine xW ?_); try simp only [sA])|refine Ex.seq ?_|refine Ex.reg ?_|refine Ex.block ?_|refine eT ?_|refine eF ?_|simp only [reduceCtorEq, AEx.ex.injEq, Nat.reduceEqDiff, if_true, if_false]))
            have hz1 : hs.length ≤ 65535 := by omega
            have hz3 : hs.length + 1 ≤ 65536 := by omega
            (apply ExO.stG; (case hk => rfl); (case hv => (simp [vA, fRes_eq, hz1, hz3, Hd.av_len]; first|done|exact ⟨⟨rfl,rfl⟩,rfl⟩|exact ⟨rfl,rfl⟩|exact rfl)); (try simp only [sA]))
            (repeat (first|((first|refine ExO.nil ?_|refine Ex.skip ?_|refine Ex.ret ?_|refine Ex.exit ?_); try dsimp only)|((first|(refine xI ?_; intro _ _)|refine xL ?_|(refine xB ?_; intro _ _)|refine xG ?_|refine xS ?_|refine xM ?_|(refine xC ?_; intro _ _)|refine xW ?_); try simp only [sA])|refine Ex.seq ?_|refine Ex.reg ?_|refine Ex.block ?_|refine eT ?_|refine eF ?_|simp only [reduceCtorEq, AEx.ex.injEq, Nat.reduceEqDiff, if_true, if_false]))
            rename_i m3 hm3
            rw [i64_in (by omega) (by omega)] at hm3
            refine ⟨_, _, forgets 6 [0] ([true, false, false, false, true, false, false, true, false, false, true, false, true, false, true, true, false, false, false, false, false, false, false, false, false, false, false, false, false, false, false, false, false, false, false, false, false, false, false, false, false, false, false, false, false, false, false, false, false, false, false, false, false, false, false, false, false, false, false, false, false, false, false, false, false, false, false, false, false, false, false, false, false, false, false, false, false, false, false, false, false, false, false, false, false, false, false, false, false, false, false, false, false, false, false, false, false, false, false, false, false, false, false]) (by decide) (by simp) (bx2 := [[.int .u64 b6], FB, [.int .i64 T1v, .int .i64 T2v], FS, [.int .i64 R1v, .int .i64 R2v], [.int .i64 H1v, .int .i64 H2v]]) (by simp [re, re1, AV.clean, cleanL, hFB, hFS]) (lv2 := [(hs.length + 1, 3)]) (by simp) (by decide), m3.toNat, by omega, m3, b6, hs ++ [⟨3, y1, y2⟩], _, _, rfl, by omega, by simp at hcnt ⊢; omega, ?_, .inr ⟨rfl, rfl⟩, ?_, by simp⟩
            · intro h hh
              rcases List.mem_append.1 hh with hh | hh
              · exact hall2 h hh
              simp only [List.mem_singleton] at hh
              subst hh
              exact .inr (.inr ⟨rfl, by show 0 ≤ y1; omega, by show y1 ≤ 10000000; omega, by show 0 ≤ y2; omega, by show y2 ≤ 10000000; omega⟩)
            · simp [keepS, re, re1, AV.clean, cleanL, clean_hds, cleanL_append, Hd.av, List.idxOf?, List.findIdx?, List.findIdx?.go]
          · obtain rfl : kind = 2 := by have := hc3.symm; simpa using this
            (refine Ex.cond (b := true) (by first | rfl | simp [evd]) ?_; simp only [if_true])
            (repeat (first|((first|refine ExO.nil ?_|refine Ex.skip ?_|refine Ex.ret ?_|refine Ex.exit ?_); try dsimp only)|((first|(refine xI ?_; intro _ _)|refine xL ?_|(refine xB ?_; intro _ _)|refine xG ?_|refine xS ?_|refine xM ?_|(refine xC ?_; intro _ _)|refine xW ?_); try simp only [sA])|refine Ex.seq ?_|refine Ex.reg ?_|refine Ex.block ?_|refine eT ?_|refine eF ?_|simp only [reduceCtorEq, AEx.ex.injEq, Nat.reduceEqDiff, if_true, if_false]))
            (refine ExO.call (f := (35)) (xs := ([.ptr 0 0, .agg [.int .i64 H1v, .int .i64 H2v]])) (bs := [0]) (cells := ([[.int .u64 b1]])) (by rfl) (by rfl) (by rfl) (by rfl) (by rfl) (by rfl) (((Meets.does (ofw_f b1 H1v H2v (by omega) (by omega) (by omega) (by omega))))) ?_; rintro v c' ⟨q, b2, rfl, rfl, q1, q2⟩; refine ⟨_, rfl, rfl, ?_⟩; simp only [List.map_cons, List.map_nil, putA, List.set_cons_zero, List.set_cons_succ, AV.plain, AV.plain1, setAll, List.length_cons, List.length_nil, List.drop_succ_cons, List.drop_zero, List.drop_nil, List.append_nil, Nat.reduceAdd]; (repeat (first|((first|refine ExO.nil ?_|refine Ex.skip ?_|refine Ex.ret ?_|refine Ex.exit ?_); try dsimp only)|((first|(refine xI ?_; intro _ _)|refine xL ?_|(refine xB ?_; intro _ _)|refine xG ?_|refine xS ?_|refine xM ?_|(refine xC ?_; intro _ _)|refine xW ?_); try simp only [sA])|refine Ex.seq ?_|refine Ex.reg ?_|refine Ex.block ?_|refine eT ?_|refine eF ?_|simp only [reduceCtorEq, AEx.ex.injEq, Nat.reduceEqDiff, if_true, if_false])))
            (refine ExO.call (f := (39)) (xs := ([.ptr 0 0, .sl [.int .i64 (-1), .int .i64 0, .int .i64 1, .int .i64 50] (some 1)])) (bs := [0]) (cells := ([[.int .u64 b2]])) (by rfl) (by rfl) (by rfl) (by rfl) (by rfl) (by rfl) ((any_m b2 [-1, 0, 1, 50] (by simp) (by simp))) ?_; rintro v c' ⟨d, b3, rfl, rfl, hd⟩; refine ⟨_, rfl, rfl, ?_⟩; simp only [List.map_cons, List.map_nil, putA, List.set_cons_zero, List.set_cons_succ, AV.plain, AV.plain1, setAll, List.length_cons, List.length_nil, List.drop_succ_cons, List.drop_zero, List.drop_nil, List.append_nil, Nat.reduceAdd]; (repeat (first|((first|refine ExO.nil ?_|refine Ex.skip ?_|refine Ex.ret ?_|refine Ex.exit ?_); try dsimp only)|((first|(refine xI ?_; intro _ _)|refine xL ?_|(refine xB ?_; intro _ _)|refine xG ?_|refine xS ?_|refine xM ?_|(refine xC ?_; intro _ _)|refine xW ?_); try simp only [sA])|refine Ex.seq ?_|refine Ex.reg ?_|refine Ex.block ?_|refine eT ?_|refine eF ?_|simp only [reduceCtorEq, AEx.ex.injEq, Nat.reduceEqDiff, if_true, if_false])))
            have hd3 : d = -1 ∨ d = 0 ∨ d = 1 ∨ d = 50 := by simpa using hd
            clear hd
            (repeat (first|((first|refine ExO.nil ?_|refine Ex.skip ?_|refine Ex.ret ?_|refine Ex.exit ?_); try dsimp only)|((first|(refine xI ?_; intro _ _)|refine xL ?_|(refine xB ?_; intro _ _)|refine xG ?_|refine xS ?_|refine xM ?_|(refine xC ?_; intro _ _)|refine xW ?_); try simp only [sA])|refine Ex.seq ?_|refine Ex.reg ?_|refine Ex.block ?_|refine eT ?_|refine eF ?_|simp only [reduceCtorEq, AEx.ex.injEq, Nat.reduceEqDiff, if_true, if_false]))
            rename_i x hx y hy z hz
            rw [i64_in (by omega) (by omega)] at hx
            have hz' : 0 ≤ z ∧ z ≤ 2000 := by
              split at hy <;> split at hz <;> omega
            clear hy hz
            have hz1 : hs.length ≤ 65535 := by omega
            have hz3 : hs.length + 1 ≤ 65536 := by omega
            (apply ExO.stG; (case hk => rfl); (case hv => (simp [vA, fRes_eq, hz1, hz3, Hd.av_len]; first|done|exact ⟨⟨rfl,rfl⟩,rfl⟩|exact ⟨rfl,rfl⟩|exact rfl)); (try simp only [sA]))
            (repeat (first|((first|refine ExO.nil ?_|refine Ex.skip ?_|refine Ex.ret ?_|refine Ex.exit ?_); try dsimp only)|((first|(refine xI ?_; intro _ _)|refine xL ?_|(refine xB ?_; intro _ _)|refine xG ?_|refine xS ?_|refine xM ?_|(refine xC ?_; intro _ _)|refine xW ?_); try simp only [sA])|refine Ex.seq ?_|refine Ex.reg ?_|refine Ex.block ?_|refine eT ?_|refine eF ?_|simp only [reduceCtorEq, AEx.ex.injEq, Nat.reduceEqDiff, if_true, if_false]))
            rename_i m3 hm3
            rw [i64_in (by omega) (by omega)] at hm3
            refine ⟨_, _, forgets 6 [0] ([true, false, false, false, true, false, false, true, false, false, true, false, true, false, true, true, false, false, false, false, false, false, false, false, false, false, false, false, false, false, false, false, false, false, false, false, false, false, false, false, false, false, false, false, false, false, false, false, false, false, false, false, false, false, false, false, false, false, false, false, false, false, false, false, false, false, false, false, false, false, false, false, false, false, false, false, false, false, false, false, false, false, false, false, false, false, false, false, false, false, false, false, false, false, false, false, false, false, false, false, false, false, false]) (by decide) (by simp) (bx2 := [[.int .u64 b3], FB, [.int .i64 T1v, .int .i64 T2v], FS, [.int .i64 R1v, .int .i64 R2v], [.int .i64 H1v, .int .i64 H2v]]) (by simp [re, re1, AV.clean, cleanL, hFB, hFS]) (lv2 := [(hs.length + 1, 3)]) (by simp) (by decide), m3.toNat, by omega, m3, b3, hs ++ [⟨2, z, 0⟩], _, _, rfl, by omega, by simp at hcnt ⊢; omega, ?_, .inr ⟨rfl, rfl⟩, ?_, by simp⟩
            · intro h hh
              rcases List.mem_append.1 hh with hh | hh
              · exact hall2 h hh
              simp only [List.mem_singleton] at hh
              subst hh
              exact .inr (.inl ⟨rfl, by show 0 ≤ z; omega, by show z ≤ 2000; omega, rfl⟩)
            · simp [keepS, re, re1, AV.clean, cleanL, clean_hds, cleanL_append, Hd.av, List.idxOf?, List.findIdx?, List.findIdx?.go]
        · obtain rfl : kind = 1 := by have := hc2.symm; simpa using this
          (refine Ex.cond (b := true) (by first | rfl | simp [evd]) ?_; simp only [if_true])
          (repeat (first|((first|refine ExO.nil ?_|refine Ex.skip ?_|refine Ex.ret ?_|refine Ex.exit ?_); try dsimp only)|((first|(refine xI ?_; intro _ _)|refine xL ?_|(refine xB ?_; intro _ _)|refine xG ?_|refine xS ?_|refine xM ?_|(refine xC ?_; intro _ _)|refine xW ?_); try simp only [sA])|refine Ex.seq ?_|refine Ex.reg ?_|refine Ex.block ?_|refine eT ?_|refine eF ?_|simp only [reduceCtorEq, AEx.ex.injEq, Nat.reduceEqDiff, if_true, if_false]))
          (refine ExO.call (f := (40)) (xs := ([.ptr 0 0, .int .i64 2000])) (bs := [0]) (cells := ([[.int .u64 b1]])) (by rfl) (by rfl) (by rfl) (by rfl) (by rfl) (by rfl) ((roll_m b1 2000 (by omega))) ?_; rintro v c' ⟨r1, b2, rfl, rfl, r11, r12, r13⟩; refine ⟨_, rfl, rfl, ?_⟩; simp only [List.map_cons, List.map_nil, putA, List.set_cons_zero, List.set_cons_succ, AV.plain, AV.plain1, setAll, List.length_cons, List.length_nil, List.drop_succ_cons, List.drop_zero, List.drop_nil, List.append_nil, Nat.reduceAdd]; (repeat (first|((first|refine ExO.nil ?_|refine Ex.skip ?_|refine Ex.ret ?_|refine Ex.exit ?_); try dsimp only)|((first|(refine xI ?_; intro _ _)|refine xL ?_|(refine xB ?_; intro _ _)|refine xG ?_|refine xS ?_|refine xM ?_|(refine xC ?_; intro _ _)|refine xW ?_); try simp only [sA])|refine Ex.seq ?_|refine Ex.reg ?_|refine Ex.block ?_|refine eT ?_|refine eF ?_|simp only [reduceCtorEq, AEx.ex.injEq, Nat.reduceEqDiff, if_true, if_false])))
          (refine ExO.call (f := (39)) (xs := ([.ptr 0 0, .sl [.int .i64 0, .int .i64 r1] (some 1)])) (bs := [0]) (cells := ([[.int .u64 b2]])) (by rfl) (by rfl) (by rfl) (by rfl) (by rfl) (by rfl) ((any2_m b2 0 r1)) ?_; rintro v c' ⟨a, b3, rfl, rfl, ha⟩; refine ⟨_, rfl, rfl, ?_⟩; simp only [List.map_cons, List.map_nil, putA, List.set_cons_zero, List.set_cons_succ, AV.plain, AV.plain1, setAll, List.length_cons, List.length_nil, List.drop_succ_cons, List.drop_zero, List.drop_nil, List.append_nil, Nat.reduceAdd]; (repeat (first|((first|refine ExO.nil ?_|refine Ex.skip ?_|refine Ex.ret ?_|refine Ex.exit ?_); try dsimp only)|((first|(refine xI ?_; intro _ _)|refine xL ?_|(refine xB ?_; intro _ _)|refine xG ?_|refine xS ?_|refine xM ?_|(refine xC ?_; intro _ _)|refine xW ?_); try simp only [sA])|refine Ex.seq ?_|refine Ex.reg ?_|refine Ex.block ?_|refine eT ?_|refine eF ?_|simp only [reduceCtorEq, AEx.ex.injEq, Nat.reduceEqDiff, if_true, if_false])))
          have ha0 : 0 ≤ a ∧ a < 2000 := by omega
          clear ha
          obtain ⟨q, b4, hq1, hq2⟩ := any_o b3 [300, 2500] (by simp) (by simp)
          have hq3 : q = 300 ∨ q = 2500 := by simpa using hq2
          obtain ⟨d, b5, hd1, hd2, hd3⟩ := mid_o b4 1 q (by omega) (by omega) (by omega)
          have wd : IntKind.i64.wrap (a + d) = a + d := i64_in (by omega) (by omega)
          apply Ex.drawE T5_ok [] [(2, 1)] [⟨[[.int .u64 b4], FB, [.int .i64 T1v, .int .i64 T2v], FS, [.int .i64 R1v, .int .i64 R2v], [.int .i64 H1v, .int .i64 H2v], [.int .i64 1, .int .i64 a, .int .i64 0]], [(hs.length, 3), (2, 1), (2, 1)]⟩, ⟨[[.int .u64 b5], FB, [.int .i64 T1v, .int .i64 T2v], FS, [.int .i64 R1v, .int .i64 R2v], [.int .i64 H1v, .int .i64 H2v], [.int .i64 1, .int .i64 a, .int .i64 0]], [(hs.length, 3), (2, 1), (2, 1)]⟩]
          case hD =>
            simp only [List.take_succ_cons, List.take_zero, List.append_nil, List.nil_append, List.cons_append]
            (apply DrO.pure; (case hw => rfl); (case hd => rfl); (case hv => (simp only [List.mem_cons, List.not_mem_nil, or_false, forall_eq_or_imp, forall_eq]; simp [vA, fRes_eq]; first | done | exact ⟨⟨rfl, rfl⟩, rfl⟩ | exact ⟨rfl, rfl⟩ | exact rfl | (refine ⟨rfl, ?_⟩; first | done | rfl | simp))); (try simp only [sA]))
            (apply DrO.pure; (case hw => rfl); (case hd => rfl); (case hv => (simp only [List.mem_cons, List.not_mem_nil, or_false, forall_eq_or_imp, forall_eq]; simp [vA, fRes_eq]; first | done | exact ⟨⟨rfl, rfl⟩, rfl⟩ | exact ⟨rfl, rfl⟩ | exact rfl | (refine ⟨rfl, ?_⟩; first | done | rfl | simp))); (try simp only [sA]))
            (apply DrO.pure; (case hw => rfl); (case hd => rfl); (case hv => (simp only [List.mem_cons, List.not_mem_nil, or_false, forall_eq_or_imp, forall_eq]; simp [vA, fRes_eq]; first | done | exact ⟨⟨rfl, rfl⟩, rfl⟩ | exact ⟨rfl, rfl⟩ | exact rfl | (refine ⟨rfl, ?_⟩; first | done | rfl | simp))); (try simp only [sA]))
            (apply DrO.pure; (case hw => rfl); (case hd => rfl); (case hv => (simp only [List.mem_cons, List.not_mem_nil, or_false, forall_eq_or_imp, forall_eq]; simp [vA, fRes_eq]; first | done | exact ⟨⟨rfl, rfl⟩, rfl⟩ | exact ⟨rfl, rfl⟩ | exact rfl | (refine ⟨rfl, ?_⟩; first | done | rfl | simp))); (try simp only [sA]))
            apply DrO.row 2 1 [.int .i64 300, .int .i64 2500] rfl rfl (fun st _ => rfl) (by simp) (by simp) (by simp)
            simp only [putA, List.set_cons_zero, List.set_cons_succ]
            apply DrO.eff (.int .i64 q) (⟨[[.int .u64 b3], FB, [.int .i64 T1v, .int .i64 T2v], FS, [.int .i64 R1v, .int .i64 R2v], [.int .i64 H1v, .int .i64 H2v], [.int .i64 1, .int .i64 a, .int .i64 0]], [(hs.length, 3), (2, 1), (2, 1)]⟩) (⟨[[.int .u64 b4], FB, [.int .i64 T1v, .int .i64 T2v], FS, [.int .i64 R1v, .int .i64 R2v], [.int .i64 H1v, .int .i64 H2v], [.int .i64 1, .int .i64 a, .int .i64 0]], [(hs.length, 3), (2, 1), (2, 1)]⟩) rfl rfl rfl rfl rfl (by rw [evOp_call (f := 39) (xs := [.ptr 0 0, .sl [.int .i64 300, .int .i64 2500] (some 2)]) rfl]; exact drum_callT rfl rfl hq1)
            simp only [putA, List.set_cons_zero, List.set_cons_succ]
            apply DrO.eff (.int .i64 d) (⟨[[.int .u64 b4], FB, [.int .i64 T1v, .int .i64 T2v], FS, [.int .i64 R1v, .int .i64 R2v], [.int .i64 H1v, .int .i64 H2v], [.int .i64 1, .int .i64 a, .int .i64 0]], [(hs.length, 3), (2, 1), (2, 1)]⟩) (⟨[[.int .u64 b5], FB, [.int .i64 T1v, .int .i64 T2v], FS, [.int .i64 R1v, .int .i64 R2v], [.int .i64 H1v, .int .i64 H2v], [.int .i64 1, .int .i64 a, .int .i64 0]], [(hs.length, 3), (2, 1), (2, 1)]⟩) rfl rfl rfl rfl rfl (by rw [evOp_call (f := 41) (xs := [.ptr 0 0, .int .i64 1, .int .i64 q]) rfl]; exact drum_callT rfl rfl hd1)
            simp only [putA, List.set_cons_zero, List.set_cons_succ]
            exact DrO.nil rfl
          simp only [List.drop_succ_cons, List.drop_zero, List.getLastD_cons, List.getLastD_nil, List.append_nil, List.cons_append, List.nil_append]
          (repeat (first|((first|refine ExO.nil ?_|refine Ex.skip ?_|refine Ex.ret ?_|refine Ex.exit ?_); try dsimp only)|((first|(refine xI ?_; intro _ _)|refine xL ?_|(refine xB ?_; intro _ _)|refine xG ?_|refine xS ?_|refine xM ?_|(refine xC ?_; intro _ _)|refine xW ?_); try simp only [sA])|refine Ex.seq ?_|refine Ex.reg ?_|refine Ex.block ?_|refine eT ?_|refine eF ?_|simp only [reduceCtorEq, AEx.ex.injEq, Nat.reduceEqDiff, if_true, if_false]))
          rename_i bb hbb
          rw [wd] at hbb
          subst hbb
          have hz1 : hs.length ≤ 65535 := by omega
          have hz3 : hs.length + 1 ≤ 65536 := by omega
          (apply ExO.stG; (case hk => rfl); (case hv => (simp [vA, fRes_eq, hz1, hz3, Hd.av_len]; first|done|exact ⟨⟨rfl,rfl⟩,rfl⟩|exact ⟨rfl,rfl⟩|exact rfl)); (try simp only [sA]))
          (repeat (first|((first|refine ExO.nil ?_|refine Ex.skip ?_|refine Ex.ret ?_|refine Ex.exit ?_); try dsimp only)|((first|(refine xI ?_; intro _ _)|refine xL ?_|(refine xB ?_; intro _ _)|refine xG ?_|refine xS ?_|refine xM ?_|(refine xC ?_; intro _ _)|refine xW ?_); try simp only [sA])|refine Ex.seq ?_|refine Ex.reg ?_|refine Ex.block ?_|refine eT ?_|refine eF ?_|simp only [reduceCtorEq, AEx.ex.injEq, Nat.reduceEqDiff, if_true, if_false]))
          rename_i m3 hm3
          rw [i64_in (by omega) (by omega)] at hm3
          refine ⟨_, _, forgets 6 [0] ([true, false, false, false, true, false, false, true, false, false, true, false, true, false, true, true, false, false, false, false, false, false, false, false, false, false, false, false, false, false, false, false, false, false, false, false, false, false, false, false, false, false, false, false, false, false, false, false, false, false, false, false, false, false, false, false, false, false, false, false, false, false, false, false, false, false, false, false, false, false, false, false, false, false, false, false, false, false, false, false, false, false, false, false, false, false, false, false, false, false, false, false, false, false, false, false, false, false, false, false, false, false, false]) (by decide) (by simp) (bx2 := [[.int .u64 b5], FB, [.int .i64 T1v, .int .i64 T2v], FS, [.int .i64 R1v, .int .i64 R2v], [.int .i64 H1v, .int .i64 H2v]]) (by simp [re, re1, AV.clean, cleanL, hFB, hFS]) (lv2 := [(hs.length + 1, 3)]) (by simp) (by decide), m3.toNat, by omega, m3, b5, hs ++ [⟨1, a, (a + d)⟩], _, _, rfl, by omega, by simp at hcnt ⊢; omega, ?_, .inr ⟨rfl, rfl⟩, ?_, by simp⟩
          · intro h hh
            rcases List.mem_append.1 hh with hh | hh
            · exact hall2 h hh
            simp only [List.mem_singleton] at hh
            subst hh
            exact .inl ⟨rfl, by show 0 ≤ a; omega, by show a < a + d; omega, by show a + d ≤ 20000; omega⟩
          · simp [keepS, re, re1, AV.clean, cleanL, clean_hds, cleanL_append, Hd.av, List.idxOf?, List.findIdx?, List.findIdx?.go]
end Go.Proofs.Ytoefpcpijolofaa
end
section
namespace Go.Proofs.Ytoefpcpijolofaa
open Go.RowKit
set_option linter.unusedVariables false
set_option linter.unusedSimpArgs false
set_option maxRecDepth 10000
set_option maxHeartbeats 4000000

def NB (n : Nat) : ACode → ACode := fun c => match n, c with
  | 0, .seq c _ => c
  | 0, c => c
  | n + 1, .seq _ d => NB n d
  | _, c => c
theorem NB_s (n : Nat) (c d : ACode) : NB (n + 1) (.seq c d) = NB n d := rfl
theorem NB_0 (c d : ACode) : NB 0 (.seq c d) = c := rfl
def narOk (len wid front rear turn kilos mid high : Int) (ls : List Ld) : Prop := FOk ⟨len, wid, front, rear, turn, kilos, mid, high⟩ ∧ (∀ l ∈ ls, LOk ⟨len, wid, front, rear, turn, kilos, mid, high⟩ l) ∧ (ls.length : Int) ≤ 6
def routeOk (hs : List Hd) : Prop := (∀ h ∈ hs, HOk h) ∧ (hs.length : Int) ≤ 5

end Go.Proofs.Ytoefpcpijolofaa
end
section
namespace Go.Proofs.Ytoefpcpijolofaa
open Go.RowKit
set_option linter.unusedVariables false
set_option linter.unusedSimpArgs false

inductive QO (S : St) : List AOper → List AV → List AV → Prop
  | nil {a : List AV} : QO S [] a a
  | val {x : AOper} {l : List AOper} {a a1 : List AV} (v : AV) (hw : wantedA x.guard a = some true) (hv : aop x.op (evd a) S = some (.val v)) (h : QO S l (putA a x.dst v) a1) : QO S (x :: l) a a1
  | skip {x : AOper} {l : List AOper} {a a1 : List AV} (hw : wantedA x.guard a = some false) (h : QO S l (putA a x.dst (.tup [])) a1) : QO S (x :: l) a a1
theorem QO.evQ {S : St} {l : List AOper} {a a1 : List AV} (h : QO S l a a1) : Proofs.Ytoefpcpijolofaa.evQ noClr l a S = some a1 := by
  induction h with
  | nil => rfl
  | val v hw hv h ih =>
    rw [evQ_cons]
    unfold stepQ
    rw [hw, evf_eq, hv]
    exact ih
  | skip hw h ih =>
    rw [evQ_cons]
    unfold stepQ
    rw [hw]
    exact ih
theorem QO.evOps {S : St} {l : List AOper} {a a1 : List AV} (h : QO S l a a1) : Proofs.Ytoefpcpijolofaa.evOps noClr l a S = some (a1, S) := by
  induction h with
  | nil => rfl
  | val v hw hv h ih => simp [Proofs.Ytoefpcpijolofaa.evOps, hw, evOp, evf_eq, hv, fRes_eq, finish, fv_eq, putK_eq, sp_eq, ih]
  | skip hw h ih => simp [Proofs.Ytoefpcpijolofaa.evOps, hw, fv_eq, putK_eq, ih]
end Go.Proofs.Ytoefpcpijolofaa
end
section
namespace Go.Proofs.Ytoefpcpijolofaa
open Go.RowKit
set_option linter.unusedVariables false
set_option maxRecDepth 100000

def inl (f : FuncId) : Bool := Nat.beq f 87
noncomputable def X4 : Clr := clrN tab inl noClr 300 14
theorem X4_ok : ClrOk Try.prog X4 := clrN_ok (noClr_ok _) tab_ok 300 14
def ld (a b c d e f g : Int) : AV := .agg [.int .i64 a, .int .i64 b, .int .i64 c, .int .i64 d, .int .i64 e, .int .i64 f, .int .i64 g]
def swanC (m : Int) : List AV := [.int .i64 1000, .int .i64 300, .int .i64 200, .int .i64 800, .int .i64 900, .int .i64 4000, .int .i64 m, .int .i64 400, .sl [ld 300 500 600 450 500 1 0, ld 700 1000 1000 380 380 2 5000, ld 500 100 200 300 350 3 3000, ld 600 50 50 400 520 4 0] none]
def mid9 : List AV := swanC 900
end Go.Proofs.Ytoefpcpijolofaa
end
section
namespace Go.Proofs.Ytoefpcpijolofaa
open Go.RowKit
set_option linter.unusedVariables false
set_option maxRecDepth 100000
theorem b1_50000 : evFn X4 300 F71 [.int .i64 50000, .ptr 0 0, .ptr 1 0] [mid9, [.int .i64 200]] = some (.bool true, [mid9, [.int .i64 200]]) := by kernel_rfl
theorem b1_25000 : evFn X4 300 F71 [.int .i64 25000, .ptr 0 0, .ptr 1 0] [mid9, [.int .i64 200]] = some (.bool true, [mid9, [.int .i64 200]]) := by kernel_rfl
theorem b1_12500 : evFn X4 300 F71 [.int .i64 12500, .ptr 0 0, .ptr 1 0] [mid9, [.int .i64 200]] = some (.bool true, [mid9, [.int .i64 200]]) := by kernel_rfl
theorem b1_6250 : evFn X4 300 F71 [.int .i64 6250, .ptr 0 0, .ptr 1 0] [mid9, [.int .i64 200]] = some (.bool true, [mid9, [.int .i64 200]]) := by kernel_rfl
theorem b1_3125 : evFn X4 300 F71 [.int .i64 3125, .ptr 0 0, .ptr 1 0] [mid9, [.int .i64 200]] = some (.bool true, [mid9, [.int .i64 200]]) := by kernel_rfl
theorem b1_1562 : evFn X4 300 F71 [.int .i64 1562, .ptr 0 0, .ptr 1 0] [mid9, [.int .i64 200]] = some (.bool true, [mid9, [.int .i64 200]]) := by kernel_rfl
theorem b1_781 : evFn X4 300 F71 [.int .i64 781, .ptr 0 0, .ptr 1 0] [mid9, [.int .i64 200]] = some (.bool true, [mid9, [.int .i64 200]]) := by kernel_rfl
theorem b1_390 : evFn X4 300 F71 [.int .i64 390, .ptr 0 0, .ptr 1 0] [mid9, [.int .i64 200]] = some (.bool true, [mid9, [.int .i64 200]]) := by kernel_rfl
theorem b1_195 : evFn X4 300 F71 [.int .i64 195, .ptr 0 0, .ptr 1 0] [mid9, [.int .i64 200]] = some (.bool true, [mid9, [.int .i64 200]]) := by kernel_rfl
end Go.Proofs.Ytoefpcpijolofaa
end
section
namespace Go.Proofs.Ytoefpcpijolofaa
open Go.RowKit
set_option linter.unusedVariables false
set_option maxRecDepth 100000
theorem b1_97 : evFn X4 300 F71 [.int .i64 97, .ptr 0 0, .ptr 1 0] [mid9, [.int .i64 200]] = some (.bool true, [mid9, [.int .i64 200]]) := by kernel_rfl
theorem b1_48 : evFn X4 300 F71 [.int .i64 48, .ptr 0 0, .ptr 1 0] [mid9, [.int .i64 200]] = some (.bool true, [mid9, [.int .i64 200]]) := by kernel_rfl
theorem b1_24 : evFn X4 300 F71 [.int .i64 24, .ptr 0 0, .ptr 1 0] [mid9, [.int .i64 200]] = some (.bool true, [mid9, [.int .i64 200]]) := by kernel_rfl
theorem b1_12 : evFn X4 300 F71 [.int .i64 12, .ptr 0 0, .ptr 1 0] [mid9, [.int .i64 200]] = some (.bool false, [mid9, [.int .i64 200]]) := by kernel_rfl
theorem b1_18 : evFn X4 300 F71 [.int .i64 18, .ptr 0 0, .ptr 1 0] [mid9, [.int .i64 200]] = some (.bool true, [mid9, [.int .i64 200]]) := by kernel_rfl
theorem b1_15 : evFn X4 300 F71 [.int .i64 15, .ptr 0 0, .ptr 1 0] [mid9, [.int .i64 200]] = some (.bool false, [mid9, [.int .i64 200]]) := by kernel_rfl
theorem b1_17 : evFn X4 300 F71 [.int .i64 17, .ptr 0 0, .ptr 1 0] [mid9, [.int .i64 200]] = some (.bool true, [mid9, [.int .i64 200]]) := by kernel_rfl
theorem b1_16 : evFn X4 300 F71 [.int .i64 16, .ptr 0 0, .ptr 1 0] [mid9, [.int .i64 200]] = some (.bool false, [mid9, [.int .i64 200]]) := by kernel_rfl
end Go.Proofs.Ytoefpcpijolofaa
end
section
namespace Go.Proofs.Ytoefpcpijolofaa
open Go.RowKit
set_option linter.unusedVariables false
set_option maxRecDepth 100000
theorem b2_50000 : evFn X4 300 F73 [.int .i64 50000, .ptr 0 0, .ptr 1 0, .ptr 2 0] [mid9, [.int .i64 200], [.nils]] = some (.bool false, [mid9, [.int .i64 200], [.nils]]) := by kernel_rfl
theorem b2_75001 : evFn X4 300 F73 [.int .i64 75001, .ptr 0 0, .ptr 1 0, .ptr 2 0] [mid9, [.int .i64 200], [.nils]] = some (.bool false, [mid9, [.int .i64 200], [.nils]]) := by kernel_rfl
theorem b2_87501 : evFn X4 300 F73 [.int .i64 87501, .ptr 0 0, .ptr 1 0, .ptr 2 0] [mid9, [.int .i64 200], [.nils]] = some (.bool false, [mid9, [.int .i64 200], [.nils]]) := by kernel_rfl
theorem b2_93751 : evFn X4 300 F73 [.int .i64 93751, .ptr 0 0, .ptr 1 0, .ptr 2 0] [mid9, [.int .i64 200], [.nils]] = some (.bool false, [mid9, [.int .i64 200], [.nils]]) := by kernel_rfl
theorem b2_96876 : evFn X4 300 F73 [.int .i64 96876, .ptr 0 0, .ptr 1 0, .ptr 2 0] [mid9, [.int .i64 200], [.nils]] = some (.bool false, [mid9, [.int .i64 200], [.nils]]) := by kernel_rfl
theorem b2_98439 : evFn X4 300 F73 [.int .i64 98439, .ptr 0 0, .ptr 1 0, .ptr 2 0] [mid9, [.int .i64 200], [.nils]] = some (.bool false, [mid9, [.int .i64 200], [.nils]]) := by kernel_rfl
theorem b2_99220 : evFn X4 300 F73 [.int .i64 99220, .ptr 0 0, .ptr 1 0, .ptr 2 0] [mid9, [.int .i64 200], [.nils]] = some (.bool false, [mid9, [.int .i64 200], [.nils]]) := by kernel_rfl
theorem b2_99611 : evFn X4 300 F73 [.int .i64 99611, .ptr 0 0, .ptr 1 0, .ptr 2 0] [mid9, [.int .i64 200], [.nils]] = some (.bool false, [mid9, [.int .i64 200], [.nils]]) := by kernel_rfl
theorem b2_99806 : evFn X4 300 F73 [.int .i64 99806, .ptr 0 0, .ptr 1 0, .ptr 2 0] [mid9, [.int .i64 200], [.nils]] = some (.bool false, [mid9, [.int .i64 200], [.nils]]) := by kernel_rfl
end Go.Proofs.Ytoefpcpijolofaa
end
section
namespace Go.Proofs.Ytoefpcpijolofaa
open Go.RowKit
set_option linter.unusedVariables false
set_option maxRecDepth 100000
theorem b2_99904 : evFn X4 300 F73 [.int .i64 99904, .ptr 0 0, .ptr 1 0, .ptr 2 0] [mid9, [.int .i64 200], [.nils]] = some (.bool false, [mid9, [.int .i64 200], [.nils]]) := by kernel_rfl
theorem b2_99953 : evFn X4 300 F73 [.int .i64 99953, .ptr 0 0, .ptr 1 0, .ptr 2 0] [mid9, [.int .i64 200], [.nils]] = some (.bool false, [mid9, [.int .i64 200], [.nils]]) := by kernel_rfl
theorem b2_99977 : evFn X4 300 F73 [.int .i64 99977, .ptr 0 0, .ptr 1 0, .ptr 2 0] [mid9, [.int .i64 200], [.nils]] = some (.bool false, [mid9, [.int .i64 200], [.nils]]) := by kernel_rfl
theorem b2_99989 : evFn X4 300 F73 [.int .i64 99989, .ptr 0 0, .ptr 1 0, .ptr 2 0] [mid9, [.int .i64 200], [.nils]] = some (.bool false, [mid9, [.int .i64 200], [.nils]]) := by kernel_rfl
theorem b2_99995 : evFn X4 300 F73 [.int .i64 99995, .ptr 0 0, .ptr 1 0, .ptr 2 0] [mid9, [.int .i64 200], [.nils]] = some (.bool false, [mid9, [.int .i64 200], [.nils]]) := by kernel_rfl
theorem b2_99998 : evFn X4 300 F73 [.int .i64 99998, .ptr 0 0, .ptr 1 0, .ptr 2 0] [mid9, [.int .i64 200], [.nils]] = some (.bool false, [mid9, [.int .i64 200], [.nils]]) := by kernel_rfl
theorem b2_100000 : evFn X4 300 F73 [.int .i64 100000, .ptr 0 0, .ptr 1 0, .ptr 2 0] [mid9, [.int .i64 200], [.nils]] = some (.bool false, [mid9, [.int .i64 200], [.nils]]) := by kernel_rfl
end Go.Proofs.Ytoefpcpijolofaa
end
section
namespace Go.Proofs.Ytoefpcpijolofaa
open Go.RowKit
set_option linter.unusedVariables false
set_option maxRecDepth 100000

structure Known (P : Program) where
  f : FuncId
  xs : List AV
  cells : List (List AV)
  v : AV
  cells' : List (List AV)
  h : Contract P f xs cells v cells'
def knO {P : Program} : List (Known P) → Orc
  | [], _, _, _ => none
  | e :: l, f, xs, cells => bif Nat.beq e.f f && (beqL e.xs xs && bxBeq e.cells cells) then some (e.v, e.cells') else knO l f xs cells
theorem knO_ok {P : Program} : ∀ (l : List (Known P)), OrcOk P (knO l)
  | [], _, _, _, _, _, h => by cases h
  | e :: l, f, xs, cells, v, c', h => by
    simp only [knO] at h
    cases hc : (Nat.beq e.f f && (beqL e.xs xs && bxBeq e.cells cells)) with
    | true =>
      rw [hc, cond_true] at h
      cases h
      simp only [Bool.and_eq_true] at hc
      have := e.h
      rw [Nat.eq_of_beq_eq_true hc.1, beqL_eq _ _ hc.2.1, bxBeq_eq _ _ hc.2.2] at this
      exact this
    | false =>
      rw [hc, cond_false] at h
      exact knO_ok l f xs cells v c' h
def known1 : List (Known Try.prog) := [⟨71, [.int .i64 50000, .ptr 0 0, .ptr 1 0], [mid9, [.int .i64 200]], .bool true, [mid9, [.int .i64 200]], evFn_ok X4_ok comp71 b1_50000⟩,⟨71, [.int .i64 25000, .ptr 0 0, .ptr 1 0], [mid9, [.int .i64 200]], .bool true, [mid9, [.int .i64 200]], evFn_ok X4_ok comp71 b1_25000⟩,⟨71, [.int .i64 12500, .ptr 0 0, .ptr 1 0], [mid9, [.int .i64 200]], .bool true, [mid9, [.int .i64 200]], evFn_ok X4_ok comp71 b1_12500⟩,⟨71, [.int .i64 6250, .ptr 0 0, .ptr 1 0], [mid9, [.int .i64 200]], .bool true, [mid9, [.int .i64 200]], evFn_ok X4_ok comp71 b1_6250⟩,⟨71, [.int .i64 3125, .ptr 0 0, .ptr 1 0], [mid9, [.int .i64 200]], .bool true, [mid9, [.int .i64 200]], evFn_ok X4_ok comp71 b1_3125⟩,⟨71, [.int .i64 1562, .ptr 0 0, .ptr 1 0], [mid9, [.int .i64 200]], .bool true, [mid9, [.int .i64 200]], evFn_ok X4_ok comp71 b1_1562⟩,⟨71, [.int .i64 781, .ptr 0 0, .ptr 1 0], [mid9, [.int .i64 200]], .bool true, [mid9, [.int .i64 200]], evFn_ok X4_ok comp71 b1_781⟩,⟨71, [.int .i64 390, .ptr 0 0, .ptr 1 0], [mid9, [.int .i64 200]], .bool true, [mid9, [.int .i64 200]], evFn_ok X4_ok comp71 b1_390⟩,⟨71, [.int .i64 195, .ptr 0 0, .ptr 1 0], [mid9, [.int .i64 200]], .bool true, [mid9, [.int .i64 200]], evFn_ok X4_ok comp71 b1_195⟩,⟨71, [.int .i64 97, .ptr 0 0, .ptr 1 0], [mid9, [.int .i64 200]], .bool true, [mid9, [.int .i64 200]], evFn_ok X4_ok comp71 b1_97⟩,⟨71, [.int .i64 48, .ptr 0 0, .ptr 1 0], [mid9, [.int .i64 200]], .bool true, [mid9, [.int .i64 200]], evFn_ok X4_ok comp71 b1_48⟩,⟨71, [.int .i64 24, .ptr 0 0, .ptr 1 0], [mid9, [.int .i64 200]], .bool true, [mid9, [.int .i64 200]], evFn_ok X4_ok comp71 b1_24⟩,⟨71, [.int .i64 12, .ptr 0 0, .ptr 1 0], [mid9, [.int .i64 200]], .bool false, [mid9, [.int .i64 200]], evFn_ok X4_ok comp71 b1_12⟩,⟨71, [.int .i64 18, .ptr 0 0, .ptr 1 0], [mid9, [.int .i64 200]], .bool true, [mid9, [.int .i64 200]], evFn_ok X4_ok comp71 b1_18⟩,⟨71, [.int .i64 15, .ptr 0 0, .ptr 1 0], [mid9, [.int .i64 200]], .bool false, [mid9, [.int .i64 200]], evFn_ok X4_ok comp71 b1_15⟩,⟨71, [.int .i64 17, .ptr 0 0, .ptr 1 0], [mid9, [.int .i64 200]], .bool true, [mid9, [.int .i64 200]], evFn_ok X4_ok comp71 b1_17⟩,⟨71, [.int .i64 16, .ptr 0 0, .ptr 1 0], [mid9, [.int .i64 200]], .bool false, [mid9, [.int .i64 200]], evFn_ok X4_ok comp71 b1_16⟩]
def known2 : List (Known Try.prog) := [⟨73, [.int .i64 50000, .ptr 0 0, .ptr 1 0, .ptr 2 0], [mid9, [.int .i64 200], [.nils]], .bool false, [mid9, [.int .i64 200], [.nils]], evFn_ok X4_ok comp73 b2_50000⟩,⟨73, [.int .i64 75001, .ptr 0 0, .ptr 1 0, .ptr 2 0], [mid9, [.int .i64 200], [.nils]], .bool false, [mid9, [.int .i64 200], [.nils]], evFn_ok X4_ok comp73 b2_75001⟩,⟨73, [.int .i64 87501, .ptr 0 0, .ptr 1 0, .ptr 2 0], [mid9, [.int .i64 200], [.nils]], .bool false, [mid9, [.int .i64 200], [.nils]], evFn_ok X4_ok comp73 b2_87501⟩,⟨73, [.int .i64 93751, .ptr 0 0, .ptr 1 0, .ptr 2 0], [mid9, [.int .i64 200], [.nils]], .bool false, [mid9, [.int .i64 200], [.nils]], evFn_ok X4_ok comp73 b2_93751⟩,⟨73, [.int .i64 96876, .ptr 0 0, .ptr 1 0, .ptr 2 0], [mid9, [.int .i64 200], [.nils]], .bool false, [mid9, [.int .i64 200], [.nils]], evFn_ok X4_ok comp73 b2_96876⟩,⟨73, [.int .i64 98439, .ptr 0 0, .ptr 1 0, .ptr 2 0], [mid9, [.int .i64 200], [.nils]], .bool false, [mid9, [.int .i64 200], [.nils]], evFn_ok X4_ok comp73 b2_98439⟩,⟨73, [.int .i64 99220, .ptr 0 0, .ptr 1 0, .ptr 2 0], [mid9, [.int .i64 200], [.nils]], .bool false, [mid9, [.int .i64 200], [.nils]], evFn_ok X4_ok comp73 b2_99220⟩,⟨73, [.int .i64 99611, .ptr 0 0, .ptr 1 0, .ptr 2 0], [mid9, [.int .i64 200], [.nils]], .bool false, [mid9, [.int .i64 200], [.nils]], evFn_ok X4_ok comp73 b2_99611⟩,⟨73, [.int .i64 99806, .ptr 0 0, .ptr 1 0, .ptr 2 0], [mid9, [.int .i64 200], [.nils]], .bool false, [mid9, [.int .i64 200], [.nils]], evFn_ok X4_ok comp73 b2_99806⟩,⟨73, [.int .i64 99904, .ptr 0 0, .ptr 1 0, .ptr 2 0], [mid9, [.int .i64 200], [.nils]], .bool false, [mid9, [.int .i64 200], [.nils]], evFn_ok X4_ok comp73 b2_99904⟩,⟨73, [.int .i64 99953, .ptr 0 0, .ptr 1 0, .ptr 2 0], [mid9, [.int .i64 200], [.nils]], .bool false, [mid9, [.int .i64 200], [.nils]], evFn_ok X4_ok comp73 b2_99953⟩,⟨73, [.int .i64 99977, .ptr 0 0, .ptr 1 0, .ptr 2 0], [mid9, [.int .i64 200], [.nils]], .bool false, [mid9, [.int .i64 200], [.nils]], evFn_ok X4_ok comp73 b2_99977⟩,⟨73, [.int .i64 99989, .ptr 0 0, .ptr 1 0, .ptr 2 0], [mid9, [.int .i64 200], [.nils]], .bool false, [mid9, [.int .i64 200], [.nils]], evFn_ok X4_ok comp73 b2_99989⟩,⟨73, [.int .i64 99995, .ptr 0 0, .ptr 1 0, .ptr 2 0], [mid9, [.int .i64 200], [.nils]], .bool false, [mid9, [.int .i64 200], [.nils]], evFn_ok X4_ok comp73 b2_99995⟩,⟨73, [.int .i64 99998, .ptr 0 0, .ptr 1 0, .ptr 2 0], [mid9, [.int .i64 200], [.nils]], .bool false, [mid9, [.int .i64 200], [.nils]], evFn_ok X4_ok comp73 b2_99998⟩,⟨73, [.int .i64 100000, .ptr 0 0, .ptr 1 0, .ptr 2 0], [mid9, [.int .i64 200], [.nils]], .bool false, [mid9, [.int .i64 200], [.nils]], evFn_ok X4_ok comp73 b2_100000⟩]
def tabB (f : FuncId) : Option AFn := bif Nat.beq f 71 || Nat.beq f 73 then none else tab f
theorem tabB_ok : ∀ f F, tabB f = some F → compFn Try.prog f = some F := by
  intro f F h
  unfold tabB at h
  cases hc : (Nat.beq f 71 || Nat.beq f 73) with
  | true => rw [hc] at h; cases h
  | false => rw [hc] at h; exact tab_ok f F h
noncomputable def X5 : Clr := clrN tabB inl (clrOf (knO (known1 ++ known2))) 300 14
theorem X5_ok : ClrOk Try.prog X5 := clrN_ok (clr_ok (knO_ok _)) tabB_ok 300 14
def spanA (a b : Int) : AV := .agg [.int .i64 a, .int .i64 b]
theorem ballast_run : evFn X5 300 F43 [.agg mid9, .nils, .int .i64 200] [] = some (.tup [spanA 17 100000, .int .i64 0], []) := by kernel_rfl
theorem axles_run : evFn X5 300 F15 [.agg (swanC 500)] [] = some (.tup [spanA 2650 2784, spanA 3000 3067, .int .i64 0], []) := by kernel_rfl
end Go.Proofs.Ytoefpcpijolofaa
end
section
namespace Go.Proofs.Ytoefpcpijolofaa
open Go.RowKit
set_option linter.unusedVariables false
set_option maxRecDepth 100000

def hur (k a b : Int) : AV := .agg [.int .i64 k, .int .i64 a, .int .i64 b]
theorem passes_run : evFn X5 300 F18 [.agg (swanC 500), .sl [hur 1 700 1400, hur 2 519 0, hur 3 5649 3067] none] [] = some (.tup [.sl [.int .i64 1, .int .i64 3, .int .i64 2] none, .int .i64 0], []) := by kernel_rfl
def known3 : List (Known Try.prog) := [⟨15, _, _, _, _, evFn_ok X5_ok comp15 axles_run⟩, ⟨18, _, _, _, _, evFn_ok X5_ok comp18 passes_run⟩, ⟨43, _, _, _, _, evFn_ok X5_ok comp43 ballast_run⟩]
def tabC (f : FuncId) : Option AFn := bif Nat.beq f 15 || (Nat.beq f 18 || Nat.beq f 43) then none else tab f
theorem tabC_ok : ∀ f F, tabC f = some F → compFn Try.prog f = some F := by
  intro f F h
  unfold tabC at h
  cases hc : (Nat.beq f 15 || (Nat.beq f 18 || Nat.beq f 43)) with
  | true => rw [hc] at h; cases h
  | false => rw [hc] at h; exact tab_ok f F h
noncomputable def X6 : Clr := clrN tabC inl (clrOf (knO known3)) 300 14
theorem X6_ok : ClrOk Try.prog X6 := clrN_ok (clr_ok (knO_ok _)) tabC_ok 300 14
theorem awake_run : evFn X6 300 F26 [] [] = some (.bool true, []) := by kernel_rfl
theorem awake_m : Meets Try.prog 26 [] [] fun v c' => v = .bool true ∧ c' = [] :=
  ⟨_, _, evFn_ok X6_ok comp26 awake_run, rfl, rfl⟩
end Go.Proofs.Ytoefpcpijolofaa
end
section
namespace Go.Proofs.Ytoefpcpijolofaa
open Go.RowKit
set_option linter.unusedVariables false
set_option linter.unusedSimpArgs false
set_option maxRecDepth 10000
set_option maxHeartbeats 4000000

def NR : Nat → ACode → ACode := fun n c => match n, c with
  | 0, c => c
  | n + 1, .seq _ d => NR n d
  | _, c => c
theorem NR_s (n : Nat) (c d : ACode) : NR (n + 1) (.seq c d) = NR n d := rfl
theorem NR_0 (c : ACode) : NR 0 c = c := by cases c <;> rfl
theorem vdl_get (P2 P1 : Hd → Bool) {hs : List Hd} {i : Nat} {h : Hd} (e : hs[i]? = some h) : (vdl P2 P1 hs)[i]? = some (.int .i64 (verd (P2 h) (P1 h))) := by
  unfold vdl
  rw [List.getElem?_map, e]
  rfl

end Go.Proofs.Ytoefpcpijolofaa
end
section
namespace Go.Proofs.Ytoefpcpijolofaa
open Go.RowKit
set_option linter.unusedVariables false
set_option linter.unusedSimpArgs false
set_option maxRecDepth 10000
set_option maxHeartbeats 4000000

structure Tru (len wid front rear turn kilos mid high : Int) (ls : List Ld) (ks ts : List Int) (X a c Y : Int) (G : Hd → Bool) : Prop where
  carr : Does Try.prog 20 [.agg [.int .i64 len, .int .i64 wid, .int .i64 front, .int .i64 rear, .int .i64 turn, .int .i64 kilos, .int .i64 mid, .int .i64 high, .sl (ls.map Ld.av) none], .agg [.sl (ks.map fun z => AV.int .i64 z) none, .sl (ts.map fun z => AV.int .i64 z) none]] [] fun v c' => v = .tup [.int .i64 a, .int .i64 c] ∧ c' = []
  wei : Contract Try.prog 22 [.agg [.int .i64 len, .int .i64 wid, .int .i64 front, .int .i64 rear, .int .i64 turn, .int .i64 kilos, .int .i64 mid, .int .i64 high, .sl (ls.map Ld.av) none], .agg [.sl (ks.map fun z => AV.int .i64 z) none, .sl (ts.map fun z => AV.int .i64 z) none]] [] (.int .i64 X) []
  tal : Contract Try.prog 23 [.agg [.int .i64 len, .int .i64 wid, .int .i64 front, .int .i64 rear, .int .i64 turn, .int .i64 kilos, .int .i64 mid, .int .i64 high, .sl (ls.map Ld.av) none], .agg [.sl (ks.map fun z => AV.int .i64 z) none, .sl (ts.map fun z => AV.int .i64 z) none]] [] (.int .i64 Y) []
  goe : ∀ h, HOk h → Contract Try.prog 25 [.agg [.int .i64 len, .int .i64 wid, .int .i64 front, .int .i64 rear, .int .i64 turn, .int .i64 kilos, .int .i64 mid, .int .i64 high, .sl (ls.map Ld.av) none], Hd.av h, .agg [.sl (ks.map fun z => AV.int .i64 z) none, .sl (ts.map fun z => AV.int .i64 z) none]] [] (.bool (G h)) []
  x1 : tot (wts kilos mid Ld.klo ls) ≤ X
  x2 : X ≤ tot (wts kilos mid Ld.khi ls)
  a1 : -mom rear (wts kilos mid Ld.klo ls) ≤ a
  a2 : a ≤ -mom rear (wts kilos mid Ld.khi ls)
  c1 : mom front (wts kilos mid Ld.klo ls) ≤ c
  c2 : c ≤ mom front (wts kilos mid Ld.khi ls)
  y1 : hgt high Ld.tlo ls ≤ Y
  y2 : Y ≤ hgt high Ld.thi ls
  p1 : ∀ h, passB len wid front rear turn kilos mid high Ld.khi Ld.thi ls h = true → G h = true
  p2 : ∀ h, G h = true → passB len wid front rear turn kilos mid high Ld.klo Ld.tlo ls h = true
theorem tru_of (len wid front rear turn kilos mid high : Int) (hF : FOk ⟨len, wid, front, rear, turn, kilos, mid, high⟩) (ls ms : List Ld) (hlen : ls.length ≤ 20) (hall : ∀ l ∈ ls, LOk ⟨len, wid, front, rear, turn, kilos, mid, high⟩ l) (hn : narL ls ms) : ∃ X a c Y G, Tru len wid front rear turn kilos mid high ls (ms.map Ld.klo) (ms.map Ld.tlo) X a c Y G := by
  have hF' : 2 ≤ len ∧ len ≤ 1200 ∧ 1 ≤ wid ∧ wid ≤ 400 ∧ 0 ≤ front ∧ front < rear ∧ rear ≤ len ∧ 0 ≤ turn ∧ turn < 1500 ∧ 0 ≤ kilos ∧ kilos < 5000 ∧ 0 ≤ mid ∧ mid ≤ len ∧ 0 ≤ high ∧ high < 500 := hF
  have hml := nar_len ls ms hn
  have hlo : ∀ l ∈ ls, front ≤ l.pt ∧ l.pt ≤ rear ∧ 0 ≤ l.klo ∧ l.klo ≤ l.khi ∧ l.khi ≤ 900 ∧ 0 ≤ l.tlo ∧ l.tlo ≤ l.thi ∧ l.thi ≤ 700 ∧ 1 ≤ l.kind ∧ l.kind ≤ 4 ∧ 0 ≤ l.watts ∧ l.watts < 3000 ∧ (l.watts = 0 ∨ l.kind = 2 ∨ l.kind = 3) := fun l hl => hall l hl
  have hmall : ∀ l ∈ ms, LOk ⟨len, wid, front, rear, turn, kilos, mid, high⟩ l := by
    intro m hm
    obtain ⟨l, h1, h2⟩ := nar_mem ls ms hn m hm
    have h3 := hlo l h1
    obtain ⟨e1, e2, e3, e4, e5, e6, e7, e8, e9⟩ := h2
    show front ≤ m.pt ∧ m.pt ≤ rear ∧ 0 ≤ m.klo ∧ m.klo ≤ m.khi ∧ m.khi ≤ 900 ∧ 0 ≤ m.tlo ∧ m.tlo ≤ m.thi ∧ m.thi ≤ 700 ∧ 1 ≤ m.kind ∧ m.kind ≤ 4 ∧ 0 ≤ m.watts ∧ m.watts < 3000 ∧ (m.watts = 0 ∨ m.kind = 2 ∨ m.kind = 3)
    omega
  have hv1 := wts_ok _ hF Ld.klo (klo_ok _) ms hmall
  simp only [] at hv1
  have hW : ∀ w ∈ wtk kilos mid (ms.map Ld.klo) ls, WOk w := by rw [wtk_nar kilos mid ls ms hn]; exact hv1
  have hkl : (ms.map Ld.klo).length = ls.length := by rw [List.length_map]; exact hml
  have htl : (ms.map Ld.tlo).length ≤ 20 := by rw [List.length_map]; omega
  have A := lt_of front rear kilos mid high Ld.klo Ld.tlo Ld.klo Ld.tlo ls ms hn (fun l hl => by have := hlo l hl; omega) (fun l m h => h.k1) (fun l m h => h.t1)
  have C := lt_of' front rear kilos mid high Ld.khi Ld.thi Ld.klo Ld.tlo ls ms hn (fun l hl => by have := hlo l hl; omega) (fun l m h => Int.le_trans h.k2 h.k3) (fun l m h => Int.le_trans h.t2 h.t3)
  have q1 := carries_m len wid front rear turn kilos mid high ls (ms.map Ld.klo) (ms.map Ld.tlo) hlen hkl hW (by omega) (by omega) (by omega) (by omega)
  have q2 := Does.det (Nat.le_refl _) (weighs_m len wid front rear turn kilos mid high ls (ms.map Ld.klo) (ms.map Ld.tlo) hlen hkl hW)
  have q3 := Does.det (Nat.le_refl _) (tall_m len wid front rear turn kilos mid high ls (ms.map Ld.klo) (ms.map Ld.tlo) htl)
  have q4 := fun h hh => Does.det (Nat.le_refl _) (goes_m len wid front rear turn kilos mid high hF ls hlen (ms.map Ld.klo) (ms.map Ld.tlo) hkl htl hW h hh)
  rw [wtk_nar kilos mid ls ms hn] at q1 q2
  rw [hgk_map] at q3
  have q5 := fun h => goes_in len wid front rear turn kilos mid high ls ms hn (fun l hl => by have := hlo l hl; omega) h
  exact ⟨_, _, _, _, _, q1, q2, q3, q4, A.l1, C.l1, A.l2, C.l2, A.l3, C.l3, A.l4, C.l4, fun h => (q5 h).1, fun h => (q5 h).2⟩
theorem truth_m (b : Int) (len wid front rear turn kilos mid high : Int) (hF : FOk ⟨len, wid, front, rear, turn, kilos, mid, high⟩) (ls : List Ld) (hlen : ls.length ≤ 20) (hall : ∀ l ∈ ls, LOk ⟨len, wid, front, rear, turn, kilos, mid, high⟩ l) : Does Try.prog 19 [.ptr 0 0, .agg [.int .i64 len, .int .i64 wid, .int .i64 front, .int .i64 rear, .int .i64 turn, .int .i64 kilos, .int .i64 mid, .int .i64 high, .sl (ls.map Ld.av) none]] [[.int .u64 b]] fun v c' => ∃ ks ts X a c Y G b', Tru len wid front rear turn kilos mid high ls ks ts X a c Y G ∧ v = .agg [.sl (ks.map fun z => AV.int .i64 z) none, .sl (ts.map fun z => AV.int .i64 z) none] ∧ c' = [[.int .u64 b']] := by
  refine (truthOf_m b len wid front rear turn kilos mid high ls hlen hall).mono ?_
  rintro v c' ⟨ms, b', h1, h2, h3⟩
  obtain ⟨X, a, c, Y, G, ht⟩ := tru_of len wid front rear turn kilos mid high hF ls ms hlen hall h3
  exact ⟨_, _, X, a, c, Y, G, b', ht, h1, h2⟩
theorem parts_in (K x y z : Int) (hK : 0 < K) (h1 : x ≤ z) (h2 : z ≤ y) : x / K * K ≤ z ∧ z ≤ -(-y / K) * K := by
  have e1 := Int.ediv_mul_le x (show K ≠ 0 by omega)
  have e2 := Int.ediv_mul_le (-y) (show K ≠ 0 by omega)
  have e3 : -(-y / K) * K = -(-y / K * K) := Int.neg_mul _ _
  omega
theorem parts_bd (K x : Int) (hK : 0 < K) (hK2 : K ≤ 100000) (h1 : -1000000000000 ≤ x) (h2 : x ≤ 1000000000000) : IntKind.i64.wrap (x / K * K) = x / K * K ∧ IntKind.i64.wrap (-(-x / K) * K) = -(-x / K) * K := by
  have e1 := Int.ediv_mul_le x (show K ≠ 0 by omega)
  have e2 := Int.lt_ediv_add_one_mul_self x hK
  have e3 := Int.ediv_mul_le (-x) (show K ≠ 0 by omega)
  have e4 := Int.lt_ediv_add_one_mul_self (-x) hK
  have e5 : -(-x / K) * K = -(-x / K * K) := Int.neg_mul _ _
  have e6 : (x / K + 1) * K = x / K * K + K := by rw [Int.add_mul, Int.one_mul]
  have e7 : (-x / K + 1) * K = -x / K * K + K := by rw [Int.add_mul, Int.one_mul]
  exact ⟨i64_in (by omega) (by omega), i64_in (by omega) (by omega)⟩
end Go.Proofs.Ytoefpcpijolofaa
end
section
namespace Go.Proofs.Ytoefpcpijolofaa
open Go.RowKit
set_option linter.unusedVariables false
set_option linter.unusedSimpArgs false
set_option maxRecDepth 10000
set_option maxHeartbeats 4000000

def U0 (a : List AV) (S : St) : Prop := ∃ len wid front rear turn kilos mid high ls b, narOk len wid front rear turn kilos mid high ls ∧ a = [.junk, .junk, .junk, .ptr 0 0, .ptr 1 0, .junk, .junk, .junk, .junk, .junk, .junk, .junk, .junk, .junk, .junk, .junk, .junk, .junk, .junk, .junk, .junk, .junk, .junk, .junk, .junk, .junk, .junk, .junk, .junk, .junk, .junk, .junk, .junk, .junk, .junk, .junk, .junk, .junk, .junk, .junk, .junk, .junk, .junk, .junk, .junk, .junk, .junk, .junk, .junk, .junk, .junk, .junk, .junk, .junk, .junk, .junk, .junk, .junk, .junk, .junk, .junk, .junk, .junk, .junk, .junk, .junk, .junk, .junk, .junk, .junk, .junk, .junk, .junk, .junk, .junk, .junk, .junk, .junk, .junk, .junk, .junk, .junk, .junk, .junk, .junk, .junk, .junk, .junk, .junk, .junk, .junk, .junk, .junk, .junk, .junk, .junk, .junk, .junk, .junk, .junk, .junk, .junk, .junk, .junk, .junk, .junk, .junk, .junk, .junk, .junk, .junk, .junk, .junk, .junk, .junk, .junk, .junk, .junk, .junk, .junk, .junk, .junk, .junk, .junk, .junk, .junk, .junk, .junk, .junk, .junk, .junk, .junk, .junk, .junk, .junk, .junk, .junk, .junk, .junk, .junk, .junk, .junk, .junk, .junk, .junk, .junk, .junk, .junk, .junk, .junk, .junk, .junk, .junk, .junk, .junk, .junk, .junk, .junk, .junk, .junk, .junk, .junk, .junk, .junk, .junk, .junk, .junk, .junk, .junk, .junk, .junk, .junk, .junk, .junk, .junk, .junk, .junk] ∧ S = ⟨[[.int .u64 b], [.int .i64 len, .int .i64 wid, .int .i64 front, .int .i64 rear, .int .i64 turn, .int .i64 kilos, .int .i64 mid, .int .i64 high, .sl (ls.map Ld.av) none]], []⟩
def U1 (a : List AV) (S : St) : Prop := ∃ len wid front rear turn kilos mid high ls b hs, narOk len wid front rear turn kilos mid high ls ∧ routeOk hs ∧ a = [.junk, .junk, .junk, .ptr 0 0, .ptr 1 0, .sl (hs.map Hd.av) none, .junk, .junk, .junk, .junk, .junk, .junk, .junk, .junk, .junk, .junk, .junk, .junk, .junk, .junk, .junk, .junk, .junk, .junk, .junk, .junk, .junk, .junk, .junk, .junk, .junk, .junk, .junk, .junk, .junk, .junk, .junk, .junk, .junk, .junk, .junk, .junk, .junk, .junk, .junk, .junk, .junk, .junk, .junk, .junk, .junk, .junk, .junk, .junk, .junk, .junk, .junk, .junk, .junk, .junk, .junk, .junk, .junk, .junk, .junk, .junk, .junk, .junk, .junk, .junk, .junk, .junk, .junk, .junk, .junk, .junk, .junk, .junk, .junk, .junk, .junk, .junk, .junk, .junk, .junk, .junk, .junk, .junk, .junk, .junk, .junk, .junk, .junk, .junk, .junk, .junk, .junk, .junk, .junk, .junk, .junk, .junk, .junk, .junk, .junk, .junk, .junk, .junk, .junk, .junk, .junk, .junk, .junk, .junk, .junk, .junk, .junk, .junk, .junk, .junk, .junk, .junk, .junk, .junk, .junk, .junk, .junk, .junk, .junk, .junk, .junk, .junk, .junk, .junk, .junk, .junk, .junk, .junk, .junk, .junk, .junk, .junk, .junk, .junk, .junk, .junk, .junk, .junk, .junk, .junk, .junk, .junk, .junk, .junk, .junk, .junk, .junk, .junk, .junk, .junk, .junk, .junk, .junk, .junk, .junk, .junk, .junk, .junk, .junk, .junk, .junk, .junk, .junk, .junk, .junk, .junk, .junk] ∧ S = ⟨[[.int .u64 b], [.int .i64 len, .int .i64 wid, .int .i64 front, .int .i64 rear, .int .i64 turn, .int .i64 kilos, .int .i64 mid, .int .i64 high, .sl (ls.map Ld.av) none]], []⟩
theorem tph0 (b0 : Int) : Ex 0 .plain Try.prog (NB 2 F3.code) ([.junk, .junk, .junk, .ptr 0 0, .junk, .junk, .junk, .junk, .junk, .junk, .junk, .junk, .junk, .junk, .junk, .junk, .junk, .junk, .junk, .junk, .junk, .junk, .junk, .junk, .junk, .junk, .junk, .junk, .junk, .junk, .junk, .junk, .junk, .junk, .junk, .junk, .junk, .junk, .junk, .junk, .junk, .junk, .junk, .junk, .junk, .junk, .junk, .junk, .junk, .junk, .junk, .junk, .junk, .junk, .junk, .junk, .junk, .junk, .junk, .junk, .junk, .junk, .junk, .junk, .junk, .junk, .junk, .junk, .junk, .junk, .junk, .junk, .junk, .junk, .junk, .junk, .junk, .junk, .junk, .junk, .junk, .junk, .junk, .junk, .junk, .junk, .junk, .junk, .junk, .junk, .junk, .junk, .junk, .junk, .junk, .junk, .junk, .junk, .junk, .junk, .junk, .junk, .junk, .junk, .junk, .junk, .junk, .junk, .junk, .junk, .junk, .junk, .junk, .junk, .junk, .junk, .junk, .junk, .junk, .junk, .junk, .junk, .junk, .junk, .junk, .junk, .junk, .junk, .junk, .junk, .junk, .junk, .junk, .junk, .junk, .junk, .junk, .junk, .junk, .junk, .junk, .junk, .junk, .junk, .junk, .junk, .junk, .junk, .junk, .junk, .junk, .junk, .junk, .junk, .junk, .junk, .junk, .junk, .junk, .junk, .junk, .junk, .junk, .junk, .junk, .junk, .junk, .junk, .junk, .junk, .junk, .junk, .junk, .junk, .junk, .junk, .junk]) ⟨[[.int .u64 b0]], []⟩ fun x a' S' => x = .norm ∧ ∃ a2 S2, Forgets 0 a' S' a2 S2 ∧ U0 a2 S2 := by
  unfold F3
  simp only [NB_s, NB_0]
  (repeat (first|((first|refine ExO.nil ?_|refine Ex.skip ?_|refine Ex.ret ?_|refine Ex.exit ?_); try dsimp only)|((first|(refine xI ?_; intro _ _)|refine xL ?_|(refine xB ?_; intro _ _)|refine xG ?_|refine xS ?_|refine xM ?_|(refine xC ?_; intro _ _)|refine xW ?_); try simp only [sA])|refine Ex.seq ?_|refine Ex.reg ?_|refine Ex.block ?_|refine eT ?_|refine eF ?_|simp only [reduceCtorEq, AEx.ex.injEq, Nat.reduceEqDiff, if_true, if_false]))
  refine ExO.call (f := 12) (xs := [.ptr 0 0, .int .i64 6]) (ys := [.ptr 0 0, .int .i64 6]) (bs := [0]) (cells := [[.int .u64 b0]]) (by rfl) (by rfl) (by rfl) (by rfl) (by rfl) (by rfl) (floatOf_m b0 6 (by omega) (by omega)) ?_
  rintro v c' ⟨f, L0, ls, b1, rfl, rfl, hL0, hF, hall, hlen⟩
  obtain ⟨len, wid, front, rear, turn, kilos, mid, high⟩ := f
  rcases hL0 with ⟨t, rfl⟩ | ⟨rfl, rfl⟩
  · refine ⟨.agg [.int .i64 len, .int .i64 wid, .int .i64 front, .int .i64 rear, .int .i64 turn, .int .i64 kilos, .int .i64 mid, .int .i64 high, .sl (ls.map Ld.av) none], by simp [back, back1, Fl.cells, AV.plain, AV.plain1, AV.clean, cleanL, clean_lds], rfl, ?_⟩
    simp only [List.map_cons, List.map_nil, putA, List.set_cons_zero, List.set_cons_succ, AV.plain, AV.plain1, setAll, List.length_cons, List.length_nil, List.drop_succ_cons, List.drop_zero, List.drop_nil, List.append_nil, Nat.reduceAdd]
    (repeat (first|((first|refine ExO.nil ?_|refine Ex.skip ?_|refine Ex.ret ?_|refine Ex.exit ?_); try dsimp only)|((first|(refine xI ?_; intro _ _)|refine xL ?_|(refine xB ?_; intro _ _)|refine xG ?_|refine xS ?_|refine xM ?_|(refine xC ?_; intro _ _)|refine xW ?_); try simp only [sA])|refine Ex.seq ?_|refine Ex.reg ?_|refine Ex.block ?_|refine eT ?_|refine eF ?_|simp only [reduceCtorEq, AEx.ex.injEq, Nat.reduceEqDiff, if_true, if_false]))
    exact ⟨by first | rfl | trivial, _, _, forgets 2 [] ([false, false, false, true, true, false, false, false, false, false, false, false, false, false, false, false, false, false, false, false, false, false, false, false, false, false, false, false, false, false, false, false, false, false, false, false, false, false, false, false, false, false, false, false, false, false, false, false, false, false, false, false, false, false, false, false, false, false, false, false, false, false, false, false, false, false, false, false, false, false, false, false, false, false, false, false, false, false, false, false, false, false, false, false, false, false, false, false, false, false, false, false, false, false, false, false, false, false, false, false, false, false, false, false, false, false, false, false, false, false, false, false, false, false, false, false, false, false, false, false, false, false, false, false, false, false, false, false, false, false, false, false, false, false, false, false, false, false, false, false, false, false, false, false, false, false, false, false, false, false, false, false, false, false, false, false, false, false, false, false, false, false, false, false, false, false, false, false, false, false, false, false, false, false, false, false, false]) (by decide) (by simp) (bx2 := [[.int .u64 b1], [.int .i64 len, .int .i64 wid, .int .i64 front, .int .i64 rear, .int .i64 turn, .int .i64 kilos, .int .i64 mid, .int .i64 high, .sl (ls.map Ld.av) none]]) (by simp [re, re1, AV.clean, clean_lds]) (by rfl) (by decide), len, wid, front, rear, turn, kilos, mid, high, ls, b1, ⟨hF, hall, hlen⟩, by rfl, by rfl⟩
  · refine ⟨.agg [.int .i64 len, .int .i64 wid, .int .i64 front, .int .i64 rear, .int .i64 turn, .int .i64 kilos, .int .i64 mid, .int .i64 high, .nils], by rfl, rfl, ?_⟩
    simp only [List.map_cons, List.map_nil, putA, List.set_cons_zero, List.set_cons_succ, AV.plain, AV.plain1, setAll, List.length_cons, List.length_nil, List.drop_succ_cons, List.drop_zero, List.drop_nil, List.append_nil, Nat.reduceAdd]
    (repeat (first|((first|refine ExO.nil ?_|refine Ex.skip ?_|refine Ex.ret ?_|refine Ex.exit ?_); try dsimp only)|((first|(refine xI ?_; intro _ _)|refine xL ?_|(refine xB ?_; intro _ _)|refine xG ?_|refine xS ?_|refine xM ?_|(refine xC ?_; intro _ _)|refine xW ?_); try simp only [sA])|refine Ex.seq ?_|refine Ex.reg ?_|refine Ex.block ?_|refine eT ?_|refine eF ?_|simp only [reduceCtorEq, AEx.ex.injEq, Nat.reduceEqDiff, if_true, if_false]))
    exact ⟨by first | rfl | trivial, _, _, (fade [] [[], [false, false, false, false, false, false, false, false, true]]).trans (forgets 2 [] ([false, false, false, true, true, false, false, false, false, false, false, false, false, false, false, false, false, false, false, false, false, false, false, false, false, false, false, false, false, false, false, false, false, false, false, false, false, false, false, false, false, false, false, false, false, false, false, false, false, false, false, false, false, false, false, false, false, false, false, false, false, false, false, false, false, false, false, false, false, false, false, false, false, false, false, false, false, false, false, false, false, false, false, false, false, false, false, false, false, false, false, false, false, false, false, false, false, false, false, false, false, false, false, false, false, false, false, false, false, false, false, false, false, false, false, false, false, false, false, false, false, false, false, false, false, false, false, false, false, false, false, false, false, false, false, false, false, false, false, false, false, false, false, false, false, false, false, false, false, false, false, false, false, false, false, false, false, false, false, false, false, false, false, false, false, false, false, false, false, false, false, false, false, false, false, false, false]) (by decide) (by simp [chillB]) (bx2 := [[.int .u64 b1], [.int .i64 len, .int .i64 wid, .int .i64 front, .int .i64 rear, .int .i64 turn, .int .i64 kilos, .int .i64 mid, .int .i64 high, .sl [] none]]) (by rfl) (by rfl) (by decide)), len, wid, front, rear, turn, kilos, mid, high, [], b1, ⟨hF, hall, hlen⟩, by rfl, by rfl⟩
theorem tph1 {a : List AV} {S : St} (h : U0 a S) : Ex 0 .plain Try.prog (NB 3 F3.code) a S fun x a' S' => x = .norm ∧ ∃ a2 S2, Forgets 0 a' S' a2 S2 ∧ U1 a2 S2 := by
  obtain ⟨len, wid, front, rear, turn, kilos, mid, high, ls, b, ⟨hF, hall, hlen⟩, rfl, rfl⟩ := h
  unfold F3
  simp only [NB_s, NB_0]
  (repeat (first|((first|refine ExO.nil ?_|refine Ex.skip ?_|refine Ex.ret ?_|refine Ex.exit ?_); try dsimp only)|((first|(refine xI ?_; intro _ _)|refine xL ?_|(refine xB ?_; intro _ _)|refine xG ?_|refine xS ?_|refine xM ?_|(refine xC ?_; intro _ _)|refine xW ?_); try simp only [sA])|refine Ex.seq ?_|refine Ex.reg ?_|refine Ex.block ?_|refine eT ?_|refine eF ?_|simp only [reduceCtorEq, AEx.ex.injEq, Nat.reduceEqDiff, if_true, if_false]))
  refine ExO.call (f := 13) (xs := [.ptr 0 0, .agg [.int .i64 len, .int .i64 wid, .int .i64 front, .int .i64 rear, .int .i64 turn, .int .i64 kilos, .int .i64 mid, .int .i64 high, .sl (ls.map Ld.av) none], .int .i64 5]) (ys := [.ptr 0 0, .agg [.int .i64 len, .int .i64 wid, .int .i64 front, .int .i64 rear, .int .i64 turn, .int .i64 kilos, .int .i64 mid, .int .i64 high, .sl (ls.map Ld.av) none], .int .i64 5]) (bs := [0]) (cells := [[.int .u64 b]]) (by rfl) (by rfl) (by rfl) (by simp [ren, ren1, AV.plain, AV.plain1, AV.clean, cleanL, clean_lds, List.idxOf?, List.findIdx?, List.findIdx?.go]) (by rfl) (by rfl) (routeOf_m b 5 (by omega) (by omega) len wid front rear turn kilos mid high hF ls (by omega) hall) ?_
  rintro v c' ⟨hs, b1, rfl, rfl, h1, h2⟩
  refine ⟨.sl (hs.map Hd.av) none, by simp [back, back1, AV.plain, AV.plain1, AV.clean, clean_hds], rfl, ?_⟩
  simp only [List.map_cons, List.map_nil, putA, List.set_cons_zero, List.set_cons_succ, AV.plain, AV.plain1, setAll, List.length_cons, List.length_nil, List.drop_succ_cons, List.drop_zero, List.drop_nil, List.append_nil, Nat.reduceAdd]
  (repeat (first|((first|refine ExO.nil ?_|refine Ex.skip ?_|refine Ex.ret ?_|refine Ex.exit ?_); try dsimp only)|((first|(refine xI ?_; intro _ _)|refine xL ?_|(refine xB ?_; intro _ _)|refine xG ?_|refine xS ?_|refine xM ?_|(refine xC ?_; intro _ _)|refine xW ?_); try simp only [sA])|refine Ex.seq ?_|refine Ex.reg ?_|refine Ex.block ?_|refine eT ?_|refine eF ?_|simp only [reduceCtorEq, AEx.ex.injEq, Nat.reduceEqDiff, if_true, if_false]))
  exact ⟨by first | rfl | trivial, _, _, forgets 2 [] ([false, false, false, true, true, true, false, false, false, false, false, false, false, false, false, false, false, false, false, false, false, false, false, false, false, false, false, false, false, false, false, false, false, false, false, false, false, false, false, false, false, false, false, false, false, false, false, false, false, false, false, false, false, false, false, false, false, false, false, false, false, false, false, false, false, false, false, false, false, false, false, false, false, false, false, false, false, false, false, false, false, false, false, false, false, false, false, false, false, false, false, false, false, false, false, false, false, false, false, false, false, false, false, false, false, false, false, false, false, false, false, false, false, false, false, false, false, false, false, false, false, false, false, false, false, false, false, false, false, false, false, false, false, false, false, false, false, false, false, false, false, false, false, false, false, false, false, false, false, false, false, false, false, false, false, false, false, false, false, false, false, false, false, false, false, false, false, false, false, false, false, false, false, false, false, false, false]) (by decide) (by simp) (bx2 := [[.int .u64 b1], [.int .i64 len, .int .i64 wid, .int .i64 front, .int .i64 rear, .int .i64 turn, .int .i64 kilos, .int .i64 mid, .int .i64 high, .sl (ls.map Ld.av) none]]) (by simp [re, re1, AV.clean, clean_lds]) (by rfl) (by decide), len, wid, front, rear, turn, kilos, mid, high, ls, b1, hs, ⟨hF, hall, hlen⟩, ⟨h1, h2⟩, (by simp [keepS, re, re1, AV.clean, clean_hds]), by rfl⟩

theorem tph2 {a : List AV} {S : St} (h : U1 a S) : Ex 0 .plain Try.prog (NR 4 F3.code) a S fun x a' S' => (x = .norm ∨ x = .ret) ∧ evRes a' S' [.tmp 2] = some (.bool true) := by
  obtain ⟨len, wid, front, rear, turn, kilos, mid, high, ls, b, hs, ⟨hF, hall, hlen⟩, ⟨hr1, hr2⟩, rfl, rfl⟩ := h
  have hF' : 2 ≤ len ∧ len ≤ 1200 ∧ 1 ≤ wid ∧ wid ≤ 400 ∧ 0 ≤ front ∧ front < rear ∧ rear ≤ len ∧ 0 ≤ turn ∧ turn < 1500 ∧ 0 ≤ kilos ∧ kilos < 5000 ∧ 0 ≤ mid ∧ mid ≤ len ∧ 0 ≤ high ∧ high < 500 := hF
  have hw1 := wts_ok _ hF Ld.klo (klo_ok _) ls hall
  have hw2 := wts_ok _ hF Ld.khi (khi_ok _) ls hall
  simp only [] at hw1 hw2
  have hl20 : ls.length ≤ 20 := by omega
  have d0 := fun b => truth_m b len wid front rear turn kilos mid high hF ls hl20 hall
  have d1 := Total_m len wid front rear turn kilos mid high hF ls hl20 hall hw1 hw2
  have d3 := Axles_m len wid front rear turn kilos mid high hF ls hl20 hall hw1 hw2
  have d4 := Height_m len wid front rear turn kilos mid high hF ls hl20 hall
  have d5 := StandsAll_m len wid front rear turn kilos mid high hF ls hl20 hall
  have d7 := PassesAll_m len wid front rear turn kilos mid high hF ls hl20 hall hs (by omega) hr1
  unfold parts at d3
  unfold vroute at d7
  have hK : 0 < rear - front := by omega
  have s1 : IntKind.i64.wrap (rear - front) = rear - front := i64_in (by omega) (by omega)
  have m1 := mom_in rear (by omega) (by omega) (wts kilos mid Ld.klo ls) hw1
  have m2 := mom_in rear (by omega) (by omega) (wts kilos mid Ld.khi ls) hw2
  have m3 := mom_in front (by omega) (by omega) (wts kilos mid Ld.klo ls) hw1
  have m4 := mom_in front (by omega) (by omega) (wts kilos mid Ld.khi ls) hw2
  rw [wts_len] at m1 m2 m3 m4
  have w1 := (parts_bd (rear - front) (-mom rear (wts kilos mid Ld.klo ls)) hK (by omega) (by omega) (by omega)).1
  have w2 := (parts_bd (rear - front) (-mom rear (wts kilos mid Ld.khi ls)) hK (by omega) (by omega) (by omega)).2
  have w3 := (parts_bd (rear - front) (mom front (wts kilos mid Ld.klo ls)) hK (by omega) (by omega) (by omega)).1
  have w4 := (parts_bd (rear - front) (mom front (wts kilos mid Ld.khi ls)) hK (by omega) (by omega) (by omega)).2
  have hT : ∀ ks ts X a c Y G, Tru len wid front rear turn kilos mid high ls ks ts X a c Y G → (tot (wts kilos mid Ld.klo ls) ≤ X ∧ X ≤ tot (wts kilos mid Ld.khi ls)) ∧ (-mom rear (wts kilos mid Ld.klo ls) / (rear - front) * (rear - front) ≤ a ∧ a ≤ -(- -mom rear (wts kilos mid Ld.khi ls) / (rear - front)) * (rear - front)) ∧ (mom front (wts kilos mid Ld.klo ls) / (rear - front) * (rear - front) ≤ c ∧ c ≤ -(-mom front (wts kilos mid Ld.khi ls) / (rear - front)) * (rear - front)) ∧ (hgt high Ld.tlo ls ≤ Y ∧ Y ≤ hgt high Ld.thi ls) ∧ (standB front rear (wts kilos mid Ld.klo ls) = true → 0 ≤ a ∧ 0 ≤ c) ∧ (0 ≤ a ∧ 0 ≤ c → standB front rear (wts kilos mid Ld.khi ls) = true) ∧ (∀ h, passB len wid front rear turn kilos mid high Ld.khi Ld.thi ls h = true → G h = true) ∧ (∀ h, G h = true → passB len wid front rear turn kilos mid high Ld.klo Ld.tlo ls h = true) := by
    intro ks ts X a c Y G t
    refine ⟨⟨t.x1, t.x2⟩, parts_in _ _ _ _ hK t.a1 t.a2, parts_in _ _ _ _ hK t.c1 t.c2, ⟨t.y1, t.y2⟩, ?_, ?_, t.p1, t.p2⟩
    · intro h
      have k1 := t.a1
      have k2 := t.c1
      simp only [standB, Bool.and_eq_true, decide_eq_true_eq] at h
      omega
    · intro h
      have k1 := t.a2
      have k2 := t.c2
      simp only [standB, Bool.and_eq_true, decide_eq_true_eq]
      omega
  clear m1 m2 m3 m4 hw1 hw2
  generalize passB len wid front rear turn kilos mid high Ld.khi Ld.thi ls = P2 at d7 hT
  generalize passB len wid front rear turn kilos mid high Ld.klo Ld.tlo ls = P1 at d7 hT
  generalize standB front rear (wts kilos mid Ld.klo ls) = p1 at d5 hT
  generalize standB front rear (wts kilos mid Ld.khi ls) = p2 at d5 hT
  generalize tot (wts kilos mid Ld.klo ls) = T1 at d1 hT
  generalize tot (wts kilos mid Ld.khi ls) = T2 at d1 hT
  generalize hgt high Ld.tlo ls = H1 at d4 hT
  generalize hgt high Ld.thi ls = H2 at d4 hT
  generalize -mom rear (wts kilos mid Ld.klo ls) / (rear - front) = A1 at d3 w1 hT
  generalize -(- -mom rear (wts kilos mid Ld.khi ls) / (rear - front)) = A2 at d3 w2 hT
  generalize mom front (wts kilos mid Ld.klo ls) / (rear - front) = A3 at d3 w3 hT
  generalize -(-mom front (wts kilos mid Ld.khi ls) / (rear - front)) = A4 at d3 w4 hT
  have n1 := vdl_len P2 P1 hs
  have hvd := fun (i : Nat) h (e : hs[i]? = some h) => vdl_get P2 P1 e
  have cl1 := clean_vdl P2 P1 hs
  clear hF hall
  unfold F3
  simp only [NR_s, NR_0]
  (repeat (first|((first|refine ExO.nil ?_|refine Ex.skip ?_|refine Ex.ret ?_|refine Ex.exit ?_); try dsimp only)|((first|(refine xI ?_; intro _ _)|refine xL ?_|(refine xB ?_; intro _ _)|refine xG ?_|refine xS ?_|refine xM ?_|(refine xC ?_; intro _ _)|(refine xJ ?_; intro _ _)|refine xW ?_); try simp only [sA])|refine Ex.seq ?_|refine Ex.reg ?_|refine Ex.block ?_|refine eT ?_|refine eF ?_|simp only [reduceCtorEq, AEx.ex.injEq, Nat.reduceEqDiff, if_true, if_false]))
  refine ExO.call (f := 14) (xs := [.agg [.int .i64 len, .int .i64 wid, .int .i64 front, .int .i64 rear, .int .i64 turn, .int .i64 kilos, .int .i64 mid, .int .i64 high, .sl (ls.map Ld.av) none]]) (ys := [.agg [.int .i64 len, .int .i64 wid, .int .i64 front, .int .i64 rear, .int .i64 turn, .int .i64 kilos, .int .i64 mid, .int .i64 high, .sl (ls.map Ld.av) none]]) (bs := []) (cells := []) (by rfl) (by rfl) (by rfl) (by simp [ren, ren1, AV.plain, AV.plain1, AV.clean, cleanL, clean_lds, clean_hds]) (by rfl) (by rfl) (d1) ?_
  rintro v c' ⟨rfl, rfl⟩
  refine ⟨_, rfl, rfl, ?_⟩
  simp only [List.map_cons, List.map_nil, putA, List.set_cons_zero, List.set_cons_succ, AV.plain, AV.plain1, setAll, List.length_cons, List.length_nil, List.drop_succ_cons, List.drop_zero, List.drop_nil, List.append_nil, Nat.reduceAdd]
  (repeat (first|((first|refine ExO.nil ?_|refine Ex.skip ?_|refine Ex.ret ?_|refine Ex.exit ?_); try dsimp only)|((first|(refine xI ?_; intro _ _)|refine xL ?_|(refine xB ?_; intro _ _)|refine xG ?_|refine xS ?_|refine xM ?_|(refine xC ?_; intro _ _)|(refine xJ ?_; intro _ _)|refine xW ?_); try simp only [sA])|refine Ex.seq ?_|refine Ex.reg ?_|refine Ex.block ?_|refine eT ?_|refine eF ?_|simp only [reduceCtorEq, AEx.ex.injEq, Nat.reduceEqDiff, if_true, if_false]))
  refine ExO.call (f := 15) (xs := [.agg [.int .i64 len, .int .i64 wid, .int .i64 front, .int .i64 rear, .int .i64 turn, .int .i64 kilos, .int .i64 mid, .int .i64 high, .sl (ls.map Ld.av) none]]) (ys := [.agg [.int .i64 len, .int .i64 wid, .int .i64 front, .int .i64 rear, .int .i64 turn, .int .i64 kilos, .int .i64 mid, .int .i64 high, .sl (ls.map Ld.av) none]]) (bs := []) (cells := []) (by rfl) (by rfl) (by rfl) (by simp [ren, ren1, AV.plain, AV.plain1, AV.clean, cleanL, clean_lds, clean_hds]) (by rfl) (by rfl) (d3) ?_
  rintro v c' ⟨rfl, rfl⟩
  refine ⟨_, rfl, rfl, ?_⟩
  simp only [List.map_cons, List.map_nil, putA, List.set_cons_zero, List.set_cons_succ, AV.plain, AV.plain1, setAll, List.length_cons, List.length_nil, List.drop_succ_cons, List.drop_zero, List.drop_nil, List.append_nil, Nat.reduceAdd]
  (repeat (first|((first|refine ExO.nil ?_|refine Ex.skip ?_|refine Ex.ret ?_|refine Ex.exit ?_); try dsimp only)|((first|(refine xI ?_; intro _ _)|refine xL ?_|(refine xB ?_; intro _ _)|refine xG ?_|refine xS ?_|refine xM ?_|(refine xC ?_; intro _ _)|(refine xJ ?_; intro _ _)|refine xW ?_); try simp only [sA])|refine Ex.seq ?_|refine Ex.reg ?_|refine Ex.block ?_|refine eT ?_|refine eF ?_|simp only [reduceCtorEq, AEx.ex.injEq, Nat.reduceEqDiff, if_true, if_false]))
  refine ExO.call (f := 16) (xs := [.agg [.int .i64 len, .int .i64 wid, .int .i64 front, .int .i64 rear, .int .i64 turn, .int .i64 kilos, .int .i64 mid, .int .i64 high, .sl (ls.map Ld.av) none]]) (ys := [.agg [.int .i64 len, .int .i64 wid, .int .i64 front, .int .i64 rear, .int .i64 turn, .int .i64 kilos, .int .i64 mid, .int .i64 high, .sl (ls.map Ld.av) none]]) (bs := []) (cells := []) (by rfl) (by rfl) (by rfl) (by simp [ren, ren1, AV.plain, AV.plain1, AV.clean, cleanL, clean_lds, clean_hds]) (by rfl) (by rfl) (d4) ?_
  rintro v c' ⟨rfl, rfl⟩
  refine ⟨_, rfl, rfl, ?_⟩
  simp only [List.map_cons, List.map_nil, putA, List.set_cons_zero, List.set_cons_succ, AV.plain, AV.plain1, setAll, List.length_cons, List.length_nil, List.drop_succ_cons, List.drop_zero, List.drop_nil, List.append_nil, Nat.reduceAdd]
  (repeat (first|((first|refine ExO.nil ?_|refine Ex.skip ?_|refine Ex.ret ?_|refine Ex.exit ?_); try dsimp only)|((first|(refine xI ?_; intro _ _)|refine xL ?_|(refine xB ?_; intro _ _)|refine xG ?_|refine xS ?_|refine xM ?_|(refine xC ?_; intro _ _)|(refine xJ ?_; intro _ _)|refine xW ?_); try simp only [sA])|refine Ex.seq ?_|refine Ex.reg ?_|refine Ex.block ?_|refine eT ?_|refine eF ?_|simp only [reduceCtorEq, AEx.ex.injEq, Nat.reduceEqDiff, if_true, if_false]))
  refine ExO.call (f := 17) (xs := [.agg [.int .i64 len, .int .i64 wid, .int .i64 front, .int .i64 rear, .int .i64 turn, .int .i64 kilos, .int .i64 mid, .int .i64 high, .sl (ls.map Ld.av) none]]) (ys := [.agg [.int .i64 len, .int .i64 wid, .int .i64 front, .int .i64 rear, .int .i64 turn, .int .i64 kilos, .int .i64 mid, .int .i64 high, .sl (ls.map Ld.av) none]]) (bs := []) (cells := []) (by rfl) (by rfl) (by rfl) (by simp [ren, ren1, AV.plain, AV.plain1, AV.clean, cleanL, clean_lds, clean_hds]) (by rfl) (by rfl) (d5) ?_
  rintro v c' ⟨rfl, rfl⟩
  refine ⟨_, rfl, rfl, ?_⟩
  simp only [List.map_cons, List.map_nil, putA, List.set_cons_zero, List.set_cons_succ, AV.plain, AV.plain1, setAll, List.length_cons, List.length_nil, List.drop_succ_cons, List.drop_zero, List.drop_nil, List.append_nil, Nat.reduceAdd]
  (repeat (first|((first|refine ExO.nil ?_|refine Ex.skip ?_|refine Ex.ret ?_|refine Ex.exit ?_); try dsimp only)|((first|(refine xI ?_; intro _ _)|refine xL ?_|(refine xB ?_; intro _ _)|refine xG ?_|refine xS ?_|refine xM ?_|(refine xC ?_; intro _ _)|(refine xJ ?_; intro _ _)|refine xW ?_); try simp only [sA])|refine Ex.seq ?_|refine Ex.reg ?_|refine Ex.block ?_|refine eT ?_|refine eF ?_|simp only [reduceCtorEq, AEx.ex.injEq, Nat.reduceEqDiff, if_true, if_false]))
  refine ExO.call (f := 18) (xs := [.agg [.int .i64 len, .int .i64 wid, .int .i64 front, .int .i64 rear, .int .i64 turn, .int .i64 kilos, .int .i64 mid, .int .i64 high, .sl (ls.map Ld.av) none], .sl (hs.map Hd.av) none]) (ys := [.agg [.int .i64 len, .int .i64 wid, .int .i64 front, .int .i64 rear, .int .i64 turn, .int .i64 kilos, .int .i64 mid, .int .i64 high, .sl (ls.map Ld.av) none], .sl (hs.map Hd.av) none]) (bs := []) (cells := []) (by rfl) (by rfl) (by rfl) (by simp [ren, ren1, AV.plain, AV.plain1, AV.clean, cleanL, clean_lds, clean_hds]) (by rfl) (by rfl) (d7) ?_
  rintro v c' ⟨rfl, rfl⟩
  refine ⟨.tup [.sl (vdl P2 P1 hs) none, .int .i64 0], by simp [back, back1, AV.plain, AV.plain1, AV.clean, cleanL, clean_vdl], rfl, ?_⟩
  simp only [List.map_cons, List.map_nil, putA, List.set_cons_zero, List.set_cons_succ, AV.plain, AV.plain1, setAll, List.length_cons, List.length_nil, List.drop_succ_cons, List.drop_zero, List.drop_nil, List.append_nil, Nat.reduceAdd]
  (repeat (first|((first|refine ExO.nil ?_|refine Ex.skip ?_|refine Ex.ret ?_|refine Ex.exit ?_); try dsimp only)|((first|(refine xI ?_; intro _ _)|refine xL ?_|(refine xB ?_; intro _ _)|refine xG ?_|refine xS ?_|refine xM ?_|(refine xC ?_; intro _ _)|(refine xJ ?_; intro _ _)|refine xW ?_); try simp only [sA])|refine Ex.seq ?_|refine Ex.reg ?_|refine Ex.block ?_|refine eT ?_|refine eF ?_|simp only [reduceCtorEq, AEx.ex.injEq, Nat.reduceEqDiff, if_true, if_false]))
  (rename_i m hm; have hm2 : m = false := (by rw [hm, n1]; simp); clear hm; subst hm2)
  (repeat (first|((first|refine ExO.nil ?_|refine Ex.skip ?_|refine Ex.ret ?_|refine Ex.exit ?_); try dsimp only)|((first|(refine xI ?_; intro _ _)|refine xL ?_|(refine xB ?_; intro _ _)|refine xG ?_|refine xS ?_|refine xM ?_|(refine xC ?_; intro _ _)|(refine xJ ?_; intro _ _)|refine xW ?_); try simp only [sA])|refine Ex.seq ?_|refine Ex.reg ?_|refine Ex.block ?_|refine eT ?_|refine eF ?_|simp only [reduceCtorEq, AEx.ex.injEq, Nat.reduceEqDiff, if_true, if_false]))
  rename_i K hKK
  rw [s1] at hKK
  subst hKK
  clear s1 hK
  generalize rear - front = K at w1 w2 w3 w4 hT ⊢
  generalize hB1 : A1 * K = B1 at w1 hT
  generalize hB2 : A2 * K = B2 at w2 hT
  generalize hB3 : A3 * K = B3 at w3 hT
  generalize hB4 : A4 * K = B4 at w4 hT
  generalize vdl P2 P1 hs = L1 at n1 hvd cl1 ⊢
  generalize hV : verd p1 p2 = V
  refine Ex.loopF (fun k a S => ∃ (j : Nat) (bb : Int), j ≤ 6 ∧ k = 6 - j ∧ a = [.junk, .junk, .junk, .ptr 0 0, .ptr 1 0, .sl (hs.map Hd.av) none, .ptr 2 0, .junk, .ptr 3 0, .ptr 4 0, .junk, .ptr 5 0, .junk, .int .i64 V, .junk, .sl L1 none, .junk, .int .i64 K, .int .i64 (j : Nat), .junk, .junk, .junk, .junk, .junk, .junk, .junk, .junk, .junk, .junk, .junk, .junk, .junk, .junk, .junk, .junk, .junk, .junk, .junk, .junk, .junk, .junk, .junk, .junk, .junk, .junk, .junk, .junk, .junk, .junk, .junk, .junk, .junk, .junk, .junk, .junk, .junk, .junk, .junk, .junk, .junk, .junk, .junk, .junk, .junk, .junk, .junk, .junk, .junk, .junk, .junk, .junk, .junk, .junk, .junk, .junk, .junk, .junk, .junk, .junk, .junk, .junk, .junk, .junk, .junk, .junk, .junk, .junk, .junk, .junk, .junk, .junk, .junk, .junk, .junk, .junk, .junk, .junk, .junk, .junk, .junk, .junk, .junk, .junk, .junk, .junk, .junk, .junk, .junk, .junk, .junk, .junk, .junk, .junk, .junk, .junk, .junk, .junk, .junk, .junk, .junk, .junk, .junk, .junk, .junk, .junk, .junk, .junk, .junk, .junk, .junk, .junk, .junk, .junk, .junk, .junk, .junk, .junk, .junk, .junk, .junk, .junk, .junk, .junk, .junk, .junk, .junk, .junk, .junk, .junk, .junk, .junk, .junk, .junk, .junk, .junk, .junk, .junk, .junk, .junk, .junk, .junk, .junk, .junk, .junk, .junk, .junk, .junk, .junk, .junk, .junk, .junk, .junk, .junk, .junk, .junk, .junk, .junk] ∧ S = ⟨[[.int .u64 bb], [.int .i64 len, .int .i64 wid, .int .i64 front, .int .i64 rear, .int .i64 turn, .int .i64 kilos, .int .i64 mid, .int .i64 high, .sl (ls.map Ld.av) none], [.int .i64 T1, .int .i64 T2], [.int .i64 A1, .int .i64 A2], [.int .i64 A3, .int .i64 A4], [.int .i64 H1, .int .i64 H2]], []⟩) 6 ⟨_, _, forgets 6 [] ([false, false, false, true, true, true, true, false, true, true, false, true, false, true, false, true, false, true, true, false, false, false, false, false, false, false, false, false, false, false, false, false, false, false, false, false, false, false, false, false, false, false, false, false, false, false, false, false, false, false, false, false, false, false, false, false, false, false, false, false, false, false, false, false, false, false, false, false, false, false, false, false, false, false, false, false, false, false, false, false, false, false, false, false, false, false, false, false, false, false, false, false, false, false, false, false, false, false, false, false, false, false, false, false, false, false, false, false, false, false, false, false, false, false, false, false, false, false, false, false, false, false, false, false, false, false, false, false, false, false, false, false, false, false, false, false, false, false, false, false, false, false, false, false, false, false, false, false, false, false, false, false, false, false, false, false, false, false, false, false, false, false, false, false, false, false, false, false, false, false, false, false, false, false, false, false, false]) (by decide) (by simp) (bx2 := [[.int .u64 b], [.int .i64 len, .int .i64 wid, .int .i64 front, .int .i64 rear, .int .i64 turn, .int .i64 kilos, .int .i64 mid, .int .i64 high, .sl (ls.map Ld.av) none], [.int .i64 T1, .int .i64 T2], [.int .i64 A1, .int .i64 A2], [.int .i64 A3, .int .i64 A4], [.int .i64 H1, .int .i64 H2]]) (by simp [re, re1, AV.clean, clean_lds]) (by rfl) (by decide), 0, b, by omega, by omega, by simp [keepS, re, re1, AV.clean, cl1, clean_hds], by rfl⟩ ?_
  rintro k a S ⟨j, bb, hj, rfl, rfl, rfl⟩
  (repeat (first|((first|refine ExO.nil ?_|refine Ex.skip ?_|refine Ex.ret ?_|refine Ex.exit ?_); try dsimp only)|((first|(refine xI ?_; intro _ _)|refine xL ?_|(refine xB ?_; intro _ _)|refine xG ?_|refine xS ?_|refine xM ?_|(refine xC ?_; intro _ _)|(refine xJ ?_; intro _ _)|refine xW ?_); try simp only [sA])|refine Ex.seq ?_|refine Ex.reg ?_|refine Ex.block ?_|refine eT ?_|refine eF ?_|simp only [reduceCtorEq, AEx.ex.injEq, Nat.reduceEqDiff, if_true, if_false]))
  rename_i c hc
  cases c
  · (repeat (first|((first|refine ExO.nil ?_|refine Ex.skip ?_|refine Ex.ret ?_|refine Ex.exit ?_); try dsimp only)|((first|(refine xI ?_; intro _ _)|refine xL ?_|(refine xB ?_; intro _ _)|refine xG ?_|refine xS ?_|refine xM ?_|(refine xC ?_; intro _ _)|(refine xJ ?_; intro _ _)|refine xW ?_); try simp only [sA])|refine Ex.seq ?_|refine Ex.reg ?_|refine Ex.block ?_|refine eT ?_|refine eF ?_|simp only [reduceCtorEq, AEx.ex.injEq, Nat.reduceEqDiff, if_true, if_false]))
    refine ExO.call (f := 26) (xs := []) (ys := []) (bs := []) (cells := []) (by rfl) (by rfl) (by rfl) (by rfl) (by rfl) (by rfl) awake_m.does ?_
    rintro v c' ⟨rfl, rfl⟩
    refine ⟨_, rfl, rfl, ?_⟩
    simp only [List.map_cons, List.map_nil, putA, List.set_cons_zero, List.set_cons_succ, AV.plain, AV.plain1, setAll, List.length_cons, List.length_nil, List.drop_succ_cons, List.drop_zero, List.drop_nil, List.append_nil, Nat.reduceAdd]
    (repeat (first|((first|refine ExO.nil ?_|refine Ex.skip ?_|refine Ex.ret ?_|refine Ex.exit ?_); try dsimp only)|((first|(refine xI ?_; intro _ _)|refine xL ?_|(refine xB ?_; intro _ _)|refine xG ?_|refine xS ?_|refine xM ?_|(refine xC ?_; intro _ _)|(refine xJ ?_; intro _ _)|refine xW ?_); try simp only [sA])|refine Ex.seq ?_|refine Ex.reg ?_|refine Ex.block ?_|refine eT ?_|refine eF ?_|simp only [reduceCtorEq, AEx.ex.injEq, Nat.reduceEqDiff, if_true, if_false]))
    exact ⟨by simp, by simp [evRes, evRes1, one]⟩
  · have hj6 : j < 6 := by have := hc.symm; simp at this; omega
    (repeat (first|((first|refine ExO.nil ?_|refine Ex.skip ?_|refine Ex.ret ?_|refine Ex.exit ?_); try dsimp only)|((first|(refine xI ?_; intro _ _)|refine xL ?_|(refine xB ?_; intro _ _)|refine xG ?_|refine xS ?_|refine xM ?_|(refine xC ?_; intro _ _)|(refine xJ ?_; intro _ _)|refine xW ?_); try simp only [sA])|refine Ex.seq ?_|refine Ex.reg ?_|refine Ex.block ?_|refine eT ?_|refine eF ?_|simp only [reduceCtorEq, AEx.ex.injEq, Nat.reduceEqDiff, if_true, if_false]))
    refine ExO.call (f := 19) (xs := [.ptr 0 0, .agg [.int .i64 len, .int .i64 wid, .int .i64 front, .int .i64 rear, .int .i64 turn, .int .i64 kilos, .int .i64 mid, .int .i64 high, .sl (ls.map Ld.av) none]]) (ys := [.ptr 0 0, .agg [.int .i64 len, .int .i64 wid, .int .i64 front, .int .i64 rear, .int .i64 turn, .int .i64 kilos, .int .i64 mid, .int .i64 high, .sl (ls.map Ld.av) none]]) (bs := [0]) (cells := [[.int .u64 bb]]) (by rfl) (by rfl) (by rfl) (by simp [ren, ren1, AV.plain, AV.plain1, AV.clean, cleanL, clean_lds, List.idxOf?, List.findIdx?, List.findIdx?.go]) (by rfl) (by rfl) (d0 bb) ?_
    rintro v c' ⟨ks, ts, X, ca, cc, Y, G, b1, tru, rfl, rfl⟩
    obtain ⟨⟨x1, x2⟩, ⟨a1, a2⟩, ⟨c1, c2⟩, ⟨y1, y2⟩, st1, st2, g1, g2⟩ := hT _ _ _ _ _ _ _ tru
    obtain ⟨e1, e2, e3, e4, _, _, _, _, _, _, _, _, _, _⟩ := tru
    have hck := clean_ints ks
    have hct := clean_ints ts
    have hR : List.mapM (ren []) [.agg [.int .i64 len, .int .i64 wid, .int .i64 front, .int .i64 rear, .int .i64 turn, .int .i64 kilos, .int .i64 mid, .int .i64 high, .sl (ls.map Ld.av) none], .agg [.sl (ks.map fun z => AV.int .i64 z) none, .sl (ts.map fun z => AV.int .i64 z) none]] = some [.agg [.int .i64 len, .int .i64 wid, .int .i64 front, .int .i64 rear, .int .i64 turn, .int .i64 kilos, .int .i64 mid, .int .i64 high, .sl (ls.map Ld.av) none], .agg [.sl (ks.map fun z => AV.int .i64 z) none, .sl (ts.map fun z => AV.int .i64 z) none]] := by simp [ren, ren1, AV.plain, AV.plain1, AV.clean, cleanL, clean_lds, hck, hct]
    have in1 := Does.det (Nat.le_refl _) (in_m T1 T2 X x1 x2)
    have in2 := Does.det (Nat.le_refl _) (in_m H1 H2 Y y1 y2)
    have na1 : ¬ ca < B1 := by omega
    have na2 : ¬ B2 < ca := by omega
    have na3 : ¬ cc < B3 := by omega
    have na4 : ¬ B4 < cc := by omega
    refine ⟨.agg [.sl (ks.map fun z => AV.int .i64 z) none, .sl (ts.map fun z => AV.int .i64 z) none], by simp [back, back1, AV.plain, AV.plain1, AV.clean, cleanL, hck, hct], rfl, ?_⟩
    simp only [List.map_cons, List.map_nil, putA, List.set_cons_zero, List.set_cons_succ, AV.plain, AV.plain1, setAll, List.length_cons, List.length_nil, List.drop_succ_cons, List.drop_zero, List.drop_nil, List.append_nil, Nat.reduceAdd]
    (repeat (first|((first|refine ExO.nil ?_|refine Ex.skip ?_|refine Ex.ret ?_|refine Ex.exit ?_); try dsimp only)|((first|(refine xI ?_; intro _ _)|refine xL ?_|(refine xB ?_; intro _ _)|refine xG ?_|refine xS ?_|refine xM ?_|(refine xC ?_; intro _ _)|(refine xJ ?_; intro _ _)|refine xW ?_); try simp only [sA])|refine Ex.seq ?_|refine Ex.reg ?_|refine Ex.block ?_|refine eT ?_|refine eF ?_|simp only [reduceCtorEq, AEx.ex.injEq, Nat.reduceEqDiff, if_true, if_false]))
    refine ExO.call (f := 20) (xs := [.agg [.int .i64 len, .int .i64 wid, .int .i64 front, .int .i64 rear, .int .i64 turn, .int .i64 kilos, .int .i64 mid, .int .i64 high, .sl (ls.map Ld.av) none], .agg [.sl (ks.map fun z => AV.int .i64 z) none, .sl (ts.map fun z => AV.int .i64 z) none]]) (ys := [.agg [.int .i64 len, .int .i64 wid, .int .i64 front, .int .i64 rear, .int .i64 turn, .int .i64 kilos, .int .i64 mid, .int .i64 high, .sl (ls.map Ld.av) none], .agg [.sl (ks.map fun z => AV.int .i64 z) none, .sl (ts.map fun z => AV.int .i64 z) none]]) (bs := []) (cells := []) (by rfl) (by rfl) (by rfl) (by exact hR) (by rfl) (by rfl) e1 ?_
    rintro v c' ⟨rfl, rfl⟩
    refine ⟨_, rfl, rfl, ?_⟩
    simp only [List.map_cons, List.map_nil, putA, List.set_cons_zero, List.set_cons_succ, AV.plain, AV.plain1, setAll, List.length_cons, List.length_nil, List.drop_succ_cons, List.drop_zero, List.drop_nil, List.append_nil, Nat.reduceAdd]
    (repeat (first|((first|refine ExO.nil ?_|refine Ex.skip ?_|refine Ex.ret ?_|refine Ex.exit ?_); try dsimp only)|((first|(refine xI ?_; intro _ _)|refine xL ?_|(refine xB ?_; intro _ _)|refine xG ?_|refine xS ?_|refine xM ?_|(refine xC ?_; intro _ _)|(refine xJ ?_; intro _ _)|refine xW ?_); try simp only [sA])|refine Ex.seq ?_|refine Ex.reg ?_|refine Ex.block ?_|refine eT ?_|refine eF ?_|simp only [reduceCtorEq, AEx.ex.injEq, Nat.reduceEqDiff, if_true, if_false]))
    have ag := Does.det (Nat.le_refl _) (agrees_m (decide (0 ≤ ca) && decide (0 ≤ cc)) p1 p2 (fun h => by have := st1 h; simp only [Bool.and_eq_true, decide_eq_true_eq]; exact this) (fun h => by simp only [Bool.and_eq_true, decide_eq_true_eq] at h; exact st2 h))
    rw [hV] at ag
    generalize hq1 : decide (0 ≤ ca) = q1 at ag
    generalize hq2 : decide (0 ≤ cc) = q2 at ag
    apply Ex.drawX (only_ok [(22, [.agg [.int .i64 len, .int .i64 wid, .int .i64 front, .int .i64 rear, .int .i64 turn, .int .i64 kilos, .int .i64 mid, .int .i64 high, .sl (ls.map Ld.av) none], .agg [.sl (ks.map fun z => AV.int .i64 z) none, .sl (ts.map fun z => AV.int .i64 z) none]], .int .i64 X), (21, [.agg [.int .i64 T1, .int .i64 T2], .int .i64 X], .bool true), (23, [.agg [.int .i64 len, .int .i64 wid, .int .i64 front, .int .i64 rear, .int .i64 turn, .int .i64 kilos, .int .i64 mid, .int .i64 high, .sl (ls.map Ld.av) none], .agg [.sl (ks.map fun z => AV.int .i64 z) none, .sl (ts.map fun z => AV.int .i64 z) none]], .int .i64 Y), (21, [.agg [.int .i64 H1, .int .i64 H2], .int .i64 Y], .bool true), (24, [.int .i64 V, .bool (q1 && q2)], .bool true)])
    case hq => rfl
    case h =>
      simp only [List.take_succ_cons, List.take_zero]
      (apply QX.val; (case hw => rfl); (case hv => (simp [vA, fRes_eq]; first|done|exact rfl|(refine ⟨rfl,?_⟩; rfl))); simp only [sA])
      (apply QX.val; (case hw => rfl); (case hv => (simp [vA, fRes_eq]; first|done|exact rfl|(refine ⟨rfl,?_⟩; rfl))); simp only [sA])
      (apply QX.val; (case hw => rfl); (case hv => (simp [vA, fRes_eq]; first|done|exact rfl|(refine ⟨rfl,?_⟩; rfl))); simp only [sA])
      (apply QX.call 22 [.agg [.int .i64 len, .int .i64 wid, .int .i64 front, .int .i64 rear, .int .i64 turn, .int .i64 kilos, .int .i64 mid, .int .i64 high, .sl (ls.map Ld.av) none], .agg [.sl (ks.map fun z => AV.int .i64 z) none, .sl (ts.map fun z => AV.int .i64 z) none]] (.int .i64 X); (case hw => rfl); (case hv => simp [vA, fRes_eq]); (case hc => exact call_onlyN _ rfl hR e2 (by simp) (by simp) (fun n => rfl)); simp only [sA])
      (apply QX.call 21 [.agg [.int .i64 T1, .int .i64 T2], .int .i64 X] (.bool true); (case hw => rfl); (case hv => simp [vA, fRes_eq]); (case hc => exact call_onlyN _ rfl (by rfl) in1 (by simp) (by simp) (fun n => rfl)); simp only [sA])
      (apply QX.val; (case hw => rfl); (case hv => (simp [vA, fRes_eq]; first|done|exact rfl|(refine ⟨rfl,?_⟩; rfl))); simp only [sA])
      (apply QX.val; (case hw => rfl); (case hv => (simp [vA, fRes_eq]; first|done|exact rfl|(refine ⟨rfl,?_⟩; rfl))); simp only [sA])
      (apply QX.val; (case hw => rfl); (case hv => (simp [vA, fRes_eq, hB1, w1, na1]; first|done|exact rfl|(refine ⟨rfl,?_⟩; rfl))); simp only [sA])
      (apply QX.val; (case hw => rfl); (case hv => (simp [vA, fRes_eq, hB1, w1, na1]; first|done|exact rfl|(refine ⟨rfl,?_⟩; rfl))); simp only [sA])
      (apply QX.val; (case hw => rfl); (case hv => (simp [vA, fRes_eq, hB1, w1, na1]; first|done|exact rfl|(refine ⟨rfl,?_⟩; rfl))); simp only [sA])
      (apply QX.val; (case hw => rfl); (case hv => (simp [vA, fRes_eq, hB1, w1, na1]; first|done|exact rfl|(refine ⟨rfl,?_⟩; rfl))); simp only [sA])
      (apply QX.val; (case hw => rfl); (case hv => (simp [vA, fRes_eq, hB1, w1, na1]; first|done|exact rfl|(refine ⟨rfl,?_⟩; rfl))); simp only [sA])
      (apply QX.val; (case hw => rfl); (case hv => (simp [vA, fRes_eq, hB1, w1, na1]; first|done|exact rfl|(refine ⟨rfl,?_⟩; rfl))); simp only [sA])
      (apply QX.val; (case hw => rfl); (case hv => (simp [vA, fRes_eq, hB1, w1, na1]; first|done|exact rfl|(refine ⟨rfl,?_⟩; rfl))); simp only [sA])
      (apply QX.val; (case hw => rfl); (case hv => (simp [vA, fRes_eq, hB1, w1, na1]; first|done|exact rfl|(refine ⟨rfl,?_⟩; rfl))); simp only [sA])
      (apply QX.val; (case hw => rfl); (case hv => (simp [vA, fRes_eq, hB2, w2, na2]; first|done|exact rfl|(refine ⟨rfl,?_⟩; rfl))); simp only [sA])
      (apply QX.val; (case hw => rfl); (case hv => (simp [vA, fRes_eq, hB2, w2, na2]; first|done|exact rfl|(refine ⟨rfl,?_⟩; rfl))); simp only [sA])
      (apply QX.val; (case hw => rfl); (case hv => (simp [vA, fRes_eq, hB2, w2, na2]; first|done|exact rfl|(refine ⟨rfl,?_⟩; rfl))); simp only [sA])
      (apply QX.val; (case hw => rfl); (case hv => (simp [vA, fRes_eq, hB2, w2, na2]; first|done|exact rfl|(refine ⟨rfl,?_⟩; rfl))); simp only [sA])
      (apply QX.val; (case hw => rfl); (case hv => (simp [vA, fRes_eq, hB2, w2, na2]; first|done|exact rfl|(refine ⟨rfl,?_⟩; rfl))); simp only [sA])
      (apply QX.val; (case hw => rfl); (case hv => (simp [vA, fRes_eq, hB2, w2, na2]; first|done|exact rfl|(refine ⟨rfl,?_⟩; rfl))); simp only [sA])
      (apply QX.val; (case hw => rfl); (case hv => (simp [vA, fRes_eq, hB2, w2, na2]; first|done|exact rfl|(refine ⟨rfl,?_⟩; rfl))); simp only [sA])
      (apply QX.val; (case hw => rfl); (case hv => (simp [vA, fRes_eq, hB2, w2, na2]; first|done|exact rfl|(refine ⟨rfl,?_⟩; rfl))); simp only [sA])
      (apply QX.val; (case hw => rfl); (case hv => (simp [vA, fRes_eq, hB3, w3, na3]; first|done|exact rfl|(refine ⟨rfl,?_⟩; rfl))); simp only [sA])
      (apply QX.val; (case hw => rfl); (case hv => (simp [vA, fRes_eq, hB3, w3, na3]; first|done|exact rfl|(refine ⟨rfl,?_⟩; rfl))); simp only [sA])
      (apply QX.val; (case hw => rfl); (case hv => (simp [vA, fRes_eq, hB3, w3, na3]; first|done|exact rfl|(refine ⟨rfl,?_⟩; rfl))); simp only [sA])
      (apply QX.val; (case hw => rfl); (case hv => (simp [vA, fRes_eq, hB3, w3, na3]; first|done|exact rfl|(refine ⟨rfl,?_⟩; rfl))); simp only [sA])
      (apply QX.val; (case hw => rfl); (case hv => (simp [vA, fRes_eq, hB3, w3, na3]; first|done|exact rfl|(refine ⟨rfl,?_⟩; rfl))); simp only [sA])
      (apply QX.val; (case hw => rfl); (case hv => (simp [vA, fRes_eq, hB3, w3, na3]; first|done|exact rfl|(refine ⟨rfl,?_⟩; rfl))); simp only [sA])
      (apply QX.val; (case hw => rfl); (case hv => (simp [vA, fRes_eq, hB3, w3, na3]; first|done|exact rfl|(refine ⟨rfl,?_⟩; rfl))); simp only [sA])
      (apply QX.val; (case hw => rfl); (case hv => (simp [vA, fRes_eq, hB3, w3, na3]; first|done|exact rfl|(refine ⟨rfl,?_⟩; rfl))); simp only [sA])
      (apply QX.val; (case hw => rfl); (case hv => (simp [vA, fRes_eq, hB4, w4, na4]; first|done|exact rfl|(refine ⟨rfl,?_⟩; rfl))); simp only [sA])
      (apply QX.val; (case hw => rfl); (case hv => (simp [vA, fRes_eq, hB4, w4, na4]; first|done|exact rfl|(refine ⟨rfl,?_⟩; rfl))); simp only [sA])
      (apply QX.val; (case hw => rfl); (case hv => (simp [vA, fRes_eq, hB4, w4, na4]; first|done|exact rfl|(refine ⟨rfl,?_⟩; rfl))); simp only [sA])
      (apply QX.val; (case hw => rfl); (case hv => (simp [vA, fRes_eq, hB4, w4, na4]; first|done|exact rfl|(refine ⟨rfl,?_⟩; rfl))); simp only [sA])
      (apply QX.val; (case hw => rfl); (case hv => (simp [vA, fRes_eq, hB4, w4, na4]; first|done|exact rfl|(refine ⟨rfl,?_⟩; rfl))); simp only [sA])
      (apply QX.val; (case hw => rfl); (case hv => (simp [vA, fRes_eq, hB4, w4, na4]; first|done|exact rfl|(refine ⟨rfl,?_⟩; rfl))); simp only [sA])
      (apply QX.val; (case hw => rfl); (case hv => (simp [vA, fRes_eq, hB4, w4, na4]; first|done|exact rfl|(refine ⟨rfl,?_⟩; rfl))); simp only [sA])
      (apply QX.val; (case hw => rfl); (case hv => (simp [vA, fRes_eq, hB4, w4, na4]; first|done|exact rfl|(refine ⟨rfl,?_⟩; rfl))); simp only [sA])
      (apply QX.val; (case hw => rfl); (case hv => (simp [vA, fRes_eq]; first|done|exact rfl|(refine ⟨rfl,?_⟩; rfl))); simp only [sA])
      (apply QX.val; (case hw => rfl); (case hv => (simp [vA, fRes_eq]; first|done|exact rfl|(refine ⟨rfl,?_⟩; rfl))); simp only [sA])
      (apply QX.val; (case hw => rfl); (case hv => (simp [vA, fRes_eq]; first|done|exact rfl|(refine ⟨rfl,?_⟩; rfl))); simp only [sA])
      (apply QX.call 23 [.agg [.int .i64 len, .int .i64 wid, .int .i64 front, .int .i64 rear, .int .i64 turn, .int .i64 kilos, .int .i64 mid, .int .i64 high, .sl (ls.map Ld.av) none], .agg [.sl (ks.map fun z => AV.int .i64 z) none, .sl (ts.map fun z => AV.int .i64 z) none]] (.int .i64 Y); (case hw => rfl); (case hv => simp [vA, fRes_eq]); (case hc => exact call_onlyN _ rfl hR e3 (by simp) (by simp) (fun n => rfl)); simp only [sA])
      (apply QX.call 21 [.agg [.int .i64 H1, .int .i64 H2], .int .i64 Y] (.bool true); (case hw => rfl); (case hv => simp [vA, fRes_eq]); (case hc => exact call_onlyN _ rfl (by rfl) in2 (by simp) (by simp; rintro v (⟨_, h⟩ | h) <;> exact h) (fun n => rfl)); simp only [sA])
      (apply QX.val; (case hw => rfl); (case hv => (simp [vA, fRes_eq]; first|done|exact rfl|(refine ⟨rfl,?_⟩; rfl))); simp only [sA])
      (apply QX.val; (case hw => rfl); (case hv => (simp [vA, fRes_eq]; first|done|exact rfl|(refine ⟨rfl,?_⟩; rfl))); simp only [sA])
      (apply QX.val; (case hw => rfl); (case hv => (simp [vA, fRes_eq]; first|done|exact rfl|(refine ⟨rfl,?_⟩; rfl))); simp only [sA])
      (apply QX.val; (case hw => rfl); (case hv => (simp [vA, fRes_eq]; first|done|exact rfl|(refine ⟨rfl,?_⟩; rfl))); simp only [sA])
      (apply QX.val; (case hw => rfl); (case hv => (simp [vA, fRes_eq]; first|done|exact rfl|(refine ⟨rfl,?_⟩; rfl))); simp only [sA])
      (apply QX.val; (case hw => rfl); (case hv => (simp [vA, fRes_eq, hq1]; first|done|exact rfl|(refine ⟨rfl,?_⟩; rfl))); simp only [sA])
      (apply QX.val; (case hw => rfl); (case hv => (simp [vA, fRes_eq]; first|done|exact rfl|(refine ⟨rfl,?_⟩; rfl))); simp only [sA])
      (apply QX.may q1 (.int .i64 cc); (case hw => rfl); (case hv => (intro hq; subst hq; simp [vA, fRes_eq]; first|done|exact rfl)); simp only [sA])
      (apply QX.may q1 (.bool q2); (case hw => rfl); (case hv => (intro hq; subst hq; simp [vA, fRes_eq, hq2]; first|done|exact rfl)); simp only [sA])
      (apply QX.val (.bool (q1 && q2)); (case hw => rfl); (case hv => (cases q1 <;> simp [vA, fRes_eq])); simp only [sA])
      exact QX.nil
    case h2 =>
      simp only [List.drop_succ_cons, List.drop_zero]
      (apply QX.call 24 [.int .i64 V, .bool (q1 && q2)] (.bool true); (case hw => rfl); (case hv => simp [vA, fRes_eq]); (case hc => exact call_onlyN _ rfl (by rfl) ag (by simp) (by simp) (fun n => rfl)); simp only [sA])
      (apply QX.val; (case hw => rfl); (case hv => (simp [vA, fRes_eq]; first|done|exact rfl|(refine ⟨rfl,?_⟩; rfl))); simp only [sA])
      (apply QX.val; (case hw => rfl); (case hv => (simp [vA, fRes_eq]; first|done|exact rfl|(refine ⟨rfl,?_⟩; rfl))); simp only [sA])
      exact QX.nil
    (repeat (first|((first|refine ExO.nil ?_|refine Ex.skip ?_|refine Ex.ret ?_|refine Ex.exit ?_); try dsimp only)|((first|(refine xI ?_; intro _ _)|refine xL ?_|(refine xB ?_; intro _ _)|refine xG ?_|refine xS ?_|refine xM ?_|(refine xC ?_; intro _ _)|(refine xJ ?_; intro _ _)|refine xW ?_); try simp only [sA])|refine Ex.seq ?_|refine Ex.reg ?_|refine Ex.block ?_|refine eT ?_|refine eF ?_|simp only [reduceCtorEq, AEx.ex.injEq, Nat.reduceEqDiff, if_true, if_false]))
    refine Ex.loopF (fun k a S => ∃ (i : Nat), i ≤ hs.length ∧ k = hs.length - i ∧ a = [.junk, .junk, .junk, .ptr 0 0, .ptr 1 0, .sl (hs.map Hd.av) none, .ptr 2 0, .junk, .ptr 3 0, .ptr 4 0, .junk, .ptr 5 0, .junk, .int .i64 V, .junk, .sl L1 none, .junk, .int .i64 K, .int .i64 (j : Nat), .ptr 6 0, .junk, .junk, .int .i64 (i : Nat), .junk, .junk, .junk, .junk, .junk, .junk, .junk, .junk, .junk, .junk, .junk, .junk, .junk, .junk, .junk, .junk, .junk, .junk, .junk, .junk, .junk, .junk, .junk, .junk, .junk, .junk, .junk, .junk, .junk, .junk, .junk, .junk, .junk, .junk, .junk, .junk, .junk, .junk, .junk, .junk, .junk, .junk, .junk, .junk, .junk, .junk, .junk, .junk, .junk, .junk, .junk, .junk, .junk, .junk, .junk, .junk, .junk, .junk, .junk, .junk, .junk, .junk, .junk, .junk, .junk, .junk, .junk, .junk, .junk, .junk, .junk, .junk, .junk, .junk, .junk, .junk, .junk, .junk, .junk, .junk, .junk, .junk, .junk, .junk, .junk, .junk, .junk, .junk, .junk, .junk, .junk, .junk, .junk, .junk, .junk, .junk, .junk, .junk, .junk, .junk, .junk, .junk, .junk, .junk, .junk, .junk, .junk, .junk, .junk, .junk, .junk, .junk, .junk, .junk, .junk, .junk, .junk, .junk, .junk, .junk, .junk, .junk, .junk, .junk, .junk, .junk, .junk, .junk, .junk, .junk, .junk, .junk, .junk, .junk, .junk, .junk, .junk, .junk, .junk, .junk, .junk, .junk, .junk, .junk, .junk, .junk, .junk, .junk, .junk, .junk, .junk, .junk, .junk, .junk] ∧ S = ⟨[[.int .u64 b1], [.int .i64 len, .int .i64 wid, .int .i64 front, .int .i64 rear, .int .i64 turn, .int .i64 kilos, .int .i64 mid, .int .i64 high, .sl (ls.map Ld.av) none], [.int .i64 T1, .int .i64 T2], [.int .i64 A1, .int .i64 A2], [.int .i64 A3, .int .i64 A4], [.int .i64 H1, .int .i64 H2], [.sl (ks.map fun z => AV.int .i64 z) none, .sl (ts.map fun z => AV.int .i64 z) none]], []⟩) hs.length ⟨_, _, forgets 7 [] ([false, false, false, true, true, true, true, false, true, true, false, true, false, true, false, true, false, true, true, true, false, false, true, false, false, false, false, false, false, false, false, false, false, false, false, false, false, false, false, false, false, false, false, false, false, false, false, false, false, false, false, false, false, false, false, false, false, false, false, false, false, false, false, false, false, false, false, false, false, false, false, false, false, false, false, false, false, false, false, false, false, false, false, false, false, false, false, false, false, false, false, false, false, false, false, false, false, false, false, false, false, false, false, false, false, false, false, false, false, false, false, false, false, false, false, false, false, false, false, false, false, false, false, false, false, false, false, false, false, false, false, false, false, false, false, false, false, false, false, false, false, false, false, false, false, false, false, false, false, false, false, false, false, false, false, false, false, false, false, false, false, false, false, false, false, false, false, false, false, false, false, false, false, false, false, false, false]) (by decide) (by simp) (bx2 := [[.int .u64 b1], [.int .i64 len, .int .i64 wid, .int .i64 front, .int .i64 rear, .int .i64 turn, .int .i64 kilos, .int .i64 mid, .int .i64 high, .sl (ls.map Ld.av) none], [.int .i64 T1, .int .i64 T2], [.int .i64 A1, .int .i64 A2], [.int .i64 A3, .int .i64 A4], [.int .i64 H1, .int .i64 H2], [.sl (ks.map fun z => AV.int .i64 z) none, .sl (ts.map fun z => AV.int .i64 z) none]]) (by simp [re, re1, AV.clean, clean_lds, hck, hct]) (by rfl) (by decide), 0, by omega, by omega, by simp [keepS, re, re1, AV.clean, cl1, clean_hds], by rfl⟩ ?_
    rintro k a S ⟨i, hi, rfl, rfl, rfl⟩
    (repeat (first|((first|refine ExO.nil ?_|refine Ex.skip ?_|refine Ex.ret ?_|refine Ex.exit ?_); try dsimp only)|((first|(refine xI ?_; intro _ _)|refine xL ?_|(refine xB ?_; intro _ _)|refine xG ?_|refine xS ?_|refine xM ?_|(refine xC ?_; intro _ _)|(refine xJ ?_; intro _ _)|refine xW ?_); try simp only [sA])|refine Ex.seq ?_|refine Ex.reg ?_|refine Ex.block ?_|refine eT ?_|refine eF ?_|simp only [reduceCtorEq, AEx.ex.injEq, Nat.reduceEqDiff, if_true, if_false]))
    rename_i c hc
    cases c
    · (repeat (first|((first|refine ExO.nil ?_|refine Ex.skip ?_|refine Ex.ret ?_|refine Ex.exit ?_); try dsimp only)|((first|(refine xI ?_; intro _ _)|refine xL ?_|(refine xB ?_; intro _ _)|refine xG ?_|refine xS ?_|refine xM ?_|(refine xC ?_; intro _ _)|(refine xJ ?_; intro _ _)|refine xW ?_); try simp only [sA])|refine Ex.seq ?_|refine Ex.reg ?_|refine Ex.block ?_|refine eT ?_|refine eF ?_|simp only [reduceCtorEq, AEx.ex.injEq, Nat.reduceEqDiff, if_true, if_false]))
      rename_i j2 hj2
      rw [i64_in (by omega) (by omega)] at hj2
      exact ⟨_, _, forgets 6 [] ([false, false, false, true, true, true, true, false, true, true, false, true, false, true, false, true, false, true, true, false, false, false, false, false, false, false, false, false, false, false, false, false, false, false, false, false, false, false, false, false, false, false, false, false, false, false, false, false, false, false, false, false, false, false, false, false, false, false, false, false, false, false, false, false, false, false, false, false, false, false, false, false, false, false, false, false, false, false, false, false, false, false, false, false, false, false, false, false, false, false, false, false, false, false, false, false, false, false, false, false, false, false, false, false, false, false, false, false, false, false, false, false, false, false, false, false, false, false, false, false, false, false, false, false, false, false, false, false, false, false, false, false, false, false, false, false, false, false, false, false, false, false, false, false, false, false, false, false, false, false, false, false, false, false, false, false, false, false, false, false, false, false, false, false, false, false, false, false, false, false, false, false, false, false, false, false, false]) (by decide) (by simp) (bx2 := [[.int .u64 b1], [.int .i64 len, .int .i64 wid, .int .i64 front, .int .i64 rear, .int .i64 turn, .int .i64 kilos, .int .i64 mid, .int .i64 high, .sl (ls.map Ld.av) none], [.int .i64 T1, .int .i64 T2], [.int .i64 A1, .int .i64 A2], [.int .i64 A3, .int .i64 A4], [.int .i64 H1, .int .i64 H2]]) (by simp [re, re1, AV.clean, clean_lds]) (by rfl) (by decide), 6 - (j + 1), by omega, j + 1, b1, by omega, rfl, by rw [hj2]; simp [keepS, re, re1, AV.clean, cl1, clean_hds], by rfl⟩
    · have hil : i < hs.length := by
        have h0 := hc.symm
        rw [n1] at h0
        simpa using h0
      have f0 : hs[i]? = some hs[i] := List.getElem?_eq_getElem hil
      have f1 := hvd i _ f0
      have hok := hr1 _ (List.getElem_mem hil)
      have gg1 := g1 hs[i]
      have gg2 := g2 hs[i]
      have go := e4 hs[i] hok
      have l1 : (i : Int) < (hs.length : Int) := by omega
      have ag2 := Does.det (Nat.le_refl _) (agrees_m (G hs[i]) (P2 hs[i]) (P1 hs[i]) gg1 gg2)
      generalize verd (P2 hs[i]) (P1 hs[i]) = vv at f1 ag2
      generalize G hs[i] = g at go ag2
      generalize hs[i] = h at f0 go
      obtain ⟨kind, pa, pb⟩ := h
      have hR2 : List.mapM (ren []) [.agg [.int .i64 len, .int .i64 wid, .int .i64 front, .int .i64 rear, .int .i64 turn, .int .i64 kilos, .int .i64 mid, .int .i64 high, .sl (ls.map Ld.av) none], .agg [.int .i64 kind, .int .i64 pa, .int .i64 pb], .agg [.sl (ks.map fun z => AV.int .i64 z) none, .sl (ts.map fun z => AV.int .i64 z) none]] = some [.agg [.int .i64 len, .int .i64 wid, .int .i64 front, .int .i64 rear, .int .i64 turn, .int .i64 kilos, .int .i64 mid, .int .i64 high, .sl (ls.map Ld.av) none], .agg [.int .i64 kind, .int .i64 pa, .int .i64 pb], .agg [.sl (ks.map fun z => AV.int .i64 z) none, .sl (ts.map fun z => AV.int .i64 z) none]] := by simp [ren, ren1, AV.plain, AV.plain1, AV.clean, cleanL, clean_lds, hck, hct]
      (repeat (first|((first|refine ExO.nil ?_|refine Ex.skip ?_|refine Ex.ret ?_|refine Ex.exit ?_); try dsimp only)|((first|(refine xI ?_; intro _ _)|refine xL ?_|(refine xB ?_; intro _ _)|refine xG ?_|refine xS ?_|refine xM ?_|(refine xC ?_; intro _ _)|(refine xJ ?_; intro _ _)|refine xW ?_); try simp only [sA])|refine Ex.seq ?_|refine Ex.reg ?_|refine Ex.block ?_|refine eT ?_|refine eF ?_|simp only [reduceCtorEq, AEx.ex.injEq, Nat.reduceEqDiff, if_true, if_false]))
      apply Ex.drawX (only_ok [(25, [.agg [.int .i64 len, .int .i64 wid, .int .i64 front, .int .i64 rear, .int .i64 turn, .int .i64 kilos, .int .i64 mid, .int .i64 high, .sl (ls.map Ld.av) none], .agg [.int .i64 kind, .int .i64 pa, .int .i64 pb], .agg [.sl (ks.map fun z => AV.int .i64 z) none, .sl (ts.map fun z => AV.int .i64 z) none]], .bool g), (24, [.int .i64 vv, .bool g], .bool true)])
      case hq => rfl
      case h =>
        simp only [List.take_succ_cons, List.take_zero]
        (apply QX.val; (case hw => rfl); (case hv => (simp [vA, fRes_eq, n1, l1, f0, f1, Hd.av]; first|done|exact rfl|(refine ⟨rfl,?_⟩; rfl))); simp only [sA])
        (apply QX.val; (case hw => rfl); (case hv => (simp [vA, fRes_eq, n1, l1, f0, f1, Hd.av]; first|done|exact rfl|(refine ⟨rfl,?_⟩; rfl))); simp only [sA])
        (apply QX.val; (case hw => rfl); (case hv => (simp [vA, fRes_eq, n1, l1, f0, f1, Hd.av]; first|done|exact rfl|(refine ⟨rfl,?_⟩; rfl))); simp only [sA])
        (apply QX.val; (case hw => rfl); (case hv => (simp [vA, fRes_eq, n1, l1, f0, f1, Hd.av]; first|done|exact rfl|(refine ⟨rfl,?_⟩; rfl))); simp only [sA])
        (apply QX.val; (case hw => rfl); (case hv => (simp [vA, fRes_eq, n1, l1, f0, f1, Hd.av]; first|done|exact rfl|(refine ⟨rfl,?_⟩; rfl))); simp only [sA])
        (apply QX.val; (case hw => rfl); (case hv => (simp [vA, fRes_eq, n1, l1, f0, f1, Hd.av]; first|done|exact rfl|(refine ⟨rfl,?_⟩; rfl))); simp only [sA])
        (apply QX.val; (case hw => rfl); (case hv => (simp [vA, fRes_eq, n1, l1, f0, f1, Hd.av]; first|done|exact rfl|(refine ⟨rfl,?_⟩; rfl))); simp only [sA])
        (apply QX.val; (case hw => rfl); (case hv => (simp [vA, fRes_eq, n1, l1, f0, f1, Hd.av]; first|done|exact rfl|(refine ⟨rfl,?_⟩; rfl))); simp only [sA])
        (apply QX.val; (case hw => rfl); (case hv => (simp [vA, fRes_eq, n1, l1, f0, f1, Hd.av]; first|done|exact rfl|(refine ⟨rfl,?_⟩; rfl))); simp only [sA])
        (apply QX.val; (case hw => rfl); (case hv => (simp [vA, fRes_eq, n1, l1, f0, f1, Hd.av]; first|done|exact rfl|(refine ⟨rfl,?_⟩; rfl))); simp only [sA])
        (apply QX.call 25 [.agg [.int .i64 len, .int .i64 wid, .int .i64 front, .int .i64 rear, .int .i64 turn, .int .i64 kilos, .int .i64 mid, .int .i64 high, .sl (ls.map Ld.av) none], .agg [.int .i64 kind, .int .i64 pa, .int .i64 pb], .agg [.sl (ks.map fun z => AV.int .i64 z) none, .sl (ts.map fun z => AV.int .i64 z) none]] (.bool g); (case hw => rfl); (case hv => simp [vA, fRes_eq]); (case hc => exact call_onlyN _ rfl hR2 go (by simp) (by simp) (fun n => rfl)); simp only [sA])
        exact QX.nil
      case h2 =>
        simp only [List.drop_succ_cons, List.drop_zero]
        (apply QX.call 24 [.int .i64 vv, .bool g] (.bool true); (case hw => rfl); (case hv => simp [vA, fRes_eq]); (case hc => exact call_onlyN _ rfl (by rfl) ag2 (by simp) (by simp) (fun n => rfl)); simp only [sA])
        (apply QX.val; (case hw => rfl); (case hv => (simp [vA, fRes_eq]; first|done|exact rfl|(refine ⟨rfl,?_⟩; rfl))); simp only [sA])
        exact QX.nil
      (repeat (first|((first|refine ExO.nil ?_|refine Ex.skip ?_|refine Ex.ret ?_|refine Ex.exit ?_); try dsimp only)|((first|(refine xI ?_; intro _ _)|refine xL ?_|(refine xB ?_; intro _ _)|refine xG ?_|refine xS ?_|refine xM ?_|(refine xC ?_; intro _ _)|(refine xJ ?_; intro _ _)|refine xW ?_); try simp only [sA])|refine Ex.seq ?_|refine Ex.reg ?_|refine Ex.block ?_|refine eT ?_|refine eF ?_|simp only [reduceCtorEq, AEx.ex.injEq, Nat.reduceEqDiff, if_true, if_false]))
      rename_i i2 hi2
      rw [i64_in (by omega) (by omega)] at hi2
      exact ⟨_, _, forgets 7 [] ([false, false, false, true, true, true, true, false, true, true, false, true, false, true, false, true, false, true, true, true, false, false, true, false, false, false, false, false, false, false, false, false, false, false, false, false, false, false, false, false, false, false, false, false, false, false, false, false, false, false, false, false, false, false, false, false, false, false, false, false, false, false, false, false, false, false, false, false, false, false, false, false, false, false, false, false, false, false, false, false, false, false, false, false, false, false, false, false, false, false, false, false, false, false, false, false, false, false, false, false, false, false, false, false, false, false, false, false, false, false, false, false, false, false, false, false, false, false, false, false, false, false, false, false, false, false, false, false, false, false, false, false, false, false, false, false, false, false, false, false, false, false, false, false, false, false, false, false, false, false, false, false, false, false, false, false, false, false, false, false, false, false, false, false, false, false, false, false, false, false, false, false, false, false, false, false, false]) (by decide) (by simp) (bx2 := [[.int .u64 b1], [.int .i64 len, .int .i64 wid, .int .i64 front, .int .i64 rear, .int .i64 turn, .int .i64 kilos, .int .i64 mid, .int .i64 high, .sl (ls.map Ld.av) none], [.int .i64 T1, .int .i64 T2], [.int .i64 A1, .int .i64 A2], [.int .i64 A3, .int .i64 A4], [.int .i64 H1, .int .i64 H2], [.sl (ks.map fun z => AV.int .i64 z) none, .sl (ts.map fun z => AV.int .i64 z) none]]) (by simp [re, re1, AV.clean, clean_lds, hck, hct]) (by rfl) (by decide), hs.length - (i + 1), by omega, i + 1, by omega, rfl, by rw [hi2]; simp [keepS, re, re1, AV.clean, cl1, clean_hds], by rfl⟩
theorem true_m (zs : List Int) (hz : zs.length ≤ 9223372036854775807) : Does Try.prog 3 [.sl (zs.map fun z => .int .i64 z) none] [] fun v _ => v = .bool true := by
  refine Does.of comp3 ?_
  have hcz : cleanL (zs.map fun z => AV.int .i64 z) = true := by
    rw [cleanL_iff]
    intro x hx
    obtain ⟨z, _, rfl⟩ := List.mem_map.1 hx
    rfl
  have p0 := tph0
  have p1 := @tph1
  have p2 := @tph2
  unfold F3 at p0 p1 p2 ⊢
  simp only [NB_s, NB_0, NR_s, NR_0] at p0 p1 p2
  simp only [start, List.length_cons, List.length_nil, List.replicate, List.cons_append, List.nil_append, Nat.reduceAdd, Nat.reduceSub]
  (repeat (first|((first|refine ExO.nil ?_|refine Ex.skip ?_|refine Ex.ret ?_|refine Ex.exit ?_); try dsimp only)|((first|(refine xI ?_; intro _ _)|refine xL ?_|(refine xB ?_; intro _ _)|refine xG ?_|refine xS ?_|refine xM ?_|(refine xC ?_; intro _ _)|refine xW ?_); try simp only [sA])|refine Ex.seq ?_|refine Ex.reg ?_|refine Ex.block ?_|refine eT ?_|refine eF ?_|simp only [reduceCtorEq, AEx.ex.injEq, Nat.reduceEqDiff, if_true, if_false]))
  refine ExO.call (f := 11) (xs := [.sl (zs.map fun z => .int .i64 z) none]) (ys := [.sl (zs.map fun z => .int .i64 z) none]) (bs := []) (cells := []) (by rfl) (by rfl) (by rfl) (by simp [ren, ren1, AV.plain, AV.plain1, AV.clean, hcz]) (by rfl) (by rfl) (drumOf_m zs hz) ?_
  rintro v c' ⟨b0, rfl, rfl⟩
  refine ⟨.ptr 0 0, rfl, rfl, ?_⟩
  simp only [List.map_cons, List.map_nil, putA, List.set_cons_zero, List.set_cons_succ, AV.plain, AV.plain1, setAll, List.length_cons, List.length_nil, List.drop_succ_cons, List.drop_zero, List.drop_nil, List.append_nil, Nat.reduceAdd]
  (first | (refine ExO.nil ?_; try dsimp only) | (refine xI ?_; intro _ _; simp only [sA]) | (refine xL ?_; simp only [sA]) | (refine xB ?_; intro _ _; simp only [sA]) | (refine xG ?_; try simp only [sA]) | (refine xS ?_; try simp only [sA]) | (refine xM ?_; simp only [sA]) | (refine xC ?_; intro _ _; simp only [sA]) | (refine xW ?_; try simp only [sA]) | refine Ex.seq ?_ | refine Ex.reg ?_ | refine Ex.block ?_ | (refine Ex.skip ?_; try dsimp only) | (refine Ex.ret ?_; try dsimp only) | (refine Ex.exit ?_; try dsimp only) | refine eT ?_ | refine eF ?_ | simp only [reduceCtorEq, AEx.ex.injEq, Nat.reduceEqDiff, if_true, if_false])
  (first | (refine ExO.nil ?_; try dsimp only) | (refine xI ?_; intro _ _; simp only [sA]) | (refine xL ?_; simp only [sA]) | (refine xB ?_; intro _ _; simp only [sA]) | (refine xG ?_; try simp only [sA]) | (refine xS ?_; try simp only [sA]) | (refine xM ?_; simp only [sA]) | (refine xC ?_; intro _ _; simp only [sA]) | (refine xW ?_; try simp only [sA]) | refine Ex.seq ?_ | refine Ex.reg ?_ | refine Ex.block ?_ | (refine Ex.skip ?_; try dsimp only) | (refine Ex.ret ?_; try dsimp only) | (refine Ex.exit ?_; try dsimp only) | refine eT ?_ | refine eF ?_ | simp only [reduceCtorEq, AEx.ex.injEq, Nat.reduceEqDiff, if_true, if_false])
  refine Ex.forget (a2 := [.junk, .junk, .junk, .ptr 0 0, .junk, .junk, .junk, .junk, .junk, .junk, .junk, .junk, .junk, .junk, .junk, .junk, .junk, .junk, .junk, .junk, .junk, .junk, .junk, .junk, .junk, .junk, .junk, .junk, .junk, .junk, .junk, .junk, .junk, .junk, .junk, .junk, .junk, .junk, .junk, .junk, .junk, .junk, .junk, .junk, .junk, .junk, .junk, .junk, .junk, .junk, .junk, .junk, .junk, .junk, .junk, .junk, .junk, .junk, .junk, .junk, .junk, .junk, .junk, .junk, .junk, .junk, .junk, .junk, .junk, .junk, .junk, .junk, .junk, .junk, .junk, .junk, .junk, .junk, .junk, .junk, .junk, .junk, .junk, .junk, .junk, .junk, .junk, .junk, .junk, .junk, .junk, .junk, .junk, .junk, .junk, .junk, .junk, .junk, .junk, .junk, .junk, .junk, .junk, .junk, .junk, .junk, .junk, .junk, .junk, .junk, .junk, .junk, .junk, .junk, .junk, .junk, .junk, .junk, .junk, .junk, .junk, .junk, .junk, .junk, .junk, .junk, .junk, .junk, .junk, .junk, .junk, .junk, .junk, .junk, .junk, .junk, .junk, .junk, .junk, .junk, .junk, .junk, .junk, .junk, .junk, .junk, .junk, .junk, .junk, .junk, .junk, .junk, .junk, .junk, .junk, .junk, .junk, .junk, .junk, .junk, .junk, .junk, .junk, .junk, .junk, .junk, .junk, .junk, .junk, .junk, .junk, .junk, .junk, .junk, .junk, .junk, .junk]) (forgets 1 [] ([false, false, false, true, false, false, false, false, false, false, false, false, false, false, false, false, false, false, false, false, false, false, false, false, false, false, false, false, false, false, false, false, false, false, false, false, false, false, false, false, false, false, false, false, false, false, false, false, false, false, false, false, false, false, false, false, false, false, false, false, false, false, false, false, false, false, false, false, false, false, false, false, false, false, false, false, false, false, false, false, false, false, false, false, false, false, false, false, false, false, false, false, false, false, false, false, false, false, false, false, false, false, false, false, false, false, false, false, false, false, false, false, false, false, false, false, false, false, false, false, false, false, false, false, false, false, false, false, false, false, false, false, false, false, false, false, false, false, false, false, false, false, false, false, false, false, false, false, false, false, false, false, false, false, false, false, false, false, false, false, false, false, false, false, false, false, false, false, false, false, false, false, false, false, false, false, false]) (by decide) (by simp) (bx2 := [[.int .u64 b0]]) (by rfl) (by rfl) (by decide)) ?_
  refine Ex.join U0 (p0 b0) fun a0 S0 h0 => ?_
  refine Ex.join U1 (p1 h0) fun a1 S1 h1 => ?_
  refine Ex.mono (p2 h1) ?_
  rintro x a' S' ⟨hx, hr⟩
  exact ⟨hx, _, hr, by simp, rfl⟩
end Go.Proofs.Ytoefpcpijolofaa
end
section
namespace Go.Proofs.Ytoefpcpijolofaa
open Go.RowKit Go.ChangeShapes Go.WideShapes Go.ChangeAt
set_option linter.unusedVariables false
set_option linter.unusedSimpArgs false

def nums (zs : List Int) : AV := .sl (zs.map fun z => .int .i64 z) none
theorem prog_own : ownKnob Try.prog.godebug = none := by kernel_rfl
theorem prog_laid : laidOutB Try.prog = true := by kernel_rfl

namespace floatTrue
set_option maxRecDepth 100000 in
theorem lifted (hM : ∀ zs : List Int, (∀ z ∈ zs, (Lit.int .i64 z).wf = true) → zs.length ≤ maxLen → Does Try.prog 3 [nums zs] [] fun v _ => v = .bool true) (os : Os) (started : os.Started) (H : Type) (enc : TypeId × Value → H) :
    ReturnsInHanded {} Try.checked os 3 .any (Rows.floatTrueSpec.pre6 enc Try.prog Try.f3 Rows.floatTrueRow.domain false) (Rows.floatTrueSpec.post enc Try.prog Try.f3 false true false false) := by
  refine returnsInHanded_of_change (C := Try.checked) prog_own started (by kernel_rfl) Try.func3
    (ChangeSpec.witness6 (enc := enc) (C := Try.checked) false ⟨#[], #[.slice none 0 0], []⟩ 8 (by kernel_rfl) (by kernel_rfl) (by kernel_rfl) (by kernel_rfl)) ?_
  intro W base args ds gs before hval0 hW hcnd _
  have hval : ∀ (j : Nat) t v, Try.f3.params[j]? = some t → args[j]? = some v → Value.okWide Try.prog W .any base t v := hval0
  have hW' := hW
  obtain ⟨p, q, hA0, hV, rfl, hfz, hnd⟩ := hW
  have hA : DataW.TrodAll enc Try.prog W 0 (fun _ => true) true Try.f3.params.toList args.toList ds p := hA0
  rw [Try.params3] at hA hval
  obtain ⟨v0, vs0, d0, ds0, p0, q0, hargs, rfl, rfl, h0, r0⟩ := trodAll_cons hA
  obtain ⟨rfl, rfl, rfl⟩ := trodAll_nil r0
  obtain rfl : args = #[v0] := by cases args; simp_all
  obtain ⟨rfl, rfl⟩ := trodVars_none hV
  obtain ⟨a0, len0, cap0, rfl⟩ := okWide_slice Try.underlying22 (hval 0 22 v0 rfl rfl)
  have k0 := h0
  have lt0 : ∀ x ∈ p0, x.block < W.heap.size := by obtain ⟨m, hm⟩ := k0; exact DataW.trod_lt m _ _ _ hm
  obtain ⟨zs, hwf, hlen, hvr⟩ := ints_vr Try.underlying22 Try.underlying3 (by kernel_rfl) h0
  clear hA0 hval0
  refine ((hM zs hwf hlen).law (us := #[.slice a0 len0 cap0]) ⟨rfl, fun i x u hx hu => ?_⟩).mono fun e W' ⟨he, bel⟩ => ?_
  · cases i with
    | zero => simp at hx hu; subst hx; subst hu; exact hvr
    | succ i => simp at hx
  subst he
  exact ⟨_, rfl, _, _, _, [], _, [], hW', trodAll_mk1 (shut_bool Try.underlying4 _), (trodAll_cons_mk (Below.trod prog_laid (by kernel_rfl) (of_decide_eq_true (by kernel_rfl)) k0 bel lt0) trodAll_mk0), rfl, bel.frame _, fun h => by cases h⟩

theorem frame (hM : ∀ zs : List Int, (∀ z ∈ zs, (Lit.int .i64 z).wf = true) → zs.length ≤ maxLen → Does Try.prog 3 [nums zs] [] fun v _ => v = .bool true) : Rows.FloatTrueSaid :=
  OpenClaim.holds_of_wide 3 Try.f3 rfl rfl rfl rfl rfl rfl rfl ⟨rfl, rfl, rfl, rfl, rfl⟩ rfl rfl rfl rfl rfl (by kernel_rfl) Try.func3 (by kernel_rfl)
    (of_decide_eq_true (by kernel_rfl)) (by unfold Func.isWrapper; first | (rw [if_pos (by decide +kernel)]; kernel_rfl) | (rw [if_neg (by decide +kernel)]; exact ⟨rfl, rfl⟩))
    (fun os started H enc _ => lifted hM os started H enc)
end floatTrue
end Go.Proofs.Ytoefpcpijolofaa
end
