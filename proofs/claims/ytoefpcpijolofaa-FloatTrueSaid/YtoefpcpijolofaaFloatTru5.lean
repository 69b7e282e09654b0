/- Part 6 of what the law needs: own work, put together. -/
import Derived.KernelRfl
import Derived.Test.YtoefpcpijolofaaFloatTru4
section
namespace Go.Proofs.Ytoefpcpijolofaa
open Go.RowKit
set_option linter.unusedVariables false
set_option linter.unusedSimpArgs false
set_option maxRecDepth 10000

theorem endsC_plain (F : List AV) (z1 z2 : List Int) (hF : F.map AV.plain1 = F) : (endsC F z1 z2).map AV.plain1 = endsC F z1 z2 := by
  unfold endsC nums42
  simp only [List.map_append, List.map_map, hF]
  rfl
theorem endsC_clean (F : List AV) (z1 z2 : List Int) (hF : cleanL F = true) : cleanL (endsC F z1 z2) = true := by
  unfold endsC
  rw [cleanL_append, cleanL_append, cleanL_append, hF]
  have hn : ∀ z, cleanL (nums42 z) = true := fun z => by
    rw [cleanL_iff]
    intro x hx
    obtain ⟨n, _, rfl⟩ := List.mem_map.1 hx
    rfl
  simp [hn]
theorem trC_plain (F : List AV) (z : List Int) (hF : F.map AV.plain1 = F) : (trC F z).map AV.plain1 = trC F z := by
  unfold trC nums42
  simp only [List.map_append, List.map_map, hF]
  rfl

set_option maxHeartbeats 4000000 in
theorem Total_m (len wid front rear turn kilos mid high : Int) (hF : FOk ⟨len, wid, front, rear, turn, kilos, mid, high⟩) (ls : List Ld) (hlen : ls.length ≤ 20) (hall : ∀ l ∈ ls, LOk ⟨len, wid, front, rear, turn, kilos, mid, high⟩ l) (hw1 : ∀ w ∈ wts kilos mid Ld.klo ls, WOk w) (hw2 : ∀ w ∈ wts kilos mid Ld.khi ls, WOk w) :
    Does Try.prog 14 [.agg [.int .i64 len, .int .i64 wid, .int .i64 front, .int .i64 rear, .int .i64 turn, .int .i64 kilos, .int .i64 mid, .int .i64 high, .sl (ls.map Ld.av) none]] [] fun v c' => v = .tup [.agg [.int .i64 (tot (wts kilos mid Ld.klo ls)), .int .i64 (tot (wts kilos mid Ld.khi ls))], .int .i64 0] ∧ c' = [] := by
  refine Does.of comp14 ?_
  unfold F14
  simp only [start, List.length_cons, List.length_nil, List.replicate, List.cons_append, List.nil_append, Nat.reduceAdd, Nat.reduceSub]
  (repeat (first|((first|refine ExO.nil ?_|refine Ex.skip ?_|refine Ex.ret ?_|refine Ex.exit ?_); try dsimp only)|((first|(refine xI ?_; intro _ _)|refine xL ?_|(refine xB ?_; intro _ _)|refine xG ?_|refine xS ?_|refine xM ?_|(refine xC ?_; intro _ _)|refine xW ?_); try simp only [sA])|refine Ex.seq ?_|refine Ex.reg ?_|refine Ex.block ?_|refine eT ?_|refine eF ?_|simp only [reduceCtorEq, AEx.ex.injEq, Nat.reduceEqDiff, if_true, if_false]))
  refine ExO.call (f := 53) (xs := [.agg [.int .i64 len, .int .i64 wid, .int .i64 front, .int .i64 rear, .int .i64 turn, .int .i64 kilos, .int .i64 mid, .int .i64 high, .sl (ls.map Ld.av) none]]) (ys := [.agg [.int .i64 len, .int .i64 wid, .int .i64 front, .int .i64 rear, .int .i64 turn, .int .i64 kilos, .int .i64 mid, .int .i64 high, .sl (ls.map Ld.av) none]]) (bs := []) (cells := []) (by rfl) (by rfl) (by rfl) (by simp [ren, ren1, AV.plain, AV.plain1, AV.clean, cleanL, clean_lds]) (by rfl) (by rfl) (check_ok len wid front rear turn kilos mid high hF _ ls (.inl rfl) hlen hall) ?_
  rintro v c' ⟨rfl, rfl⟩
  refine ⟨_, rfl, rfl, ?_⟩
  simp only [List.map_cons, List.map_nil, putA, List.set_cons_zero, List.set_cons_succ, AV.plain, AV.plain1, setAll, List.length_cons, List.length_nil, List.drop_succ_cons, List.drop_zero, List.drop_nil, List.append_nil, Nat.reduceAdd]
  (repeat (first|((first|refine ExO.nil ?_|refine Ex.skip ?_|refine Ex.ret ?_|refine Ex.exit ?_); try dsimp only)|((first|(refine xI ?_; intro _ _)|refine xL ?_|(refine xB ?_; intro _ _)|refine xG ?_|refine xS ?_|refine xM ?_|(refine xC ?_; intro _ _)|refine xW ?_); try simp only [sA])|refine Ex.seq ?_|refine Ex.reg ?_|refine Ex.block ?_|refine eT ?_|refine eF ?_|simp only [reduceCtorEq, AEx.ex.injEq, Nat.reduceEqDiff, if_true, if_false]))
  refine ExO.call (f := 54) (xs := [.agg [.int .i64 len, .int .i64 wid, .int .i64 front, .int .i64 rear, .int .i64 turn, .int .i64 kilos, .int .i64 mid, .int .i64 high, .sl (ls.map Ld.av) none]]) (ys := [.agg [.int .i64 len, .int .i64 wid, .int .i64 front, .int .i64 rear, .int .i64 turn, .int .i64 kilos, .int .i64 mid, .int .i64 high, .sl (ls.map Ld.av) none]]) (bs := []) (cells := []) (by rfl) (by rfl) (by rfl) (by simp [ren, ren1, AV.plain, AV.plain1, AV.clean, cleanL, clean_lds]) (by rfl) (by rfl) (ends_n len wid front rear turn kilos mid high _ ls (.inl rfl) hlen) ?_
  rintro v c' ⟨z1, z2, k1, k2, k3, rfl, rfl⟩
  have hcF : cleanL [.int .i64 len, .int .i64 wid, .int .i64 front, .int .i64 rear, .int .i64 turn, .int .i64 kilos, .int .i64 mid, .int .i64 high, .sl (ls.map Ld.av) none] = true := by simp [cleanL, AV.clean, clean_lds]
  have hpl := endsC_plain [.int .i64 len, .int .i64 wid, .int .i64 front, .int .i64 rear, .int .i64 turn, .int .i64 kilos, .int .i64 mid, .int .i64 high, .sl (ls.map Ld.av) none] z1 z2 rfl
  have hcE := endsC_clean [.int .i64 len, .int .i64 wid, .int .i64 front, .int .i64 rear, .int .i64 turn, .int .i64 kilos, .int .i64 mid, .int .i64 high, .sl (ls.map Ld.av) none] z1 z2 hcF
  refine ⟨.agg (endsC [.int .i64 len, .int .i64 wid, .int .i64 front, .int .i64 rear, .int .i64 turn, .int .i64 kilos, .int .i64 mid, .int .i64 high, .sl (ls.map Ld.av) none] z1 z2), by simp [back, back1, AV.plain, AV.plain1, AV.clean, hpl, hcE], rfl, ?_⟩
  simp only [List.map_cons, List.map_nil, putA, List.set_cons_zero, List.set_cons_succ, AV.plain, AV.plain1, setAll, List.length_cons, List.length_nil, List.drop_succ_cons, List.drop_zero, List.drop_nil, List.append_nil, Nat.reduceAdd]
  have n1 := endsC_len [.int .i64 len, .int .i64 wid, .int .i64 front, .int .i64 rear, .int .i64 turn, .int .i64 kilos, .int .i64 mid, .int .i64 high, .sl (ls.map Ld.av) none] z1 z2 rfl k1 k2
  have n0 : zeros102.length = 102 := endsC_len _ _ _ rfl rfl rfl
  have q1 := endsC_scal [.int .i64 len, .int .i64 wid, .int .i64 front, .int .i64 rear, .int .i64 turn, .int .i64 kilos, .int .i64 mid, .int .i64 high, .sl (ls.map Ld.av) none] z1 z2 (by simp [AV.scalar])
  have q2 := layAt_full zeros102 (endsC [.int .i64 len, .int .i64 wid, .int .i64 front, .int .i64 rear, .int .i64 turn, .int .i64 kilos, .int .i64 mid, .int .i64 high, .sl (ls.map Ld.av) none] z1 z2) (by rw [n0, n1])
  have g1 := ends_hi [.int .i64 len, .int .i64 wid, .int .i64 front, .int .i64 rear, .int .i64 turn, .int .i64 kilos, .int .i64 mid, .int .i64 high, .sl (ls.map Ld.av) none] z1 z2 rfl k1 k2
  have g2 := ends_lo [.int .i64 len, .int .i64 wid, .int .i64 front, .int .i64 rear, .int .i64 turn, .int .i64 kilos, .int .i64 mid, .int .i64 high, .sl (ls.map Ld.av) none] z1 z2 rfl k1
  have c1 := total_m len wid front rear turn kilos mid high Ld.klo z1 ls hlen k1 (fun j l h => (k3 j (List.getElem?_eq_some_iff.1 h).1 l h).1) hw1
  have c2 := total_m len wid front rear turn kilos mid high Ld.khi z2 ls hlen k2 (fun j l h => (k3 j (List.getElem?_eq_some_iff.1 h).1 l h).2.2.1) hw2
  have d1 := Does.det (Nat.le_refl _) c1
  have p1 := trC_plain [.int .i64 len, .int .i64 wid, .int .i64 front, .int .i64 rear, .int .i64 turn, .int .i64 kilos, .int .i64 mid, .int .i64 high, .sl (ls.map Ld.av) none] z1 rfl
  have p2 := trC_plain [.int .i64 len, .int .i64 wid, .int .i64 front, .int .i64 rear, .int .i64 turn, .int .i64 kilos, .int .i64 mid, .int .i64 high, .sl (ls.map Ld.av) none] z2 rfl
  have e1 := trC_clean [.int .i64 len, .int .i64 wid, .int .i64 front, .int .i64 rear, .int .i64 turn, .int .i64 kilos, .int .i64 mid, .int .i64 high, .sl (ls.map Ld.av) none] z1 hcF
  have e2 := trC_clean [.int .i64 len, .int .i64 wid, .int .i64 front, .int .i64 rear, .int .i64 turn, .int .i64 kilos, .int .i64 mid, .int .i64 high, .sl (ls.map Ld.av) none] z2 hcF
  generalize trC [.int .i64 len, .int .i64 wid, .int .i64 front, .int .i64 rear, .int .i64 turn, .int .i64 kilos, .int .i64 mid, .int .i64 high, .sl (ls.map Ld.av) none] z1 = T1 at g2 d1 c1 p1 e1
  generalize trC [.int .i64 len, .int .i64 wid, .int .i64 front, .int .i64 rear, .int .i64 turn, .int .i64 kilos, .int .i64 mid, .int .i64 high, .sl (ls.map Ld.av) none] z2 = T2 at g1 c2 p2 e2
  refine ExO.stG (.ptr 2 0) ⟨[[.int .i64 len, .int .i64 wid, .int .i64 front, .int .i64 rear, .int .i64 turn, .int .i64 kilos, .int .i64 mid, .int .i64 high, .sl (ls.map Ld.av) none], [.int .i64 0, .int .i64 0], zeros102], []⟩ rfl (by kernel_rfl) ?_
  simp only [putA, List.set_cons_zero, List.set_cons_succ]
  (apply ExO.stG; (case hk => rfl); (case hv => (simp [vA, fRes_eq, n0, n1, q1, q2]; first|done|exact ⟨⟨rfl,rfl⟩,rfl⟩|exact ⟨rfl,rfl⟩|exact rfl)); (try simp only [sA]))
  (repeat (first|((first|refine ExO.nil ?_|refine Ex.skip ?_|refine Ex.ret ?_|refine Ex.exit ?_); try dsimp only)|((first|(refine xI ?_; intro _ _)|refine xL ?_|(refine xB ?_; intro _ _)|refine xG ?_|refine xS ?_|refine xM ?_|(refine xC ?_; intro _ _)|refine xW ?_); try simp only [sA])|refine Ex.seq ?_|refine Ex.reg ?_|refine Ex.block ?_|refine eT ?_|refine eF ?_|simp only [reduceCtorEq, AEx.ex.injEq, Nat.reduceEqDiff, if_true, if_false]))
  apply Ex.drawE (only_ok [(55, [.agg T1], .int .i64 (tot (wts kilos mid Ld.klo ls)))]) [] [] []
  case hD =>
    simp only [List.take_succ_cons, List.take_zero]
    (repeat (first | exact DrO.nil rfl | (apply DrO.eff; (case hw => rfl); (case hd => rfl); (case hl => rfl); (case hs => rfl); (case hs' => rfl); (case hv => (simp [vA, fRes_eq, n1, g1, g2]; first|done|exact ⟨⟨rfl,rfl⟩,rfl⟩|exact ⟨rfl,rfl⟩|exact rfl)); (try simp only [sA])) | (apply DrO.pure; (case hw => rfl); (case hd => rfl); (case hv => (simp only [List.mem_cons, List.not_mem_nil, or_false, forall_eq_or_imp, forall_eq]; simp [vA, fRes_eq, n1, g1, g2]; first | done | exact ⟨⟨rfl, rfl⟩, rfl⟩ | exact ⟨rfl, rfl⟩ | exact rfl | (refine ⟨rfl, ?_⟩; first | done | rfl | simp))); (try simp only [sA]))))
    apply DrO.call 55 [.agg T1] (.int .i64 (tot (wts kilos mid Ld.klo ls))) rfl rfl (by simp [aop, evd]) (fun st _ => call_only st rfl (by simp [ren, ren1, AV.plain, AV.plain1, AV.clean, p1, e1]) d1 (by simp) (by simp) (fun n => rfl))
    simp only [putA, List.set_cons_zero, List.set_cons_succ]
    (repeat (first | exact DrO.nil rfl | (apply DrO.eff; (case hw => rfl); (case hd => rfl); (case hl => rfl); (case hs => rfl); (case hs' => rfl); (case hv => (simp [vA, fRes_eq, n1, g1, g2]; first|done|exact ⟨⟨rfl,rfl⟩,rfl⟩|exact ⟨rfl,rfl⟩|exact rfl)); (try simp only [sA])) | (apply DrO.pure; (case hw => rfl); (case hd => rfl); (case hv => (simp only [List.mem_cons, List.not_mem_nil, or_false, forall_eq_or_imp, forall_eq]; simp [vA, fRes_eq, n1, g1, g2]; first | done | exact ⟨⟨rfl, rfl⟩, rfl⟩ | exact ⟨rfl, rfl⟩ | exact rfl | (refine ⟨rfl, ?_⟩; first | done | rfl | simp))); (try simp only [sA]))))
  simp only [List.drop_succ_cons, List.drop_zero, List.getLastD_cons, List.getLastD_nil, List.append_nil, List.cons_append, List.nil_append]
  refine ExO.call (f := 55) (xs := [.agg T2]) (ys := [.agg T2]) (bs := []) (cells := []) (by rfl) (by rfl) (by rfl) (by simp [ren, ren1, AV.plain, AV.plain1, AV.clean, p2, e2]) (by rfl) (by rfl) c2 ?_
  rintro v c' ⟨rfl, rfl⟩
  refine ⟨_, rfl, rfl, ?_⟩
  simp only [List.map_cons, List.map_nil, putA, List.set_cons_zero, List.set_cons_succ, AV.plain, AV.plain1, setAll, List.length_cons, List.length_nil, List.drop_succ_cons, List.drop_zero, List.drop_nil, List.append_nil, Nat.reduceAdd]
  (repeat (first|((first|refine ExO.nil ?_|refine Ex.skip ?_|refine Ex.ret ?_|refine Ex.exit ?_); try dsimp only)|((first|(refine xI ?_; intro _ _)|refine xL ?_|(refine xB ?_; intro _ _)|refine xG ?_|refine xS ?_|refine xM ?_|(refine xC ?_; intro _ _)|refine xW ?_); try simp only [sA])|refine Ex.seq ?_|refine Ex.reg ?_|refine Ex.block ?_|refine eT ?_|refine eF ?_|simp only [reduceCtorEq, AEx.ex.injEq, Nat.reduceEqDiff, if_true, if_false]))
  simp [evRes, evRes1, one, AV.names, takeCells]

set_option maxHeartbeats 4000000 in
theorem Height_m (len wid front rear turn kilos mid high : Int) (hF : FOk ⟨len, wid, front, rear, turn, kilos, mid, high⟩) (ls : List Ld) (hlen : ls.length ≤ 20) (hall : ∀ l ∈ ls, LOk ⟨len, wid, front, rear, turn, kilos, mid, high⟩ l) :
    Does Try.prog 16 [.agg [.int .i64 len, .int .i64 wid, .int .i64 front, .int .i64 rear, .int .i64 turn, .int .i64 kilos, .int .i64 mid, .int .i64 high, .sl (ls.map Ld.av) none]] [] fun v c' => v = .tup [.agg [.int .i64 (hgt high Ld.tlo ls), .int .i64 (hgt high Ld.thi ls)], .int .i64 0] ∧ c' = [] := by
  refine Does.of comp16 ?_
  unfold F16
  simp only [start, List.length_cons, List.length_nil, List.replicate, List.cons_append, List.nil_append, Nat.reduceAdd, Nat.reduceSub]
  (repeat (first|((first|refine ExO.nil ?_|refine Ex.skip ?_|refine Ex.ret ?_|refine Ex.exit ?_); try dsimp only)|((first|(refine xI ?_; intro _ _)|refine xL ?_|(refine xB ?_; intro _ _)|refine xG ?_|refine xS ?_|refine xM ?_|(refine xC ?_; intro _ _)|refine xW ?_); try simp only [sA])|refine Ex.seq ?_|refine Ex.reg ?_|refine Ex.block ?_|refine eT ?_|refine eF ?_|simp only [reduceCtorEq, AEx.ex.injEq, Nat.reduceEqDiff, if_true, if_false]))
  refine ExO.call (f := 53) (xs := [.agg [.int .i64 len, .int .i64 wid, .int .i64 front, .int .i64 rear, .int .i64 turn, .int .i64 kilos, .int .i64 mid, .int .i64 high, .sl (ls.map Ld.av) none]]) (ys := [.agg [.int .i64 len, .int .i64 wid, .int .i64 front, .int .i64 rear, .int .i64 turn, .int .i64 kilos, .int .i64 mid, .int .i64 high, .sl (ls.map Ld.av) none]]) (bs := []) (cells := []) (by rfl) (by rfl) (by rfl) (by simp [ren, ren1, AV.plain, AV.plain1, AV.clean, cleanL, clean_lds]) (by rfl) (by rfl) (check_ok len wid front rear turn kilos mid high hF _ ls (.inl rfl) hlen hall) ?_
  rintro v c' ⟨rfl, rfl⟩
  refine ⟨_, rfl, rfl, ?_⟩
  simp only [List.map_cons, List.map_nil, putA, List.set_cons_zero, List.set_cons_succ, AV.plain, AV.plain1, setAll, List.length_cons, List.length_nil, List.drop_succ_cons, List.drop_zero, List.drop_nil, List.append_nil, Nat.reduceAdd]
  (repeat (first|((first|refine ExO.nil ?_|refine Ex.skip ?_|refine Ex.ret ?_|refine Ex.exit ?_); try dsimp only)|((first|(refine xI ?_; intro _ _)|refine xL ?_|(refine xB ?_; intro _ _)|refine xG ?_|refine xS ?_|refine xM ?_|(refine xC ?_; intro _ _)|refine xW ?_); try simp only [sA])|refine Ex.seq ?_|refine Ex.reg ?_|refine Ex.block ?_|refine eT ?_|refine eF ?_|simp only [reduceCtorEq, AEx.ex.injEq, Nat.reduceEqDiff, if_true, if_false]))
  refine ExO.call (f := 54) (xs := [.agg [.int .i64 len, .int .i64 wid, .int .i64 front, .int .i64 rear, .int .i64 turn, .int .i64 kilos, .int .i64 mid, .int .i64 high, .sl (ls.map Ld.av) none]]) (ys := [.agg [.int .i64 len, .int .i64 wid, .int .i64 front, .int .i64 rear, .int .i64 turn, .int .i64 kilos, .int .i64 mid, .int .i64 high, .sl (ls.map Ld.av) none]]) (bs := []) (cells := []) (by rfl) (by rfl) (by rfl) (by simp [ren, ren1, AV.plain, AV.plain1, AV.clean, cleanL, clean_lds]) (by rfl) (by rfl) (ends_n len wid front rear turn kilos mid high _ ls (.inl rfl) hlen) ?_
  rintro v c' ⟨z1, z2, k1, k2, k3, rfl, rfl⟩
  have hcF : cleanL [.int .i64 len, .int .i64 wid, .int .i64 front, .int .i64 rear, .int .i64 turn, .int .i64 kilos, .int .i64 mid, .int .i64 high, .sl (ls.map Ld.av) none] = true := by simp [cleanL, AV.clean, clean_lds]
  have hpl := endsC_plain [.int .i64 len, .int .i64 wid, .int .i64 front, .int .i64 rear, .int .i64 turn, .int .i64 kilos, .int .i64 mid, .int .i64 high, .sl (ls.map Ld.av) none] z1 z2 rfl
  have hcE := endsC_clean [.int .i64 len, .int .i64 wid, .int .i64 front, .int .i64 rear, .int .i64 turn, .int .i64 kilos, .int .i64 mid, .int .i64 high, .sl (ls.map Ld.av) none] z1 z2 hcF
  refine ⟨.agg (endsC [.int .i64 len, .int .i64 wid, .int .i64 front, .int .i64 rear, .int .i64 turn, .int .i64 kilos, .int .i64 mid, .int .i64 high, .sl (ls.map Ld.av) none] z1 z2), by simp [back, back1, AV.plain, AV.plain1, AV.clean, hpl, hcE], rfl, ?_⟩
  simp only [List.map_cons, List.map_nil, putA, List.set_cons_zero, List.set_cons_succ, AV.plain, AV.plain1, setAll, List.length_cons, List.length_nil, List.drop_succ_cons, List.drop_zero, List.drop_nil, List.append_nil, Nat.reduceAdd]
  have n1 := endsC_len [.int .i64 len, .int .i64 wid, .int .i64 front, .int .i64 rear, .int .i64 turn, .int .i64 kilos, .int .i64 mid, .int .i64 high, .sl (ls.map Ld.av) none] z1 z2 rfl k1 k2
  have n0 : zeros102.length = 102 := endsC_len _ _ _ rfl rfl rfl
  have q1 := endsC_scal [.int .i64 len, .int .i64 wid, .int .i64 front, .int .i64 rear, .int .i64 turn, .int .i64 kilos, .int .i64 mid, .int .i64 high, .sl (ls.map Ld.av) none] z1 z2 (by simp [AV.scalar])
  have q2 := layAt_full zeros102 (endsC [.int .i64 len, .int .i64 wid, .int .i64 front, .int .i64 rear, .int .i64 turn, .int .i64 kilos, .int .i64 mid, .int .i64 high, .sl (ls.map Ld.av) none] z1 z2) (by rw [n0, n1])
  have g1 := ends_hi [.int .i64 len, .int .i64 wid, .int .i64 front, .int .i64 rear, .int .i64 turn, .int .i64 kilos, .int .i64 mid, .int .i64 high, .sl (ls.map Ld.av) none] z1 z2 rfl k1 k2
  have g2 := ends_lo [.int .i64 len, .int .i64 wid, .int .i64 front, .int .i64 rear, .int .i64 turn, .int .i64 kilos, .int .i64 mid, .int .i64 high, .sl (ls.map Ld.av) none] z1 z2 rfl k1
  have c1 := height_m len wid front rear turn kilos mid high Ld.tlo z1 ls hlen k1 (fun j l h => (k3 j (List.getElem?_eq_some_iff.1 h).1 l h).2.1)
  have c2 := height_m len wid front rear turn kilos mid high Ld.thi z2 ls hlen k2 (fun j l h => (k3 j (List.getElem?_eq_some_iff.1 h).1 l h).2.2.2)
  have d1 := Does.det (Nat.le_refl _) c1
  have p1 := trC_plain [.int .i64 len, .int .i64 wid, .int .i64 front, .int .i64 rear, .int .i64 turn, .int .i64 kilos, .int .i64 mid, .int .i64 high, .sl (ls.map Ld.av) none] z1 rfl
  have p2 := trC_plain [.int .i64 len, .int .i64 wid, .int .i64 front, .int .i64 rear, .int .i64 turn, .int .i64 kilos, .int .i64 mid, .int .i64 high, .sl (ls.map Ld.av) none] z2 rfl
  have e1 := trC_clean [.int .i64 len, .int .i64 wid, .int .i64 front, .int .i64 rear, .int .i64 turn, .int .i64 kilos, .int .i64 mid, .int .i64 high, .sl (ls.map Ld.av) none] z1 hcF
  have e2 := trC_clean [.int .i64 len, .int .i64 wid, .int .i64 front, .int .i64 rear, .int .i64 turn, .int .i64 kilos, .int .i64 mid, .int .i64 high, .sl (ls.map Ld.av) none] z2 hcF
  generalize trC [.int .i64 len, .int .i64 wid, .int .i64 front, .int .i64 rear, .int .i64 turn, .int .i64 kilos, .int .i64 mid, .int .i64 high, .sl (ls.map Ld.av) none] z1 = T1 at g2 d1 c1 p1 e1
  generalize trC [.int .i64 len, .int .i64 wid, .int .i64 front, .int .i64 rear, .int .i64 turn, .int .i64 kilos, .int .i64 mid, .int .i64 high, .sl (ls.map Ld.av) none] z2 = T2 at g1 c2 p2 e2
  refine ExO.stG (.ptr 2 0) ⟨[[.int .i64 len, .int .i64 wid, .int .i64 front, .int .i64 rear, .int .i64 turn, .int .i64 kilos, .int .i64 mid, .int .i64 high, .sl (ls.map Ld.av) none], [.int .i64 0, .int .i64 0], zeros102], []⟩ rfl (by kernel_rfl) ?_
  simp only [putA, List.set_cons_zero, List.set_cons_succ]
  (apply ExO.stG; (case hk => rfl); (case hv => (simp [vA, fRes_eq, n0, n1, q1, q2]; first|done|exact ⟨⟨rfl,rfl⟩,rfl⟩|exact ⟨rfl,rfl⟩|exact rfl)); (try simp only [sA]))
  (repeat (first|((first|refine ExO.nil ?_|refine Ex.skip ?_|refine Ex.ret ?_|refine Ex.exit ?_); try dsimp only)|((first|(refine xI ?_; intro _ _)|refine xL ?_|(refine xB ?_; intro _ _)|refine xG ?_|refine xS ?_|refine xM ?_|(refine xC ?_; intro _ _)|refine xW ?_); try simp only [sA])|refine Ex.seq ?_|refine Ex.reg ?_|refine Ex.block ?_|refine eT ?_|refine eF ?_|simp only [reduceCtorEq, AEx.ex.injEq, Nat.reduceEqDiff, if_true, if_false]))
  apply Ex.drawE (only_ok [(59, [.agg T1], .int .i64 (hgt high Ld.tlo ls))]) [] [] []
  case hD =>
    simp only [List.take_succ_cons, List.take_zero]
    (repeat (first | exact DrO.nil rfl | (apply DrO.eff; (case hw => rfl); (case hd => rfl); (case hl => rfl); (case hs => rfl); (case hs' => rfl); (case hv => (simp [vA, fRes_eq, n1, g1, g2]; first|done|exact ⟨⟨rfl,rfl⟩,rfl⟩|exact ⟨rfl,rfl⟩|exact rfl)); (try simp only [sA])) | (apply DrO.pure; (case hw => rfl); (case hd => rfl); (case hv => (simp only [List.mem_cons, List.not_mem_nil, or_false, forall_eq_or_imp, forall_eq]; simp [vA, fRes_eq, n1, g1, g2]; first | done | exact ⟨⟨rfl, rfl⟩, rfl⟩ | exact ⟨rfl, rfl⟩ | exact rfl | (refine ⟨rfl, ?_⟩; first | done | rfl | simp))); (try simp only [sA]))))
    apply DrO.call 59 [.agg T1] (.int .i64 (hgt high Ld.tlo ls)) rfl rfl (by simp [aop, evd]) (fun st _ => call_only st rfl (by simp [ren, ren1, AV.plain, AV.plain1, AV.clean, p1, e1]) d1 (by simp) (by simp) (fun n => rfl))
    simp only [putA, List.set_cons_zero, List.set_cons_succ]
    (repeat (first | exact DrO.nil rfl | (apply DrO.eff; (case hw => rfl); (case hd => rfl); (case hl => rfl); (case hs => rfl); (case hs' => rfl); (case hv => (simp [vA, fRes_eq, n1, g1, g2]; first|done|exact ⟨⟨rfl,rfl⟩,rfl⟩|exact ⟨rfl,rfl⟩|exact rfl)); (try simp only [sA])) | (apply DrO.pure; (case hw => rfl); (case hd => rfl); (case hv => (simp only [List.mem_cons, List.not_mem_nil, or_false, forall_eq_or_imp, forall_eq]; simp [vA, fRes_eq, n1, g1, g2]; first | done | exact ⟨⟨rfl, rfl⟩, rfl⟩ | exact ⟨rfl, rfl⟩ | exact rfl | (refine ⟨rfl, ?_⟩; first | done | rfl | simp))); (try simp only [sA]))))
  simp only [List.drop_succ_cons, List.drop_zero, List.getLastD_cons, List.getLastD_nil, List.append_nil, List.cons_append, List.nil_append]
  refine ExO.call (f := 59) (xs := [.agg T2]) (ys := [.agg T2]) (bs := []) (cells := []) (by rfl) (by rfl) (by rfl) (by simp [ren, ren1, AV.plain, AV.plain1, AV.clean, p2, e2]) (by rfl) (by rfl) c2 ?_
  rintro v c' ⟨rfl, rfl⟩
  refine ⟨_, rfl, rfl, ?_⟩
  simp only [List.map_cons, List.map_nil, putA, List.set_cons_zero, List.set_cons_succ, AV.plain, AV.plain1, setAll, List.length_cons, List.length_nil, List.drop_succ_cons, List.drop_zero, List.drop_nil, List.append_nil, Nat.reduceAdd]
  (repeat (first|((first|refine ExO.nil ?_|refine Ex.skip ?_|refine Ex.ret ?_|refine Ex.exit ?_); try dsimp only)|((first|(refine xI ?_; intro _ _)|refine xL ?_|(refine xB ?_; intro _ _)|refine xG ?_|refine xS ?_|refine xM ?_|(refine xC ?_; intro _ _)|refine xW ?_); try simp only [sA])|refine Ex.seq ?_|refine Ex.reg ?_|refine Ex.block ?_|refine eT ?_|refine eF ?_|simp only [reduceCtorEq, AEx.ex.injEq, Nat.reduceEqDiff, if_true, if_false]))
  simp [evRes, evRes1, one, AV.names, takeCells]
end Go.Proofs.Ytoefpcpijolofaa
end
section
namespace Go.Proofs.Ytoefpcpijolofaa
open Go.RowKit
set_option linter.unusedVariables false
set_option linter.unusedSimpArgs false
set_option maxRecDepth 10000

def parts (n m k : Int) : AV := .agg [.int .i64 (n / k), .int .i64 (-(-m / k))]

set_option maxHeartbeats 4000000 in
theorem Axles_m (len wid front rear turn kilos mid high : Int) (hF : FOk ⟨len, wid, front, rear, turn, kilos, mid, high⟩) (ls : List Ld) (hlen : ls.length ≤ 20) (hall : ∀ l ∈ ls, LOk ⟨len, wid, front, rear, turn, kilos, mid, high⟩ l) (hw1 : ∀ w ∈ wts kilos mid Ld.klo ls, WOk w) (hw2 : ∀ w ∈ wts kilos mid Ld.khi ls, WOk w) :
    Does Try.prog 15 [.agg [.int .i64 len, .int .i64 wid, .int .i64 front, .int .i64 rear, .int .i64 turn, .int .i64 kilos, .int .i64 mid, .int .i64 high, .sl (ls.map Ld.av) none]] [] fun v c' => v = .tup [parts (-mom rear (wts kilos mid Ld.klo ls)) (-mom rear (wts kilos mid Ld.khi ls)) (rear - front), parts (mom front (wts kilos mid Ld.klo ls)) (mom front (wts kilos mid Ld.khi ls)) (rear - front), .int .i64 0] ∧ c' = [] := by
  refine Does.of comp15 ?_
  unfold F15
  have hf : 0 ≤ front ∧ front < rear ∧ rear ≤ 1200 := by
    have := hF
    simp only [FOk] at this
    omega
  obtain ⟨f1, f2, f3⟩ := hf
  have hwr : IntKind.i64.wrap (rear - front) = rear - front := i64_in (by omega) (by omega)
  simp only [start, List.length_cons, List.length_nil, List.replicate, List.cons_append, List.nil_append, Nat.reduceAdd, Nat.reduceSub]
  (repeat (first|((first|refine ExO.nil ?_|refine Ex.skip ?_|refine Ex.ret ?_|refine Ex.exit ?_); try dsimp only)|((first|(refine xI ?_; intro _ _)|refine xL ?_|(refine xB ?_; intro _ _)|refine xG ?_|refine xS ?_|refine xM ?_|(refine xC ?_; intro _ _)|refine xW ?_); try simp only [sA])|refine Ex.seq ?_|refine Ex.reg ?_|refine Ex.block ?_|refine eT ?_|refine eF ?_|simp only [reduceCtorEq, AEx.ex.injEq, Nat.reduceEqDiff, if_true, if_false]))
  refine ExO.call (f := 53) (xs := [.agg [.int .i64 len, .int .i64 wid, .int .i64 front, .int .i64 rear, .int .i64 turn, .int .i64 kilos, .int .i64 mid, .int .i64 high, .sl (ls.map Ld.av) none]]) (ys := [.agg [.int .i64 len, .int .i64 wid, .int .i64 front, .int .i64 rear, .int .i64 turn, .int .i64 kilos, .int .i64 mid, .int .i64 high, .sl (ls.map Ld.av) none]]) (bs := []) (cells := []) (by rfl) (by rfl) (by rfl) (by simp [ren, ren1, AV.plain, AV.plain1, AV.clean, cleanL, clean_lds]) (by rfl) (by rfl) (check_ok len wid front rear turn kilos mid high hF _ ls (.inl rfl) hlen hall) ?_
  rintro v c' ⟨rfl, rfl⟩
  refine ⟨_, rfl, rfl, ?_⟩
  simp only [List.map_cons, List.map_nil, putA, List.set_cons_zero, List.set_cons_succ, AV.plain, AV.plain1, setAll, List.length_cons, List.length_nil, List.drop_succ_cons, List.drop_zero, List.drop_nil, List.append_nil, Nat.reduceAdd]
  (repeat (first|((first|refine ExO.nil ?_|refine Ex.skip ?_|refine Ex.ret ?_|refine Ex.exit ?_); try dsimp only)|((first|(refine xI ?_; intro _ _)|refine xL ?_|(refine xB ?_; intro _ _)|refine xG ?_|refine xS ?_|refine xM ?_|(refine xC ?_; intro _ _)|refine xW ?_); try simp only [sA])|refine Ex.seq ?_|refine Ex.reg ?_|refine Ex.block ?_|refine eT ?_|refine eF ?_|simp only [reduceCtorEq, AEx.ex.injEq, Nat.reduceEqDiff, if_true, if_false]))
  refine ExO.call (f := 54) (xs := [.agg [.int .i64 len, .int .i64 wid, .int .i64 front, .int .i64 rear, .int .i64 turn, .int .i64 kilos, .int .i64 mid, .int .i64 high, .sl (ls.map Ld.av) none]]) (ys := [.agg [.int .i64 len, .int .i64 wid, .int .i64 front, .int .i64 rear, .int .i64 turn, .int .i64 kilos, .int .i64 mid, .int .i64 high, .sl (ls.map Ld.av) none]]) (bs := []) (cells := []) (by rfl) (by rfl) (by rfl) (by simp [ren, ren1, AV.plain, AV.plain1, AV.clean, cleanL, clean_lds]) (by rfl) (by rfl) (ends_n len wid front rear turn kilos mid high _ ls (.inl rfl) hlen) ?_
  rintro v c' ⟨z1, z2, k1, k2, k3, rfl, rfl⟩
  have hcF : cleanL [.int .i64 len, .int .i64 wid, .int .i64 front, .int .i64 rear, .int .i64 turn, .int .i64 kilos, .int .i64 mid, .int .i64 high, .sl (ls.map Ld.av) none] = true := by simp [cleanL, AV.clean, clean_lds]
  have hpl := endsC_plain [.int .i64 len, .int .i64 wid, .int .i64 front, .int .i64 rear, .int .i64 turn, .int .i64 kilos, .int .i64 mid, .int .i64 high, .sl (ls.map Ld.av) none] z1 z2 rfl
  have hcE := endsC_clean [.int .i64 len, .int .i64 wid, .int .i64 front, .int .i64 rear, .int .i64 turn, .int .i64 kilos, .int .i64 mid, .int .i64 high, .sl (ls.map Ld.av) none] z1 z2 hcF
  refine ⟨.agg (endsC [.int .i64 len, .int .i64 wid, .int .i64 front, .int .i64 rear, .int .i64 turn, .int .i64 kilos, .int .i64 mid, .int .i64 high, .sl (ls.map Ld.av) none] z1 z2), by simp [back, back1, AV.plain, AV.plain1, AV.clean, hpl, hcE], rfl, ?_⟩
  simp only [List.map_cons, List.map_nil, putA, List.set_cons_zero, List.set_cons_succ, AV.plain, AV.plain1, setAll, List.length_cons, List.length_nil, List.drop_succ_cons, List.drop_zero, List.drop_nil, List.append_nil, Nat.reduceAdd]
  have n1 := endsC_len [.int .i64 len, .int .i64 wid, .int .i64 front, .int .i64 rear, .int .i64 turn, .int .i64 kilos, .int .i64 mid, .int .i64 high, .sl (ls.map Ld.av) none] z1 z2 rfl k1 k2
  have n0 : zeros102.length = 102 := endsC_len _ _ _ rfl rfl rfl
  have q1 := endsC_scal [.int .i64 len, .int .i64 wid, .int .i64 front, .int .i64 rear, .int .i64 turn, .int .i64 kilos, .int .i64 mid, .int .i64 high, .sl (ls.map Ld.av) none] z1 z2 (by simp [AV.scalar])
  have q2 := layAt_full zeros102 (endsC [.int .i64 len, .int .i64 wid, .int .i64 front, .int .i64 rear, .int .i64 turn, .int .i64 kilos, .int .i64 mid, .int .i64 high, .sl (ls.map Ld.av) none] z1 z2) (by rw [n0, n1])
  have g1 := ends_hi [.int .i64 len, .int .i64 wid, .int .i64 front, .int .i64 rear, .int .i64 turn, .int .i64 kilos, .int .i64 mid, .int .i64 high, .sl (ls.map Ld.av) none] z1 z2 rfl k1 k2
  have g2 := ends_lo [.int .i64 len, .int .i64 wid, .int .i64 front, .int .i64 rear, .int .i64 turn, .int .i64 kilos, .int .i64 mid, .int .i64 high, .sl (ls.map Ld.av) none] z1 z2 rfl k1
  have b1 := Does.det (Nat.le_refl _) (onFront_m len wid front rear turn kilos mid high Ld.klo z1 ls hlen k1 (fun j l h => (k3 j (List.getElem?_eq_some_iff.1 h).1 l h).1) hw1 (by omega) (by omega))
  have b2 := Does.det (Nat.le_refl _) (onFront_m len wid front rear turn kilos mid high Ld.khi z2 ls hlen k2 (fun j l h => (k3 j (List.getElem?_eq_some_iff.1 h).1 l h).2.2.1) hw2 (by omega) (by omega))
  have b3 := Does.det (Nat.le_refl _) (onRear_m len wid front rear turn kilos mid high Ld.klo z1 ls hlen k1 (fun j l h => (k3 j (List.getElem?_eq_some_iff.1 h).1 l h).1) hw1 (by omega) (by omega))
  have b4 := Does.det (Nat.le_refl _) (onRear_m len wid front rear turn kilos mid high Ld.khi z2 ls hlen k2 (fun j l h => (k3 j (List.getElem?_eq_some_iff.1 h).1 l h).2.2.1) hw2 (by omega) (by omega))
  have m1 := mom_in rear (by omega) (by omega) (wts kilos mid Ld.klo ls) hw1
  have m2 := mom_in rear (by omega) (by omega) (wts kilos mid Ld.khi ls) hw2
  have m3 := mom_in front (by omega) (by omega) (wts kilos mid Ld.klo ls) hw1
  have m4 := mom_in front (by omega) (by omega) (wts kilos mid Ld.khi ls) hw2
  rw [wts_len] at m1 m2 m3 m4
  have hx : trC [.int .i64 len, .int .i64 wid, .int .i64 front, .int .i64 rear, .int .i64 turn, .int .i64 kilos, .int .i64 mid, .int .i64 high, .sl (ls.map Ld.av) none] z1 = trC [.int .i64 len, .int .i64 wid, .int .i64 front, .int .i64 rear, .int .i64 turn, .int .i64 kilos, .int .i64 mid, .int .i64 high, .sl (ls.map Ld.av) none] z2 → mom rear (wts kilos mid Ld.klo ls) = mom rear (wts kilos mid Ld.khi ls) ∧ mom front (wts kilos mid Ld.klo ls) = mom front (wts kilos mid Ld.khi ls) := by
    intro h
    have hw : wts kilos mid Ld.klo ls = wts kilos mid Ld.khi ls := by
      unfold wts
      congr 1
      refine List.map_congr_left fun l hl => ?_
      obtain ⟨j, hj⟩ := List.mem_iff_getElem?.1 hl
      obtain ⟨a1, _, a3, _⟩ := k3 j (List.getElem?_eq_some_iff.1 hj).1 l hj
      have t1 := trC_get [.int .i64 len, .int .i64 wid, .int .i64 front, .int .i64 rear, .int .i64 turn, .int .i64 kilos, .int .i64 mid, .int .i64 high, .sl (ls.map Ld.av) none] z1 j _ rfl a1
      have t2 := trC_get [.int .i64 len, .int .i64 wid, .int .i64 front, .int .i64 rear, .int .i64 turn, .int .i64 kilos, .int .i64 mid, .int .i64 high, .sl (ls.map Ld.av) none] z2 j _ rfl a3
      rw [h, t2] at t1
      simp only [Option.some.injEq, AV.int.injEq, true_and] at t1
      rw [t1]
    rw [hw]
    exact ⟨rfl, rfl⟩
  generalize mom rear (wts kilos mid Ld.klo ls) = x1 at b1 m1 hx ⊢
  generalize mom rear (wts kilos mid Ld.khi ls) = x2 at b2 m2 hx ⊢
  generalize mom front (wts kilos mid Ld.klo ls) = x3 at b3 m3 hx ⊢
  generalize mom front (wts kilos mid Ld.khi ls) = x4 at b4 m4 hx ⊢
  have r1 := divided_m (-x1) (-x2) (rear - front) (by omega) (by omega) (by omega) (by omega) (by omega) (by omega)
  have r2 := divided_m x3 x4 (rear - front) (by omega) (by omega) (by omega) (by omega) (by omega) (by omega)
  have p1 := trC_plain [.int .i64 len, .int .i64 wid, .int .i64 front, .int .i64 rear, .int .i64 turn, .int .i64 kilos, .int .i64 mid, .int .i64 high, .sl (ls.map Ld.av) none] z1 rfl
  have p2 := trC_plain [.int .i64 len, .int .i64 wid, .int .i64 front, .int .i64 rear, .int .i64 turn, .int .i64 kilos, .int .i64 mid, .int .i64 high, .sl (ls.map Ld.av) none] z2 rfl
  have e1 := trC_clean [.int .i64 len, .int .i64 wid, .int .i64 front, .int .i64 rear, .int .i64 turn, .int .i64 kilos, .int .i64 mid, .int .i64 high, .sl (ls.map Ld.av) none] z1 hcF
  have e2 := trC_clean [.int .i64 len, .int .i64 wid, .int .i64 front, .int .i64 rear, .int .i64 turn, .int .i64 kilos, .int .i64 mid, .int .i64 high, .sl (ls.map Ld.av) none] z2 hcF
  generalize trC [.int .i64 len, .int .i64 wid, .int .i64 front, .int .i64 rear, .int .i64 turn, .int .i64 kilos, .int .i64 mid, .int .i64 high, .sl (ls.map Ld.av) none] z1 = T1 at g2 b1 b3 p1 e1 hx
  generalize trC [.int .i64 len, .int .i64 wid, .int .i64 front, .int .i64 rear, .int .i64 turn, .int .i64 kilos, .int .i64 mid, .int .i64 high, .sl (ls.map Ld.av) none] z2 = T2 at g1 b2 b4 p2 e2 hx
  refine ExO.stG (.ptr 3 0) ⟨[[.int .i64 len, .int .i64 wid, .int .i64 front, .int .i64 rear, .int .i64 turn, .int .i64 kilos, .int .i64 mid, .int .i64 high, .sl (ls.map Ld.av) none], [.int .i64 0, .int .i64 0], [.int .i64 0, .int .i64 0], zeros102], []⟩ rfl (by kernel_rfl) ?_
  simp only [putA, List.set_cons_zero, List.set_cons_succ]
  (apply ExO.stG; (case hk => rfl); (case hv => (simp [vA, fRes_eq, n0, n1, q1, q2]; first|done|exact ⟨⟨rfl,rfl⟩,rfl⟩|exact ⟨rfl,rfl⟩|exact rfl)); (try simp only [sA]))
  (repeat (first|((first|refine ExO.nil ?_|refine Ex.skip ?_|refine Ex.ret ?_|refine Ex.exit ?_); try dsimp only)|((first|(refine xI ?_; intro _ _)|refine xL ?_|(refine xB ?_; intro _ _)|refine xG ?_|refine xS ?_|refine xM ?_|(refine xC ?_; intro _ _)|refine xW ?_); try simp only [sA])|refine Ex.seq ?_|refine Ex.reg ?_|refine Ex.block ?_|refine eT ?_|refine eF ?_|simp only [reduceCtorEq, AEx.ex.injEq, Nat.reduceEqDiff, if_true, if_false]))
  apply Ex.drawE (only_ok [(57, [.agg T1], .int .i64 (-x1)), (57, [.agg T2], .int .i64 (-x2))]) [] [] []
  case hD =>
    simp only [List.take_succ_cons, List.take_zero]
    (repeat (first | exact DrO.nil rfl | (apply DrO.eff; (case hw => rfl); (case hd => rfl); (case hl => rfl); (case hs => rfl); (case hs' => rfl); (case hv => (simp [vA, fRes_eq, n1, g1, g2]; first|done|exact ⟨⟨rfl,rfl⟩,rfl⟩|exact ⟨rfl,rfl⟩|exact rfl)); (try simp only [sA])) | (apply DrO.pure; (case hw => rfl); (case hd => rfl); (case hv => (simp only [List.mem_cons, List.not_mem_nil, or_false, forall_eq_or_imp, forall_eq]; simp [vA, fRes_eq, n1, g1, g2]; first | done | exact ⟨⟨rfl, rfl⟩, rfl⟩ | exact ⟨rfl, rfl⟩ | exact rfl | (refine ⟨rfl, ?_⟩; first | done | rfl | simp))); (try simp only [sA]))))
    apply DrO.call 57 [.agg T1] (.int .i64 (-x1)) rfl rfl (by simp [aop, evd]) (fun st _ => call_only st rfl (by simp [ren, ren1, AV.plain, AV.plain1, AV.clean, p1, e1]) b1 (by simp) (fun v hv => by
      simp at hv
      rcases hv with rfl | ⟨h, rfl⟩
      · rfl
      · rw [(hx h).1]) (fun n => rfl))
    simp only [putA, List.set_cons_zero, List.set_cons_succ]
    (repeat (first | exact DrO.nil rfl | (apply DrO.eff; (case hw => rfl); (case hd => rfl); (case hl => rfl); (case hs => rfl); (case hs' => rfl); (case hv => (simp [vA, fRes_eq, n1, g1, g2]; first|done|exact ⟨⟨rfl,rfl⟩,rfl⟩|exact ⟨rfl,rfl⟩|exact rfl)); (try simp only [sA])) | (apply DrO.pure; (case hw => rfl); (case hd => rfl); (case hv => (simp only [List.mem_cons, List.not_mem_nil, or_false, forall_eq_or_imp, forall_eq]; simp [vA, fRes_eq, n1, g1, g2]; first | done | exact ⟨⟨rfl, rfl⟩, rfl⟩ | exact ⟨rfl, rfl⟩ | exact rfl | (refine ⟨rfl, ?_⟩; first | done | rfl | simp))); (try simp only [sA]))))
    apply DrO.call 57 [.agg T2] (.int .i64 (-x2)) rfl rfl (by simp [aop, evd]) (fun st _ => call_only st rfl (by simp [ren, ren1, AV.plain, AV.plain1, AV.clean, p2, e2]) b2 (by simp) (fun v hv => by
      simp at hv
      rcases hv with ⟨h, rfl⟩ | rfl
      · rw [(hx h.symm).1]
      · rfl) (fun n => rfl))
    simp only [putA, List.set_cons_zero, List.set_cons_succ]
    (repeat (first | exact DrO.nil rfl | (apply DrO.eff; (case hw => rfl); (case hd => rfl); (case hl => rfl); (case hs => rfl); (case hs' => rfl); (case hv => (simp [vA, fRes_eq, n1, g1, g2, hwr]; first|done|exact ⟨⟨rfl,rfl⟩,rfl⟩|exact ⟨rfl,rfl⟩|exact rfl)); (try simp only [sA])) | (apply DrO.pure; (case hw => rfl); (case hd => rfl); (case hv => (simp only [List.mem_cons, List.not_mem_nil, or_false, forall_eq_or_imp, forall_eq]; simp [vA, fRes_eq, n1, g1, g2, hwr]; first | done | exact ⟨⟨rfl, rfl⟩, rfl⟩ | exact ⟨rfl, rfl⟩ | exact rfl | (refine ⟨rfl, ?_⟩; first | done | rfl | simp))); (try simp only [sA]))))
  simp only [List.drop_succ_cons, List.drop_zero, List.getLastD_cons, List.getLastD_nil, List.append_nil, List.cons_append, List.nil_append]
  refine ExO.call (f := 56) (xs := [.int .i64 (-x1), .int .i64 (-x2), .int .i64 (rear - front)]) (ys := [.int .i64 (-x1), .int .i64 (-x2), .int .i64 (rear - front)]) (bs := []) (cells := []) (by rfl) (by rfl) (by rfl) (by rfl) (by rfl) (by rfl) r1 ?_
  rintro v c' ⟨rfl, rfl⟩
  refine ⟨_, rfl, rfl, ?_⟩
  simp only [List.map_cons, List.map_nil, putA, List.set_cons_zero, List.set_cons_succ, AV.plain, AV.plain1, setAll, List.length_cons, List.length_nil, List.drop_succ_cons, List.drop_zero, List.drop_nil, List.append_nil, Nat.reduceAdd]
  (repeat (first|((first|refine ExO.nil ?_|refine Ex.skip ?_|refine Ex.ret ?_|refine Ex.exit ?_); try dsimp only)|((first|(refine xI ?_; intro _ _)|refine xL ?_|(refine xB ?_; intro _ _)|refine xG ?_|refine xS ?_|refine xM ?_|(refine xC ?_; intro _ _)|refine xW ?_); try simp only [sA])|refine Ex.seq ?_|refine Ex.reg ?_|refine Ex.block ?_|refine eT ?_|refine eF ?_|simp only [reduceCtorEq, AEx.ex.injEq, Nat.reduceEqDiff, if_true, if_false]))
  apply Ex.drawE (only_ok [(58, [.agg T1], .int .i64 (x3)), (58, [.agg T2], .int .i64 (x4))]) [] [] []
  case hD =>
    simp only [List.take_succ_cons, List.take_zero]
    (repeat (first | exact DrO.nil rfl | (apply DrO.eff; (case hw => rfl); (case hd => rfl); (case hl => rfl); (case hs => rfl); (case hs' => rfl); (case hv => (simp [vA, fRes_eq, n1, g1, g2]; first|done|exact ⟨⟨rfl,rfl⟩,rfl⟩|exact ⟨rfl,rfl⟩|exact rfl)); (try simp only [sA])) | (apply DrO.pure; (case hw => rfl); (case hd => rfl); (case hv => (simp only [List.mem_cons, List.not_mem_nil, or_false, forall_eq_or_imp, forall_eq]; simp [vA, fRes_eq, n1, g1, g2]; first | done | exact ⟨⟨rfl, rfl⟩, rfl⟩ | exact ⟨rfl, rfl⟩ | exact rfl | (refine ⟨rfl, ?_⟩; first | done | rfl | simp))); (try simp only [sA]))))
    apply DrO.call 58 [.agg T1] (.int .i64 (x3)) rfl rfl (by simp [aop, evd]) (fun st _ => call_only st rfl (by simp [ren, ren1, AV.plain, AV.plain1, AV.clean, p1, e1]) b3 (by simp) (fun v hv => by
      simp at hv
      rcases hv with rfl | ⟨h, rfl⟩
      · rfl
      · rw [(hx h).2]) (fun n => rfl))
    simp only [putA, List.set_cons_zero, List.set_cons_succ]
    (repeat (first | exact DrO.nil rfl | (apply DrO.eff; (case hw => rfl); (case hd => rfl); (case hl => rfl); (case hs => rfl); (case hs' => rfl); (case hv => (simp [vA, fRes_eq, n1, g1, g2]; first|done|exact ⟨⟨rfl,rfl⟩,rfl⟩|exact ⟨rfl,rfl⟩|exact rfl)); (try simp only [sA])) | (apply DrO.pure; (case hw => rfl); (case hd => rfl); (case hv => (simp only [List.mem_cons, List.not_mem_nil, or_false, forall_eq_or_imp, forall_eq]; simp [vA, fRes_eq, n1, g1, g2]; first | done | exact ⟨⟨rfl, rfl⟩, rfl⟩ | exact ⟨rfl, rfl⟩ | exact rfl | (refine ⟨rfl, ?_⟩; first | done | rfl | simp))); (try simp only [sA]))))
    apply DrO.call 58 [.agg T2] (.int .i64 (x4)) rfl rfl (by simp [aop, evd]) (fun st _ => call_only st rfl (by simp [ren, ren1, AV.plain, AV.plain1, AV.clean, p2, e2]) b4 (by simp) (fun v hv => by
      simp at hv
      rcases hv with ⟨h, rfl⟩ | rfl
      · rw [(hx h.symm).2]
      · rfl) (fun n => rfl))
    simp only [putA, List.set_cons_zero, List.set_cons_succ]
    (repeat (first | exact DrO.nil rfl | (apply DrO.eff; (case hw => rfl); (case hd => rfl); (case hl => rfl); (case hs => rfl); (case hs' => rfl); (case hv => (simp [vA, fRes_eq, n1, g1, g2, hwr]; first|done|exact ⟨⟨rfl,rfl⟩,rfl⟩|exact ⟨rfl,rfl⟩|exact rfl)); (try simp only [sA])) | (apply DrO.pure; (case hw => rfl); (case hd => rfl); (case hv => (simp only [List.mem_cons, List.not_mem_nil, or_false, forall_eq_or_imp, forall_eq]; simp [vA, fRes_eq, n1, g1, g2, hwr]; first | done | exact ⟨⟨rfl, rfl⟩, rfl⟩ | exact ⟨rfl, rfl⟩ | exact rfl | (refine ⟨rfl, ?_⟩; first | done | rfl | simp))); (try simp only [sA]))))
  simp only [List.drop_succ_cons, List.drop_zero, List.getLastD_cons, List.getLastD_nil, List.append_nil, List.cons_append, List.nil_append]
  refine ExO.call (f := 56) (xs := [.int .i64 (x3), .int .i64 (x4), .int .i64 (rear - front)]) (ys := [.int .i64 (x3), .int .i64 (x4), .int .i64 (rear - front)]) (bs := []) (cells := []) (by rfl) (by rfl) (by rfl) (by rfl) (by rfl) (by rfl) r2 ?_
  rintro v c' ⟨rfl, rfl⟩
  refine ⟨_, rfl, rfl, ?_⟩
  simp only [List.map_cons, List.map_nil, putA, List.set_cons_zero, List.set_cons_succ, AV.plain, AV.plain1, setAll, List.length_cons, List.length_nil, List.drop_succ_cons, List.drop_zero, List.drop_nil, List.append_nil, Nat.reduceAdd]
  (repeat (first|((first|refine ExO.nil ?_|refine Ex.skip ?_|refine Ex.ret ?_|refine Ex.exit ?_); try dsimp only)|((first|(refine xI ?_; intro _ _)|refine xL ?_|(refine xB ?_; intro _ _)|refine xG ?_|refine xS ?_|refine xM ?_|(refine xC ?_; intro _ _)|refine xW ?_); try simp only [sA])|refine Ex.seq ?_|refine Ex.reg ?_|refine Ex.block ?_|refine eT ?_|refine eF ?_|simp only [reduceCtorEq, AEx.ex.injEq, Nat.reduceEqDiff, if_true, if_false]))
  apply Ex.drawE (noClr_ok _) [] [] [⟨[[.int .i64 len, .int .i64 wid, .int .i64 front, .int .i64 rear, .int .i64 turn, .int .i64 kilos, .int .i64 mid, .int .i64 high, .sl (ls.map Ld.av) none], [.int .i64 (-x1 / (rear - front)), .int .i64 (-(- -x2 / (rear - front)))], [.int .i64 (x3 / (rear - front)), .int .i64 (-(-x4 / (rear - front)))], endsC [.int .i64 len, .int .i64 wid, .int .i64 front, .int .i64 rear, .int .i64 turn, .int .i64 kilos, .int .i64 mid, .int .i64 high, .sl (ls.map Ld.av) none] z1 z2], []⟩]
  case hD =>
    simp only [List.take_succ_cons, List.take_zero]
    (repeat (first | exact DrO.nil rfl | (apply DrO.eff; (case hw => rfl); (case hd => rfl); (case hl => rfl); (case hs => rfl); (case hs' => rfl); (case hv => (simp [vA, fRes_eq]; first|done|exact ⟨⟨rfl,rfl⟩,rfl⟩|exact ⟨rfl,rfl⟩|exact rfl)); (try simp only [sA])) | (apply DrO.pure; (case hw => rfl); (case hd => rfl); (case hv => (simp only [List.mem_cons, List.not_mem_nil, or_false, forall_eq_or_imp, forall_eq]; simp [vA, fRes_eq]; first | done | exact ⟨⟨rfl, rfl⟩, rfl⟩ | exact ⟨rfl, rfl⟩ | exact rfl | (refine ⟨rfl, ?_⟩; first | done | rfl | simp))); (try simp only [sA]))))
  simp only [List.drop_succ_cons, List.drop_zero, List.getLastD_cons, List.getLastD_nil, List.append_nil, List.cons_append, List.nil_append]
  (repeat (first|((first|refine ExO.nil ?_|refine Ex.skip ?_|refine Ex.ret ?_|refine Ex.exit ?_); try dsimp only)|((first|(refine xI ?_; intro _ _)|refine xL ?_|(refine xB ?_; intro _ _)|refine xG ?_|refine xS ?_|refine xM ?_|(refine xC ?_; intro _ _)|refine xW ?_); try simp only [sA])|refine Ex.seq ?_|refine Ex.reg ?_|refine Ex.block ?_|refine eT ?_|refine eF ?_|simp only [reduceCtorEq, AEx.ex.injEq, Nat.reduceEqDiff, if_true, if_false]))
  simp [evRes, evRes1, one, AV.names, takeCells]
  exact ⟨by simp [parts], rfl⟩
end Go.Proofs.Ytoefpcpijolofaa
end
section
namespace Go.Proofs.Ytoefpcpijolofaa
open Go.RowKit
set_option linter.unusedVariables false
set_option linter.unusedSimpArgs false

theorem wts_ok (f : Fl) (hF : FOk f) (g : Ld → Int) (hg : ∀ l, LOk f l → 0 ≤ g l ∧ g l ≤ 10000) (ls : List Ld) (hall : ∀ l ∈ ls, LOk f l) : ∀ w ∈ wts f.kilos f.mid g ls, WOk w := by
  intro w hw
  unfold FOk at hF
  simp only [wts, List.mem_cons, List.mem_map] at hw
  rcases hw with rfl | ⟨l, hl, rfl⟩
  · refine ⟨?_, ?_, ?_, ?_⟩ <;> simp only <;> omega
  · have h1 := hg l (hall l hl)
    have h2 := hall l hl
    unfold LOk at h2
    refine ⟨h1.1, h1.2, ?_, ?_⟩ <;> simp only <;> omega
theorem klo_ok (f : Fl) (l : Ld) (h : LOk f l) : 0 ≤ l.klo ∧ l.klo ≤ 10000 := by unfold LOk at h; omega
theorem khi_ok (f : Fl) (l : Ld) (h : LOk f l) : 0 ≤ l.khi ∧ l.khi ≤ 10000 := by unfold LOk at h; omega
end Go.Proofs.Ytoefpcpijolofaa
end
section
namespace Go.Proofs.Ytoefpcpijolofaa
open Go.RowKit
set_option linter.unusedVariables false
set_option linter.unusedSimpArgs false
set_option maxRecDepth 10000
set_option maxHeartbeats 4000000

theorem ren_tav (ks ts : List Int) : ren [] (TAV ks ts) = some (TAV ks ts) := by simp [TAV, IL, ren, ren1, AV.plain, AV.plain1, AV.clean, cleanL, clean_ints]
theorem back_tav (ks ts : List Int) (n : Nat) : back 0 0 n (TAV ks ts) = some (TAV ks ts) := by simp [TAV, IL, back, back1, AV.plain, AV.plain1, AV.clean, cleanL, clean_ints]
theorem ren_fl (len wid front rear turn kilos mid high : Int) (ls : List Ld) : ren [] (.agg [.int .i64 len, .int .i64 wid, .int .i64 front, .int .i64 rear, .int .i64 turn, .int .i64 kilos, .int .i64 mid, .int .i64 high, .sl (ls.map Ld.av) none]) = some (.agg [.int .i64 len, .int .i64 wid, .int .i64 front, .int .i64 rear, .int .i64 turn, .int .i64 kilos, .int .i64 mid, .int .i64 high, .sl (ls.map Ld.av) none]) := by simp [ren, ren1, AV.plain, AV.plain1, AV.clean, cleanL, clean_lds]
theorem wtk_map (kilos mid : Int) (g : Ld → Int) (ls : List Ld) : wtk kilos mid (ls.map g) ls = wts kilos mid g ls := by
  unfold wtk wts
  congr 1
  induction ls with
  | nil => rfl
  | cons l ls ih => simp only [List.map_cons, List.zipWith_cons_cons, ih]
theorem hgk_map (high : Int) (g : Ld → Int) (ls : List Ld) : hgk high (ls.map g) = hgt high g ls := by
  unfold hgk hgt
  rw [List.foldl_map]

theorem TotalR_m (len wid front rear turn kilos mid high : Int) (hF : FOk ⟨len, wid, front, rear, turn, kilos, mid, high⟩) (ls : List Ld) (hlen : ls.length ≤ 20) (hall : ∀ l ∈ ls, LOk ⟨len, wid, front, rear, turn, kilos, mid, high⟩ l) : Does Try.prog 50 [.agg [.int .i64 len, .int .i64 wid, .int .i64 front, .int .i64 rear, .int .i64 turn, .int .i64 kilos, .int .i64 mid, .int .i64 high, .sl (ls.map Ld.av) none]] [] fun v c' => v = .tup [.agg [.int .i64 (tot (wts kilos mid Ld.klo ls)), .int .i64 (tot (wts kilos mid Ld.khi ls))], .int .i64 0] ∧ c' = [] := by
  have hF' : 2 ≤ len ∧ len ≤ 1200 ∧ 1 ≤ wid ∧ wid ≤ 400 ∧ 0 ≤ front ∧ front < rear ∧ rear ≤ len ∧ 0 ≤ turn ∧ turn < 1500 ∧ 0 ≤ kilos ∧ kilos < 5000 ∧ 0 ≤ mid ∧ mid ≤ len ∧ 0 ≤ high ∧ high < 500 := hF
  have hw1 := wts_ok _ hF Ld.klo (klo_ok _) ls hall
  have hw2 := wts_ok _ hF Ld.khi (khi_ok _) ls hall
  simp only [] at hw1 hw2
  have cl : Contract Try.prog 78 [.agg [.int .i64 len, .int .i64 wid, .int .i64 front, .int .i64 rear, .int .i64 turn, .int .i64 kilos, .int .i64 mid, .int .i64 high, .sl (ls.map Ld.av) none]] [] (TAV (ls.map Ld.klo) (ls.map Ld.tlo)) [] := Does.det (Nat.le_refl _) (least_m len wid front rear turn kilos mid high ls hlen)
  have cg : Contract Try.prog 79 [.agg [.int .i64 len, .int .i64 wid, .int .i64 front, .int .i64 rear, .int .i64 turn, .int .i64 kilos, .int .i64 mid, .int .i64 high, .sl (ls.map Ld.av) none]] [] (TAV (ls.map Ld.khi) (ls.map Ld.thi)) [] := Does.det (Nat.le_refl _) (greatest_m len wid front rear turn kilos mid high ls hlen)
  have c1 : Contract Try.prog 22 [.agg [.int .i64 len, .int .i64 wid, .int .i64 front, .int .i64 rear, .int .i64 turn, .int .i64 kilos, .int .i64 mid, .int .i64 high, .sl (ls.map Ld.av) none], (TAV (ls.map Ld.klo) (ls.map Ld.tlo))] [] (.int .i64 (tot (wts kilos mid Ld.klo ls))) [] := by
    have := weighs_m len wid front rear turn kilos mid high ls (ls.map Ld.klo) (ls.map Ld.tlo) hlen (by simp) (by rw [wtk_map]; exact hw1)
    rw [wtk_map] at this
    exact Does.det (Nat.le_refl _) this
  have c2 : Does Try.prog 22 [.agg [.int .i64 len, .int .i64 wid, .int .i64 front, .int .i64 rear, .int .i64 turn, .int .i64 kilos, .int .i64 mid, .int .i64 high, .sl (ls.map Ld.av) none], (TAV (ls.map Ld.khi) (ls.map Ld.thi))] [] fun v c' => v = (.int .i64 (tot (wts kilos mid Ld.khi ls))) ∧ c' = [] := by
    have := weighs_m len wid front rear turn kilos mid high ls (ls.map Ld.khi) (ls.map Ld.thi) hlen (by simp) (by rw [wtk_map]; exact hw2)
    rw [wtk_map] at this
    exact this
  refine Does.of comp50 ?_
  unfold F50
  simp only [start, List.length_cons, List.length_nil, List.replicate, List.cons_append, List.nil_append, Nat.reduceAdd, Nat.reduceSub]
  (repeat (first|((first|refine ExO.nil ?_|refine Ex.skip ?_|refine Ex.ret ?_|refine Ex.exit ?_); try dsimp only)|((first|(refine xI ?_; intro _ _)|refine xL ?_|(refine xB ?_; intro _ _)|refine xG ?_|refine xS ?_|refine xM ?_|(refine xC ?_; intro _ _)|refine xW ?_); try simp only [sA])|refine Ex.seq ?_|refine Ex.reg ?_|refine Ex.block ?_|refine eT ?_|refine eF ?_|simp only [reduceCtorEq, AEx.ex.injEq, Nat.reduceEqDiff, if_true, if_false]))
  refine ExO.call (f := 77) (xs := [.agg [.int .i64 len, .int .i64 wid, .int .i64 front, .int .i64 rear, .int .i64 turn, .int .i64 kilos, .int .i64 mid, .int .i64 high, .sl (ls.map Ld.av) none]]) (ys := [.agg [.int .i64 len, .int .i64 wid, .int .i64 front, .int .i64 rear, .int .i64 turn, .int .i64 kilos, .int .i64 mid, .int .i64 high, .sl (ls.map Ld.av) none]]) (bs := []) (cells := []) (by rfl) (by rfl) (by rfl) (by simp [ren_fl]) (by rfl) (by rfl) (rcheck_ok len wid front rear turn kilos mid high hF ls hlen hall) ?_
  rintro v c' ⟨rfl, rfl⟩
  refine ⟨_, rfl, rfl, ?_⟩
  simp only [List.map_cons, List.map_nil, putA, List.set_cons_zero, List.set_cons_succ, AV.plain, AV.plain1, setAll, List.length_cons, List.length_nil, List.drop_succ_cons, List.drop_zero, List.drop_nil, List.append_nil, Nat.reduceAdd]
  (repeat (first|((first|refine ExO.nil ?_|refine Ex.skip ?_|refine Ex.ret ?_|refine Ex.exit ?_); try dsimp only)|((first|(refine xI ?_; intro _ _)|refine xL ?_|(refine xB ?_; intro _ _)|refine xG ?_|refine xS ?_|refine xM ?_|(refine xC ?_; intro _ _)|refine xW ?_); try simp only [sA])|refine Ex.seq ?_|refine Ex.reg ?_|refine Ex.block ?_|refine eT ?_|refine eF ?_|simp only [reduceCtorEq, AEx.ex.injEq, Nat.reduceEqDiff, if_true, if_false]))
  apply Ex.drawE (only_ok [(78, [.agg [.int .i64 len, .int .i64 wid, .int .i64 front, .int .i64 rear, .int .i64 turn, .int .i64 kilos, .int .i64 mid, .int .i64 high, .sl (ls.map Ld.av) none]], (TAV (ls.map Ld.klo) (ls.map Ld.tlo))), (22, [.agg [.int .i64 len, .int .i64 wid, .int .i64 front, .int .i64 rear, .int .i64 turn, .int .i64 kilos, .int .i64 mid, .int .i64 high, .sl (ls.map Ld.av) none], (TAV (ls.map Ld.klo) (ls.map Ld.tlo))], .int .i64 (tot (wts kilos mid Ld.klo ls))), (79, [.agg [.int .i64 len, .int .i64 wid, .int .i64 front, .int .i64 rear, .int .i64 turn, .int .i64 kilos, .int .i64 mid, .int .i64 high, .sl (ls.map Ld.av) none]], (TAV (ls.map Ld.khi) (ls.map Ld.thi)))]) [] [] []
  case hD =>
    simp only [List.take_succ_cons, List.take_zero, List.append_nil]
    (apply DrO.pure; (case hw => rfl); (case hd => rfl); (case hv => (simp only [List.mem_cons, List.not_mem_nil, or_false, forall_eq_or_imp, forall_eq]; simp [vA, fRes_eq]; first | done | exact ⟨⟨rfl, rfl⟩, rfl⟩ | exact ⟨rfl, rfl⟩ | exact rfl | (refine ⟨rfl, ?_⟩; first | done | rfl | simp))); (try simp only [sA]))
    (apply DrO.pure; (case hw => rfl); (case hd => rfl); (case hv => (simp only [List.mem_cons, List.not_mem_nil, or_false, forall_eq_or_imp, forall_eq]; simp [vA, fRes_eq]; first | done | exact ⟨⟨rfl, rfl⟩, rfl⟩ | exact ⟨rfl, rfl⟩ | exact rfl | (refine ⟨rfl, ?_⟩; first | done | rfl | simp))); (try simp only [sA]))
    apply DrO.call 78 [.agg [.int .i64 len, .int .i64 wid, .int .i64 front, .int .i64 rear, .int .i64 turn, .int .i64 kilos, .int .i64 mid, .int .i64 high, .sl (ls.map Ld.av) none]] (TAV (ls.map Ld.klo) (ls.map Ld.tlo)) rfl rfl (by simp [aop, evd]) (fun st _ => call_only st rfl (by simp [ren_fl]) cl (by simp) (by simp) (fun n => back_tav _ _ n))
    simp only [putA, List.set_cons_zero, List.set_cons_succ]
    apply DrO.call 22 [.agg [.int .i64 len, .int .i64 wid, .int .i64 front, .int .i64 rear, .int .i64 turn, .int .i64 kilos, .int .i64 mid, .int .i64 high, .sl (ls.map Ld.av) none], (TAV (ls.map Ld.klo) (ls.map Ld.tlo))] (.int .i64 (tot (wts kilos mid Ld.klo ls))) rfl rfl (by simp [aop, evd]) (fun st _ => call_only st rfl (by simp [ren_fl, ren_tav]) c1 (by simp) (by simp) (fun n => rfl))
    simp only [putA, List.set_cons_zero, List.set_cons_succ]
    (apply DrO.pure; (case hw => rfl); (case hd => rfl); (case hv => (simp only [List.mem_cons, List.not_mem_nil, or_false, forall_eq_or_imp, forall_eq]; simp [vA, fRes_eq]; first | done | exact ⟨⟨rfl, rfl⟩, rfl⟩ | exact ⟨rfl, rfl⟩ | exact rfl | (refine ⟨rfl, ?_⟩; first | done | rfl | simp))); (try simp only [sA]))
    (apply DrO.pure; (case hw => rfl); (case hd => rfl); (case hv => (simp only [List.mem_cons, List.not_mem_nil, or_false, forall_eq_or_imp, forall_eq]; simp [vA, fRes_eq]; first | done | exact ⟨⟨rfl, rfl⟩, rfl⟩ | exact ⟨rfl, rfl⟩ | exact rfl | (refine ⟨rfl, ?_⟩; first | done | rfl | simp))); (try simp only [sA]))
    apply DrO.call 79 [.agg [.int .i64 len, .int .i64 wid, .int .i64 front, .int .i64 rear, .int .i64 turn, .int .i64 kilos, .int .i64 mid, .int .i64 high, .sl (ls.map Ld.av) none]] (TAV (ls.map Ld.khi) (ls.map Ld.thi)) rfl rfl (by simp [aop, evd]) (fun st _ => call_only st rfl (by simp [ren_fl]) cg (by simp) (by simp) (fun n => back_tav _ _ n))
    simp only [putA, List.set_cons_zero, List.set_cons_succ]
    exact DrO.nil rfl
  simp only [List.drop_succ_cons, List.drop_zero, List.getLastD_cons, List.getLastD_nil, List.append_nil, List.cons_append, List.nil_append]
  refine ExO.call (f := 22) (xs := [.agg [.int .i64 len, .int .i64 wid, .int .i64 front, .int .i64 rear, .int .i64 turn, .int .i64 kilos, .int .i64 mid, .int .i64 high, .sl (ls.map Ld.av) none], (TAV (ls.map Ld.khi) (ls.map Ld.thi))]) (ys := [.agg [.int .i64 len, .int .i64 wid, .int .i64 front, .int .i64 rear, .int .i64 turn, .int .i64 kilos, .int .i64 mid, .int .i64 high, .sl (ls.map Ld.av) none], (TAV (ls.map Ld.khi) (ls.map Ld.thi))]) (bs := []) (cells := []) (by rfl) (by rfl) (by rfl) (by simp [ren_fl, ren_tav]) (by rfl) (by rfl) c2 ?_
  rintro v c' ⟨rfl, rfl⟩
  refine ⟨_, rfl, rfl, ?_⟩
  simp only [List.map_cons, List.map_nil, putA, List.set_cons_zero, List.set_cons_succ, AV.plain, AV.plain1, setAll, List.length_cons, List.length_nil, List.drop_succ_cons, List.drop_zero, List.drop_nil, List.append_nil, Nat.reduceAdd]
  (repeat (first|((first|refine ExO.nil ?_|refine Ex.skip ?_|refine Ex.ret ?_|refine Ex.exit ?_); try dsimp only)|((first|(refine xI ?_; intro _ _)|refine xL ?_|(refine xB ?_; intro _ _)|refine xG ?_|refine xS ?_|refine xM ?_|(refine xC ?_; intro _ _)|refine xW ?_); try simp only [sA])|refine Ex.seq ?_|refine Ex.reg ?_|refine Ex.block ?_|refine eT ?_|refine eF ?_|simp only [reduceCtorEq, AEx.ex.injEq, Nat.reduceEqDiff, if_true, if_false]))
  simp [evRes, evRes1, one, AV.names, takeCells]

theorem HeightR_m (len wid front rear turn kilos mid high : Int) (hF : FOk ⟨len, wid, front, rear, turn, kilos, mid, high⟩) (ls : List Ld) (hlen : ls.length ≤ 20) (hall : ∀ l ∈ ls, LOk ⟨len, wid, front, rear, turn, kilos, mid, high⟩ l) : Does Try.prog 52 [.agg [.int .i64 len, .int .i64 wid, .int .i64 front, .int .i64 rear, .int .i64 turn, .int .i64 kilos, .int .i64 mid, .int .i64 high, .sl (ls.map Ld.av) none]] [] fun v c' => v = .tup [.agg [.int .i64 (hgt high Ld.tlo ls), .int .i64 (hgt high Ld.thi ls)], .int .i64 0] ∧ c' = [] := by
  have hF' : 2 ≤ len ∧ len ≤ 1200 ∧ 1 ≤ wid ∧ wid ≤ 400 ∧ 0 ≤ front ∧ front < rear ∧ rear ≤ len ∧ 0 ≤ turn ∧ turn < 1500 ∧ 0 ≤ kilos ∧ kilos < 5000 ∧ 0 ≤ mid ∧ mid ≤ len ∧ 0 ≤ high ∧ high < 500 := hF
  have hw1 := wts_ok _ hF Ld.klo (klo_ok _) ls hall
  have hw2 := wts_ok _ hF Ld.khi (khi_ok _) ls hall
  simp only [] at hw1 hw2
  have cl : Contract Try.prog 78 [.agg [.int .i64 len, .int .i64 wid, .int .i64 front, .int .i64 rear, .int .i64 turn, .int .i64 kilos, .int .i64 mid, .int .i64 high, .sl (ls.map Ld.av) none]] [] (TAV (ls.map Ld.klo) (ls.map Ld.tlo)) [] := Does.det (Nat.le_refl _) (least_m len wid front rear turn kilos mid high ls hlen)
  have cg : Contract Try.prog 79 [.agg [.int .i64 len, .int .i64 wid, .int .i64 front, .int .i64 rear, .int .i64 turn, .int .i64 kilos, .int .i64 mid, .int .i64 high, .sl (ls.map Ld.av) none]] [] (TAV (ls.map Ld.khi) (ls.map Ld.thi)) [] := Does.det (Nat.le_refl _) (greatest_m len wid front rear turn kilos mid high ls hlen)
  have c1 : Contract Try.prog 23 [.agg [.int .i64 len, .int .i64 wid, .int .i64 front, .int .i64 rear, .int .i64 turn, .int .i64 kilos, .int .i64 mid, .int .i64 high, .sl (ls.map Ld.av) none], (TAV (ls.map Ld.klo) (ls.map Ld.tlo))] [] (.int .i64 (hgt high Ld.tlo ls)) [] := by
    have := tall_m len wid front rear turn kilos mid high ls (ls.map Ld.klo) (ls.map Ld.tlo) (by simp; omega)
    rw [hgk_map] at this
    exact Does.det (Nat.le_refl _) this
  have c2 : Does Try.prog 23 [.agg [.int .i64 len, .int .i64 wid, .int .i64 front, .int .i64 rear, .int .i64 turn, .int .i64 kilos, .int .i64 mid, .int .i64 high, .sl (ls.map Ld.av) none], (TAV (ls.map Ld.khi) (ls.map Ld.thi))] [] fun v c' => v = (.int .i64 (hgt high Ld.thi ls)) ∧ c' = [] := by
    have := tall_m len wid front rear turn kilos mid high ls (ls.map Ld.khi) (ls.map Ld.thi) (by simp; omega)
    rw [hgk_map] at this
    exact this
  refine Does.of comp52 ?_
  unfold F52
  simp only [start, List.length_cons, List.length_nil, List.replicate, List.cons_append, List.nil_append, Nat.reduceAdd, Nat.reduceSub]
  (repeat (first|((first|refine ExO.nil ?_|refine Ex.skip ?_|refine Ex.ret ?_|refine Ex.exit ?_); try dsimp only)|((first|(refine xI ?_; intro _ _)|refine xL ?_|(refine xB ?_; intro _ _)|refine xG ?_|refine xS ?_|refine xM ?_|(refine xC ?_; intro _ _)|refine xW ?_); try simp only [sA])|refine Ex.seq ?_|refine Ex.reg ?_|refine Ex.block ?_|refine eT ?_|refine eF ?_|simp only [reduceCtorEq, AEx.ex.injEq, Nat.reduceEqDiff, if_true, if_false]))
  refine ExO.call (f := 77) (xs := [.agg [.int .i64 len, .int .i64 wid, .int .i64 front, .int .i64 rear, .int .i64 turn, .int .i64 kilos, .int .i64 mid, .int .i64 high, .sl (ls.map Ld.av) none]]) (ys := [.agg [.int .i64 len, .int .i64 wid, .int .i64 front, .int .i64 rear, .int .i64 turn, .int .i64 kilos, .int .i64 mid, .int .i64 high, .sl (ls.map Ld.av) none]]) (bs := []) (cells := []) (by rfl) (by rfl) (by rfl) (by simp [ren_fl]) (by rfl) (by rfl) (rcheck_ok len wid front rear turn kilos mid high hF ls hlen hall) ?_
  rintro v c' ⟨rfl, rfl⟩
  refine ⟨_, rfl, rfl, ?_⟩
  simp only [List.map_cons, List.map_nil, putA, List.set_cons_zero, List.set_cons_succ, AV.plain, AV.plain1, setAll, List.length_cons, List.length_nil, List.drop_succ_cons, List.drop_zero, List.drop_nil, List.append_nil, Nat.reduceAdd]
  (repeat (first|((first|refine ExO.nil ?_|refine Ex.skip ?_|refine Ex.ret ?_|refine Ex.exit ?_); try dsimp only)|((first|(refine xI ?_; intro _ _)|refine xL ?_|(refine xB ?_; intro _ _)|refine xG ?_|refine xS ?_|refine xM ?_|(refine xC ?_; intro _ _)|refine xW ?_); try simp only [sA])|refine Ex.seq ?_|refine Ex.reg ?_|refine Ex.block ?_|refine eT ?_|refine eF ?_|simp only [reduceCtorEq, AEx.ex.injEq, Nat.reduceEqDiff, if_true, if_false]))
  apply Ex.drawE (only_ok [(78, [.agg [.int .i64 len, .int .i64 wid, .int .i64 front, .int .i64 rear, .int .i64 turn, .int .i64 kilos, .int .i64 mid, .int .i64 high, .sl (ls.map Ld.av) none]], (TAV (ls.map Ld.klo) (ls.map Ld.tlo))), (23, [.agg [.int .i64 len, .int .i64 wid, .int .i64 front, .int .i64 rear, .int .i64 turn, .int .i64 kilos, .int .i64 mid, .int .i64 high, .sl (ls.map Ld.av) none], (TAV (ls.map Ld.klo) (ls.map Ld.tlo))], .int .i64 (hgt high Ld.tlo ls)), (79, [.agg [.int .i64 len, .int .i64 wid, .int .i64 front, .int .i64 rear, .int .i64 turn, .int .i64 kilos, .int .i64 mid, .int .i64 high, .sl (ls.map Ld.av) none]], (TAV (ls.map Ld.khi) (ls.map Ld.thi)))]) [] [] []
  case hD =>
    simp only [List.take_succ_cons, List.take_zero, List.append_nil]
    (apply DrO.pure; (case hw => rfl); (case hd => rfl); (case hv => (simp only [List.mem_cons, List.not_mem_nil, or_false, forall_eq_or_imp, forall_eq]; simp [vA, fRes_eq]; first | done | exact ⟨⟨rfl, rfl⟩, rfl⟩ | exact ⟨rfl, rfl⟩ | exact rfl | (refine ⟨rfl, ?_⟩; first | done | rfl | simp))); (try simp only [sA]))
    (apply DrO.pure; (case hw => rfl); (case hd => rfl); (case hv => (simp only [List.mem_cons, List.not_mem_nil, or_false, forall_eq_or_imp, forall_eq]; simp [vA, fRes_eq]; first | done | exact ⟨⟨rfl, rfl⟩, rfl⟩ | exact ⟨rfl, rfl⟩ | exact rfl | (refine ⟨rfl, ?_⟩; first | done | rfl | simp))); (try simp only [sA]))
    apply DrO.call 78 [.agg [.int .i64 len, .int .i64 wid, .int .i64 front, .int .i64 rear, .int .i64 turn, .int .i64 kilos, .int .i64 mid, .int .i64 high, .sl (ls.map Ld.av) none]] (TAV (ls.map Ld.klo) (ls.map Ld.tlo)) rfl rfl (by simp [aop, evd]) (fun st _ => call_only st rfl (by simp [ren_fl]) cl (by simp) (by simp) (fun n => back_tav _ _ n))
    simp only [putA, List.set_cons_zero, List.set_cons_succ]
    apply DrO.call 23 [.agg [.int .i64 len, .int .i64 wid, .int .i64 front, .int .i64 rear, .int .i64 turn, .int .i64 kilos, .int .i64 mid, .int .i64 high, .sl (ls.map Ld.av) none], (TAV (ls.map Ld.klo) (ls.map Ld.tlo))] (.int .i64 (hgt high Ld.tlo ls)) rfl rfl (by simp [aop, evd]) (fun st _ => call_only st rfl (by simp [ren_fl, ren_tav]) c1 (by simp) (by simp) (fun n => rfl))
    simp only [putA, List.set_cons_zero, List.set_cons_succ]
    (apply DrO.pure; (case hw => rfl); (case hd => rfl); (case hv => (simp only [List.mem_cons, List.not_mem_nil, or_false, forall_eq_or_imp, forall_eq]; simp [vA, fRes_eq]; first | done | exact ⟨⟨rfl, rfl⟩, rfl⟩ | exact ⟨rfl, rfl⟩ | exact rfl | (refine ⟨rfl, ?_⟩; first | done | rfl | simp))); (try simp only [sA]))
    (apply DrO.pure; (case hw => rfl); (case hd => rfl); (case hv => (simp only [List.mem_cons, List.not_mem_nil, or_false, forall_eq_or_imp, forall_eq]; simp [vA, fRes_eq]; first | done | exact ⟨⟨rfl, rfl⟩, rfl⟩ | exact ⟨rfl, rfl⟩ | exact rfl | (refine ⟨rfl, ?_⟩; first | done | rfl | simp))); (try simp only [sA]))
    apply DrO.call 79 [.agg [.int .i64 len, .int .i64 wid, .int .i64 front, .int .i64 rear, .int .i64 turn, .int .i64 kilos, .int .i64 mid, .int .i64 high, .sl (ls.map Ld.av) none]] (TAV (ls.map Ld.khi) (ls.map Ld.thi)) rfl rfl (by simp [aop, evd]) (fun st _ => call_only st rfl (by simp [ren_fl]) cg (by simp) (by simp) (fun n => back_tav _ _ n))
    simp only [putA, List.set_cons_zero, List.set_cons_succ]
    exact DrO.nil rfl
  simp only [List.drop_succ_cons, List.drop_zero, List.getLastD_cons, List.getLastD_nil, List.append_nil, List.cons_append, List.nil_append]
  refine ExO.call (f := 23) (xs := [.agg [.int .i64 len, .int .i64 wid, .int .i64 front, .int .i64 rear, .int .i64 turn, .int .i64 kilos, .int .i64 mid, .int .i64 high, .sl (ls.map Ld.av) none], (TAV (ls.map Ld.khi) (ls.map Ld.thi))]) (ys := [.agg [.int .i64 len, .int .i64 wid, .int .i64 front, .int .i64 rear, .int .i64 turn, .int .i64 kilos, .int .i64 mid, .int .i64 high, .sl (ls.map Ld.av) none], (TAV (ls.map Ld.khi) (ls.map Ld.thi))]) (bs := []) (cells := []) (by rfl) (by rfl) (by rfl) (by simp [ren_fl, ren_tav]) (by rfl) (by rfl) c2 ?_
  rintro v c' ⟨rfl, rfl⟩
  refine ⟨_, rfl, rfl, ?_⟩
  simp only [List.map_cons, List.map_nil, putA, List.set_cons_zero, List.set_cons_succ, AV.plain, AV.plain1, setAll, List.length_cons, List.length_nil, List.drop_succ_cons, List.drop_zero, List.drop_nil, List.append_nil, Nat.reduceAdd]
  (repeat (first|((first|refine ExO.nil ?_|refine Ex.skip ?_|refine Ex.ret ?_|refine Ex.exit ?_); try dsimp only)|((first|(refine xI ?_; intro _ _)|refine xL ?_|(refine xB ?_; intro _ _)|refine xG ?_|refine xS ?_|refine xM ?_|(refine xC ?_; intro _ _)|refine xW ?_); try simp only [sA])|refine Ex.seq ?_|refine Ex.reg ?_|refine Ex.block ?_|refine eT ?_|refine eF ?_|simp only [reduceCtorEq, AEx.ex.injEq, Nat.reduceEqDiff, if_true, if_false]))
  simp [evRes, evRes1, one, AV.names, takeCells]

theorem AxlesR_m (len wid front rear turn kilos mid high : Int) (hF : FOk ⟨len, wid, front, rear, turn, kilos, mid, high⟩) (ls : List Ld) (hlen : ls.length ≤ 20) (hall : ∀ l ∈ ls, LOk ⟨len, wid, front, rear, turn, kilos, mid, high⟩ l) : Does Try.prog 51 [.agg [.int .i64 len, .int .i64 wid, .int .i64 front, .int .i64 rear, .int .i64 turn, .int .i64 kilos, .int .i64 mid, .int .i64 high, .sl (ls.map Ld.av) none]] [] fun v c' => v = .tup [parts (-mom rear (wts kilos mid Ld.klo ls)) (-mom rear (wts kilos mid Ld.khi ls)) (rear - front), parts (mom front (wts kilos mid Ld.klo ls)) (mom front (wts kilos mid Ld.khi ls)) (rear - front), .int .i64 0] ∧ c' = [] := by
  have hF' : 2 ≤ len ∧ len ≤ 1200 ∧ 1 ≤ wid ∧ wid ≤ 400 ∧ 0 ≤ front ∧ front < rear ∧ rear ≤ len ∧ 0 ≤ turn ∧ turn < 1500 ∧ 0 ≤ kilos ∧ kilos < 5000 ∧ 0 ≤ mid ∧ mid ≤ len ∧ 0 ≤ high ∧ high < 500 := hF
  have hw1 := wts_ok _ hF Ld.klo (klo_ok _) ls hall
  have hw2 := wts_ok _ hF Ld.khi (khi_ok _) ls hall
  simp only [] at hw1 hw2
  have cl : Contract Try.prog 78 [.agg [.int .i64 len, .int .i64 wid, .int .i64 front, .int .i64 rear, .int .i64 turn, .int .i64 kilos, .int .i64 mid, .int .i64 high, .sl (ls.map Ld.av) none]] [] (TAV (ls.map Ld.klo) (ls.map Ld.tlo)) [] := Does.det (Nat.le_refl _) (least_m len wid front rear turn kilos mid high ls hlen)
  have cg : Contract Try.prog 79 [.agg [.int .i64 len, .int .i64 wid, .int .i64 front, .int .i64 rear, .int .i64 turn, .int .i64 kilos, .int .i64 mid, .int .i64 high, .sl (ls.map Ld.av) none]] [] (TAV (ls.map Ld.khi) (ls.map Ld.thi)) [] := Does.det (Nat.le_refl _) (greatest_m len wid front rear turn kilos mid high ls hlen)
  have c1 : Contract Try.prog 20 [.agg [.int .i64 len, .int .i64 wid, .int .i64 front, .int .i64 rear, .int .i64 turn, .int .i64 kilos, .int .i64 mid, .int .i64 high, .sl (ls.map Ld.av) none], (TAV (ls.map Ld.klo) (ls.map Ld.tlo))] [] (.tup [.int .i64 (-mom rear (wts kilos mid Ld.klo ls)), .int .i64 (mom front (wts kilos mid Ld.klo ls))]) [] := by
    have := carries_m len wid front rear turn kilos mid high ls (ls.map Ld.klo) (ls.map Ld.tlo) hlen (by simp) (by rw [wtk_map]; exact hw1) (by omega) (by omega) (by omega) (by omega)
    rw [wtk_map] at this
    exact Does.det (Nat.le_refl _) this
  have c2 : Contract Try.prog 20 [.agg [.int .i64 len, .int .i64 wid, .int .i64 front, .int .i64 rear, .int .i64 turn, .int .i64 kilos, .int .i64 mid, .int .i64 high, .sl (ls.map Ld.av) none], (TAV (ls.map Ld.khi) (ls.map Ld.thi))] [] (.tup [.int .i64 (-mom rear (wts kilos mid Ld.khi ls)), .int .i64 (mom front (wts kilos mid Ld.khi ls))]) [] := by
    have := carries_m len wid front rear turn kilos mid high ls (ls.map Ld.khi) (ls.map Ld.thi) hlen (by simp) (by rw [wtk_map]; exact hw2) (by omega) (by omega) (by omega) (by omega)
    rw [wtk_map] at this
    exact Does.det (Nat.le_refl _) this
  have m1 := mom_in rear (by omega) (by omega) _ hw1
  have m2 := mom_in rear (by omega) (by omega) _ hw2
  have m3 := mom_in front (by omega) (by omega) _ hw1
  have m4 := mom_in front (by omega) (by omega) _ hw2
  rw [wts_len] at m1 m2 m3 m4
  generalize mom rear (wts kilos mid Ld.klo ls) = A1 at c1 m1 ⊢
  generalize mom front (wts kilos mid Ld.klo ls) = B1 at c1 m3 ⊢
  generalize mom rear (wts kilos mid Ld.khi ls) = A2 at c2 m2 ⊢
  generalize mom front (wts kilos mid Ld.khi ls) = B2 at c2 m4 ⊢
  clear hw1 hw2
  refine Does.of comp51 ?_
  unfold F51
  simp only [start, List.length_cons, List.length_nil, List.replicate, List.cons_append, List.nil_append, Nat.reduceAdd, Nat.reduceSub]
  (repeat (first|((first|refine ExO.nil ?_|refine Ex.skip ?_|refine Ex.ret ?_|refine Ex.exit ?_); try dsimp only)|((first|(refine xI ?_; intro _ _)|refine xL ?_|(refine xB ?_; intro _ _)|refine xG ?_|refine xS ?_|refine xM ?_|(refine xC ?_; intro _ _)|refine xW ?_); try simp only [sA])|refine Ex.seq ?_|refine Ex.reg ?_|refine Ex.block ?_|refine eT ?_|refine eF ?_|simp only [reduceCtorEq, AEx.ex.injEq, Nat.reduceEqDiff, if_true, if_false]))
  refine ExO.call (f := 77) (xs := [.agg [.int .i64 len, .int .i64 wid, .int .i64 front, .int .i64 rear, .int .i64 turn, .int .i64 kilos, .int .i64 mid, .int .i64 high, .sl (ls.map Ld.av) none]]) (ys := [.agg [.int .i64 len, .int .i64 wid, .int .i64 front, .int .i64 rear, .int .i64 turn, .int .i64 kilos, .int .i64 mid, .int .i64 high, .sl (ls.map Ld.av) none]]) (bs := []) (cells := []) (by rfl) (by rfl) (by rfl) (by simp [ren_fl]) (by rfl) (by rfl) (rcheck_ok len wid front rear turn kilos mid high hF ls hlen hall) ?_
  rintro v c' ⟨rfl, rfl⟩
  refine ⟨_, rfl, rfl, ?_⟩
  simp only [List.map_cons, List.map_nil, putA, List.set_cons_zero, List.set_cons_succ, AV.plain, AV.plain1, setAll, List.length_cons, List.length_nil, List.drop_succ_cons, List.drop_zero, List.drop_nil, List.append_nil, Nat.reduceAdd]
  (repeat (first|((first|refine ExO.nil ?_|refine Ex.skip ?_|refine Ex.ret ?_|refine Ex.exit ?_); try dsimp only)|((first|(refine xI ?_; intro _ _)|refine xL ?_|(refine xB ?_; intro _ _)|refine xG ?_|refine xS ?_|refine xM ?_|(refine xC ?_; intro _ _)|refine xW ?_); try simp only [sA])|refine Ex.seq ?_|refine Ex.reg ?_|refine Ex.block ?_|refine eT ?_|refine eF ?_|simp only [reduceCtorEq, AEx.ex.injEq, Nat.reduceEqDiff, if_true, if_false]))
  apply Ex.drawE (only_ok [(78, [.agg [.int .i64 len, .int .i64 wid, .int .i64 front, .int .i64 rear, .int .i64 turn, .int .i64 kilos, .int .i64 mid, .int .i64 high, .sl (ls.map Ld.av) none]], (TAV (ls.map Ld.klo) (ls.map Ld.tlo))), (20, [.agg [.int .i64 len, .int .i64 wid, .int .i64 front, .int .i64 rear, .int .i64 turn, .int .i64 kilos, .int .i64 mid, .int .i64 high, .sl (ls.map Ld.av) none], (TAV (ls.map Ld.klo) (ls.map Ld.tlo))], .tup [.int .i64 (-A1), .int .i64 (B1)])]) [] [] []
  case hD =>
    simp only [List.take_succ_cons, List.take_zero, List.append_nil]
    (apply DrO.pure; (case hw => rfl); (case hd => rfl); (case hv => (simp only [List.mem_cons, List.not_mem_nil, or_false, forall_eq_or_imp, forall_eq]; simp [vA, fRes_eq]; first | done | exact ⟨⟨rfl, rfl⟩, rfl⟩ | exact ⟨rfl, rfl⟩ | exact rfl | (refine ⟨rfl, ?_⟩; first | done | rfl | simp))); (try simp only [sA]))
    (apply DrO.pure; (case hw => rfl); (case hd => rfl); (case hv => (simp only [List.mem_cons, List.not_mem_nil, or_false, forall_eq_or_imp, forall_eq]; simp [vA, fRes_eq]; first | done | exact ⟨⟨rfl, rfl⟩, rfl⟩ | exact ⟨rfl, rfl⟩ | exact rfl | (refine ⟨rfl, ?_⟩; first | done | rfl | simp))); (try simp only [sA]))
    apply DrO.call 78 [.agg [.int .i64 len, .int .i64 wid, .int .i64 front, .int .i64 rear, .int .i64 turn, .int .i64 kilos, .int .i64 mid, .int .i64 high, .sl (ls.map Ld.av) none]] (TAV (ls.map Ld.klo) (ls.map Ld.tlo)) rfl rfl (by simp [aop, evd]) (fun st _ => call_only st rfl (by simp [ren_fl]) cl (by simp) (by simp) (fun n => back_tav _ _ n))
    simp only [putA, List.set_cons_zero, List.set_cons_succ]
    apply DrO.call 20 [.agg [.int .i64 len, .int .i64 wid, .int .i64 front, .int .i64 rear, .int .i64 turn, .int .i64 kilos, .int .i64 mid, .int .i64 high, .sl (ls.map Ld.av) none], (TAV (ls.map Ld.klo) (ls.map Ld.tlo))] (.tup [.int .i64 (-A1), .int .i64 (B1)]) rfl rfl (by simp [aop, evd]) (fun st _ => call_only st rfl (by simp [ren_fl, ren_tav]) c1 (by simp) (by simp) (fun n => rfl))
    simp only [putA, List.set_cons_zero, List.set_cons_succ]
    (repeat (first | exact DrO.nil rfl | (apply DrO.eff; (case hw => rfl); (case hd => rfl); (case hl => rfl); (case hs => rfl); (case hs' => rfl); (case hv => (simp [vA, fRes_eq]; first|done|exact ⟨⟨rfl,rfl⟩,rfl⟩|exact ⟨rfl,rfl⟩|exact rfl)); (try simp only [sA])) | (apply DrO.pure; (case hw => rfl); (case hd => rfl); (case hv => (simp only [List.mem_cons, List.not_mem_nil, or_false, forall_eq_or_imp, forall_eq]; simp [vA, fRes_eq]; first | done | exact ⟨⟨rfl, rfl⟩, rfl⟩ | exact ⟨rfl, rfl⟩ | exact rfl | (refine ⟨rfl, ?_⟩; first | done | rfl | simp))); (try simp only [sA]))))
  simp only [List.drop_succ_cons, List.drop_zero, List.getLastD_cons, List.getLastD_nil, List.append_nil, List.cons_append, List.nil_append]
  (repeat (first|((first|refine ExO.nil ?_|refine Ex.skip ?_|refine Ex.ret ?_|refine Ex.exit ?_); try dsimp only)|((first|(refine xI ?_; intro _ _)|refine xL ?_|(refine xB ?_; intro _ _)|refine xG ?_|refine xS ?_|refine xM ?_|(refine xC ?_; intro _ _)|refine xW ?_); try simp only [sA])|refine Ex.seq ?_|refine Ex.reg ?_|refine Ex.block ?_|refine eT ?_|refine eF ?_|simp only [reduceCtorEq, AEx.ex.injEq, Nat.reduceEqDiff, if_true, if_false]))
  apply Ex.drawE (only_ok [(79, [.agg [.int .i64 len, .int .i64 wid, .int .i64 front, .int .i64 rear, .int .i64 turn, .int .i64 kilos, .int .i64 mid, .int .i64 high, .sl (ls.map Ld.av) none]], (TAV (ls.map Ld.khi) (ls.map Ld.thi))), (20, [.agg [.int .i64 len, .int .i64 wid, .int .i64 front, .int .i64 rear, .int .i64 turn, .int .i64 kilos, .int .i64 mid, .int .i64 high, .sl (ls.map Ld.av) none], (TAV (ls.map Ld.khi) (ls.map Ld.thi))], .tup [.int .i64 (-A2), .int .i64 (B2)])]) [] [] []
  case hD =>
    simp only [List.take_succ_cons, List.take_zero, List.append_nil]
    (apply DrO.pure; (case hw => rfl); (case hd => rfl); (case hv => (simp only [List.mem_cons, List.not_mem_nil, or_false, forall_eq_or_imp, forall_eq]; simp [vA, fRes_eq]; first | done | exact ⟨⟨rfl, rfl⟩, rfl⟩ | exact ⟨rfl, rfl⟩ | exact rfl | (refine ⟨rfl, ?_⟩; first | done | rfl | simp))); (try simp only [sA]))
    (apply DrO.pure; (case hw => rfl); (case hd => rfl); (case hv => (simp only [List.mem_cons, List.not_mem_nil, or_false, forall_eq_or_imp, forall_eq]; simp [vA, fRes_eq]; first | done | exact ⟨⟨rfl, rfl⟩, rfl⟩ | exact ⟨rfl, rfl⟩ | exact rfl | (refine ⟨rfl, ?_⟩; first | done | rfl | simp))); (try simp only [sA]))
    apply DrO.call 79 [.agg [.int .i64 len, .int .i64 wid, .int .i64 front, .int .i64 rear, .int .i64 turn, .int .i64 kilos, .int .i64 mid, .int .i64 high, .sl (ls.map Ld.av) none]] (TAV (ls.map Ld.khi) (ls.map Ld.thi)) rfl rfl (by simp [aop, evd]) (fun st _ => call_only st rfl (by simp [ren_fl]) cg (by simp) (by simp) (fun n => back_tav _ _ n))
    simp only [putA, List.set_cons_zero, List.set_cons_succ]
    apply DrO.call 20 [.agg [.int .i64 len, .int .i64 wid, .int .i64 front, .int .i64 rear, .int .i64 turn, .int .i64 kilos, .int .i64 mid, .int .i64 high, .sl (ls.map Ld.av) none], (TAV (ls.map Ld.khi) (ls.map Ld.thi))] (.tup [.int .i64 (-A2), .int .i64 (B2)]) rfl rfl (by simp [aop, evd]) (fun st _ => call_only st rfl (by simp [ren_fl, ren_tav]) c2 (by simp) (by simp) (fun n => rfl))
    simp only [putA, List.set_cons_zero, List.set_cons_succ]
    (repeat (first | exact DrO.nil rfl | (apply DrO.eff; (case hw => rfl); (case hd => rfl); (case hl => rfl); (case hs => rfl); (case hs' => rfl); (case hv => (simp [vA, fRes_eq]; first|done|exact ⟨⟨rfl,rfl⟩,rfl⟩|exact ⟨rfl,rfl⟩|exact rfl)); (try simp only [sA])) | (apply DrO.pure; (case hw => rfl); (case hd => rfl); (case hv => (simp only [List.mem_cons, List.not_mem_nil, or_false, forall_eq_or_imp, forall_eq]; simp [vA, fRes_eq]; first | done | exact ⟨⟨rfl, rfl⟩, rfl⟩ | exact ⟨rfl, rfl⟩ | exact rfl | (refine ⟨rfl, ?_⟩; first | done | rfl | simp))); (try simp only [sA]))))
  simp only [List.drop_succ_cons, List.drop_zero, List.getLastD_cons, List.getLastD_nil, List.append_nil, List.cons_append, List.nil_append]
  (repeat (first|((first|refine ExO.nil ?_|refine Ex.skip ?_|refine Ex.ret ?_|refine Ex.exit ?_); try dsimp only)|((first|(refine xI ?_; intro _ _)|refine xL ?_|(refine xB ?_; intro _ _)|refine xG ?_|refine xS ?_|refine xM ?_|(refine xC ?_; intro _ _)|refine xW ?_); try simp only [sA])|refine Ex.seq ?_|refine Ex.reg ?_|refine Ex.block ?_|refine eT ?_|refine eF ?_|simp only [reduceCtorEq, AEx.ex.injEq, Nat.reduceEqDiff, if_true, if_false]))
  rename_i m hm
  rw [i64_in (by omega) (by omega)] at hm
  subst hm
  refine ExO.call (f := 32) (xs := [.int .i64 (-A1), .int .i64 (rear - front)]) (ys := [.int .i64 (-A1), .int .i64 (rear - front)]) (bs := []) (cells := []) (by rfl) (by rfl) (by rfl) (by rfl) (by rfl) (by rfl) (down_m (-A1) (rear - front) (by omega) (by omega) (by omega) (by omega)) ?_
  rintro v c' ⟨rfl, rfl⟩
  refine ⟨_, rfl, rfl, ?_⟩
  simp only [List.map_cons, List.map_nil, putA, List.set_cons_zero, List.set_cons_succ, AV.plain, AV.plain1, setAll, List.length_cons, List.length_nil, List.drop_succ_cons, List.drop_zero, List.drop_nil, List.append_nil, Nat.reduceAdd]
  (repeat (first|((first|refine ExO.nil ?_|refine Ex.skip ?_|refine Ex.ret ?_|refine Ex.exit ?_); try dsimp only)|((first|(refine xI ?_; intro _ _)|refine xL ?_|(refine xB ?_; intro _ _)|refine xG ?_|refine xS ?_|refine xM ?_|(refine xC ?_; intro _ _)|refine xW ?_); try simp only [sA])|refine Ex.seq ?_|refine Ex.reg ?_|refine Ex.block ?_|refine eT ?_|refine eF ?_|simp only [reduceCtorEq, AEx.ex.injEq, Nat.reduceEqDiff, if_true, if_false]))
  refine ExO.call (f := 33) (xs := [.int .i64 (-A2), .int .i64 (rear - front)]) (ys := [.int .i64 (-A2), .int .i64 (rear - front)]) (bs := []) (cells := []) (by rfl) (by rfl) (by rfl) (by rfl) (by rfl) (by rfl) (up_m (-A2) (rear - front) (by omega) (by omega) (by omega) (by omega)) ?_
  rintro v c' ⟨rfl, rfl⟩
  refine ⟨_, rfl, rfl, ?_⟩
  simp only [List.map_cons, List.map_nil, putA, List.set_cons_zero, List.set_cons_succ, AV.plain, AV.plain1, setAll, List.length_cons, List.length_nil, List.drop_succ_cons, List.drop_zero, List.drop_nil, List.append_nil, Nat.reduceAdd]
  (repeat (first|((first|refine ExO.nil ?_|refine Ex.skip ?_|refine Ex.ret ?_|refine Ex.exit ?_); try dsimp only)|((first|(refine xI ?_; intro _ _)|refine xL ?_|(refine xB ?_; intro _ _)|refine xG ?_|refine xS ?_|refine xM ?_|(refine xC ?_; intro _ _)|refine xW ?_); try simp only [sA])|refine Ex.seq ?_|refine Ex.reg ?_|refine Ex.block ?_|refine eT ?_|refine eF ?_|simp only [reduceCtorEq, AEx.ex.injEq, Nat.reduceEqDiff, if_true, if_false]))
  refine ExO.call (f := 32) (xs := [.int .i64 (B1), .int .i64 (rear - front)]) (ys := [.int .i64 (B1), .int .i64 (rear - front)]) (bs := []) (cells := []) (by rfl) (by rfl) (by rfl) (by rfl) (by rfl) (by rfl) (down_m B1 (rear - front) (by omega) (by omega) (by omega) (by omega)) ?_
  rintro v c' ⟨rfl, rfl⟩
  refine ⟨_, rfl, rfl, ?_⟩
  simp only [List.map_cons, List.map_nil, putA, List.set_cons_zero, List.set_cons_succ, AV.plain, AV.plain1, setAll, List.length_cons, List.length_nil, List.drop_succ_cons, List.drop_zero, List.drop_nil, List.append_nil, Nat.reduceAdd]
  (repeat (first|((first|refine ExO.nil ?_|refine Ex.skip ?_|refine Ex.ret ?_|refine Ex.exit ?_); try dsimp only)|((first|(refine xI ?_; intro _ _)|refine xL ?_|(refine xB ?_; intro _ _)|refine xG ?_|refine xS ?_|refine xM ?_|(refine xC ?_; intro _ _)|refine xW ?_); try simp only [sA])|refine Ex.seq ?_|refine Ex.reg ?_|refine Ex.block ?_|refine eT ?_|refine eF ?_|simp only [reduceCtorEq, AEx.ex.injEq, Nat.reduceEqDiff, if_true, if_false]))
  refine ExO.call (f := 33) (xs := [.int .i64 (B2), .int .i64 (rear - front)]) (ys := [.int .i64 (B2), .int .i64 (rear - front)]) (bs := []) (cells := []) (by rfl) (by rfl) (by rfl) (by rfl) (by rfl) (by rfl) (up_m B2 (rear - front) (by omega) (by omega) (by omega) (by omega)) ?_
  rintro v c' ⟨rfl, rfl⟩
  refine ⟨_, rfl, rfl, ?_⟩
  simp only [List.map_cons, List.map_nil, putA, List.set_cons_zero, List.set_cons_succ, AV.plain, AV.plain1, setAll, List.length_cons, List.length_nil, List.drop_succ_cons, List.drop_zero, List.drop_nil, List.append_nil, Nat.reduceAdd]
  (repeat (first|((first|refine ExO.nil ?_|refine Ex.skip ?_|refine Ex.ret ?_|refine Ex.exit ?_); try dsimp only)|((first|(refine xI ?_; intro _ _)|refine xL ?_|(refine xB ?_; intro _ _)|refine xG ?_|refine xS ?_|refine xM ?_|(refine xC ?_; intro _ _)|refine xW ?_); try simp only [sA])|refine Ex.seq ?_|refine Ex.reg ?_|refine Ex.block ?_|refine eT ?_|refine eF ?_|simp only [reduceCtorEq, AEx.ex.injEq, Nat.reduceEqDiff, if_true, if_false]))
  simp [evRes, evRes1, one, AV.names, takeCells, parts]
end Go.Proofs.Ytoefpcpijolofaa
end
section
namespace Go.Proofs.Ytoefpcpijolofaa
open Go.RowKit
set_option linter.unusedVariables false
set_option linter.unusedSimpArgs false
set_option maxRecDepth 10000
set_option maxHeartbeats 4000000

structure Hd where
  (kind a b : Int)
def Hd.av (h : Hd) : AV := .agg [.int .i64 h.kind, .int .i64 h.a, .int .i64 h.b]
theorem Hd.av_cells (k a b : Int) : (Hd.av ⟨k, a, b⟩).cells = [.int .i64 k, .int .i64 a, .int .i64 b] := rfl
theorem Hd.av_len (h : Hd) : (Hd.av h).cells.length = 3 := rfl
def HOk (h : Hd) : Prop := (h.kind = 1 ∧ 0 ≤ h.a ∧ h.a < h.b ∧ h.b ≤ 20000) ∨ (h.kind = 2 ∧ 0 ≤ h.a ∧ h.a ≤ 2000 ∧ h.b = 0) ∨ (h.kind = 3 ∧ 0 ≤ h.a ∧ h.a ≤ 10000000 ∧ 0 ≤ h.b ∧ h.b ≤ 10000000)
theorem clean_hds (hs : List Hd) : cleanL (hs.map Hd.av) = true := by
  rw [cleanL_iff]
  intro x hx
  obtain ⟨l, _, rfl⟩ := List.mem_map.1 hx
  simp [Hd.av, AV.clean, cleanL]

theorem mom_sum (p q : Int) (g : Ld → Int) : ∀ (ls : List Ld), (∀ l ∈ ls, 0 ≤ g l ∧ g l ≤ 900 ∧ p ≤ l.pt ∧ l.pt ≤ q) → 0 ≤ (ls.map fun l => g l * (l.pt - p)).sum ∧ (ls.map fun l => g l * (l.pt - p)).sum ≤ (ls.length : Int) * (900 * (q - p))
  | [], _ => by simp
  | l :: ls, h => by
    have ih := mom_sum p q g ls (fun l hl => h l (List.mem_cons_of_mem _ hl))
    obtain ⟨h1, h2, h3, h4⟩ := h l (by simp)
    have a1 : 0 ≤ g l * (l.pt - p) := Int.mul_nonneg h1 (by omega)
    have a2 : g l * (l.pt - p) ≤ 900 * (q - p) := Int.mul_le_mul h2 (by omega) (by omega) (by omega)
    simp only [List.map_cons, List.sum_cons, List.length_cons]
    have e : ((ls.length + 1 : Nat) : Int) * (900 * (q - p)) = (ls.length : Int) * (900 * (q - p)) + 900 * (q - p) := by
      rw [show ((ls.length + 1 : Nat) : Int) = (ls.length : Int) + 1 from rfl, Int.add_mul, Int.one_mul]
    omega
theorem rear_bd (kilos mid p q : Int) (g : Ld → Int) (ls : List Ld) (hlen : ls.length ≤ 20) (h : ∀ l ∈ ls, 0 ≤ g l ∧ g l ≤ 900 ∧ p ≤ l.pt ∧ l.pt ≤ q) (hk0 : 0 ≤ kilos) (hk1 : kilos ≤ 5000) (hm0 : 0 ≤ mid) (hm1 : mid ≤ 1200) (hp0 : 0 ≤ p) (hp1 : p ≤ 1200) (hpq : p < q) :
    -6000000 ≤ mom p (wts kilos mid g ls) / (q - p) ∧ mom p (wts kilos mid g ls) / (q - p) ≤ 6018000 ∧ -6000001 ≤ -(-mom p (wts kilos mid g ls) / (q - p)) ∧ -(-mom p (wts kilos mid g ls) / (q - p)) ≤ 6018001 := by
  have hs := mom_sum p q g ls h
  have he : mom p (wts kilos mid g ls) = kilos * (mid - p) + (ls.map fun l => g l * (l.pt - p)).sum := by
    simp [mom, wts, List.map_map, Function.comp_def]
  generalize (ls.map fun l => g l * (l.pt - p)).sum = T at hs he
  have b1 : kilos * (mid - p) ≤ 5000 * 1200 := by
    by_cases hmp : 0 ≤ mid - p
    · exact Int.mul_le_mul hk1 (by omega) hmp (by omega)
    · have := Int.mul_nonneg hk0 (show 0 ≤ -(mid - p) by omega)
      rw [Int.mul_neg] at this
      omega
  have b2 : -(5000 * 1200) ≤ kilos * (mid - p) := by
    by_cases hmp : 0 ≤ mid - p
    · have := Int.mul_nonneg hk0 hmp
      omega
    · have := Int.mul_le_mul hk1 (show -(mid - p) ≤ 1200 by omega) (by omega) (by omega)
      rw [Int.mul_neg] at this
      omega
  have b3 : (ls.length : Int) * (900 * (q - p)) ≤ 20 * (900 * (q - p)) := Int.mul_le_mul_of_nonneg_right (by omega) (by omega)
  generalize kilos * (mid - p) = K at he b1 b2
  have hk : 0 < q - p := by omega
  generalize hqp : q - p = d at *
  have c1 : mom p (wts kilos mid g ls) ≤ 6018000 * d := by omega
  have c2 : -6000000 * d ≤ mom p (wts kilos mid g ls) := by omega
  generalize mom p (wts kilos mid g ls) = M at c1 c2
  refine ⟨Int.le_ediv_of_mul_le hk c2, Int.ediv_le_of_le_mul hk c1, ?_, ?_⟩
  · have := Int.ediv_le_of_le_mul hk (show -M ≤ 6000000 * d by omega)
    omega
  · have := Int.le_ediv_of_mul_le hk (show -6018000 * d ≤ -M by omega)
    omega
end Go.Proofs.Ytoefpcpijolofaa
end
section
namespace Go.Proofs.Ytoefpcpijolofaa
open Go.RowKit
set_option linter.unusedVariables false
set_option linter.unusedSimpArgs false
set_option maxRecDepth 10000
set_option maxHeartbeats 4000000

def bridgeB (front rear : Int) (ws : List (Int × Int)) (a b : Int) : Bool := decide (tot ws ≤ a) && decide (-mom rear ws ≤ b * (rear - front)) && decide (mom front ws ≤ b * (rear - front))
def passB (len wid front rear turn kilos mid high : Int) (gk gt : Ld → Int) (ls : List Ld) (h : Hd) : Bool :=
  if h.kind = 1 then bendB len wid rear turn h.a h.b else if h.kind = 2 then decide (hgt high gt ls ≤ h.a) else bridgeB front rear (wts kilos mid gk ls) h.a h.b

theorem bridge_m (len wid front rear turn kilos mid high : Int) (hF : FOk ⟨len, wid, front, rear, turn, kilos, mid, high⟩) (ls : List Ld) (hlen : ls.length ≤ 20) (gk gt : Ld → Int) (z : List Int) (hz : z.length = 42) (hk : ∀ (j : Nat) l, ls[j]? = some l → z[j]? = some (gk l)) (ht : ∀ (j : Nat) l, ls[j]? = some l → z[21 + j]? = some (gt l)) (hw : ∀ w ∈ wts kilos mid gk ls, WOk w) (a b : Int) (b0 : 0 ≤ b) (b1 : b ≤ 10000000) : Does Try.prog 96 [.agg (trC [.int .i64 len, .int .i64 wid, .int .i64 front, .int .i64 rear, .int .i64 turn, .int .i64 kilos, .int .i64 mid, .int .i64 high, .sl (ls.map Ld.av) none] z), .int .i64 a, .int .i64 b] [] fun v c' => v = .bool (bridgeB front rear (wts kilos mid gk ls) a b) ∧ c' = [] := by
  have hF' : 2 ≤ len ∧ len ≤ 1200 ∧ 1 ≤ wid ∧ wid ≤ 400 ∧ 0 ≤ front ∧ front < rear ∧ rear ≤ len ∧ 0 ≤ turn ∧ turn < 1500 ∧ 0 ≤ kilos ∧ kilos < 5000 ∧ 0 ≤ mid ∧ mid ≤ len ∧ 0 ≤ high ∧ high < 500 := hF
  have d1 := total_m len wid front rear turn kilos mid high gk z ls hlen hz hk hw
  have d2 := onFront_m len wid front rear turn kilos mid high gk z ls hlen hz hk hw (by omega) (by omega)
  have d3 := onRear_m len wid front rear turn kilos mid high gk z ls hlen hz hk hw (by omega) (by omega)
  have hm0 : 0 ≤ b * (rear - front) := Int.mul_nonneg b0 (by omega)
  have hm1 : b * (rear - front) ≤ 10000000 * 1200 := Int.mul_le_mul b1 (by omega) (by omega) (by omega)
  have s1 : IntKind.i64.wrap (rear - front) = rear - front := i64_in (by omega) (by omega)
  have s2 : IntKind.i64.wrap (b * (rear - front)) = b * (rear - front) := i64_in (by omega) (by omega)
  have hcF : cleanL [.int .i64 len, .int .i64 wid, .int .i64 front, .int .i64 rear, .int .i64 turn, .int .i64 kilos, .int .i64 mid, .int .i64 high, .sl (ls.map Ld.av) none] = true := by simp [cleanL, AV.clean, clean_lds]
  have hcT := trC_clean [.int .i64 len, .int .i64 wid, .int .i64 front, .int .i64 rear, .int .i64 turn, .int .i64 kilos, .int .i64 mid, .int .i64 high, .sl (ls.map Ld.av) none] z hcF
  have hsc := trC_scal [.int .i64 len, .int .i64 wid, .int .i64 front, .int .i64 rear, .int .i64 turn, .int .i64 kilos, .int .i64 mid, .int .i64 high, .sl (ls.map Ld.av) none] z (by simp [AV.scalar])
  have htk : (trC [.int .i64 len, .int .i64 wid, .int .i64 front, .int .i64 rear, .int .i64 turn, .int .i64 kilos, .int .i64 mid, .int .i64 high, .sl (ls.map Ld.av) none] z).take 51 = trC [.int .i64 len, .int .i64 wid, .int .i64 front, .int .i64 rear, .int .i64 turn, .int .i64 kilos, .int .i64 mid, .int .i64 high, .sl (ls.map Ld.av) none] z := List.take_of_length_le (by simp [trC, nums42_len, hz])
  have hln : (trC [.int .i64 len, .int .i64 wid, .int .i64 front, .int .i64 rear, .int .i64 turn, .int .i64 kilos, .int .i64 mid, .int .i64 high, .sl (ls.map Ld.av) none] z).length = 51 := by simp [trC, nums42_len, hz]
  have hpl := trC_plain [.int .i64 len, .int .i64 wid, .int .i64 front, .int .i64 rear, .int .i64 turn, .int .i64 kilos, .int .i64 mid, .int .i64 high, .sl (ls.map Ld.av) none] z rfl
  have t2 : (trC [.int .i64 len, .int .i64 wid, .int .i64 front, .int .i64 rear, .int .i64 turn, .int .i64 kilos, .int .i64 mid, .int .i64 high, .sl (ls.map Ld.av) none] z)[2]? = some (.int .i64 front) := rfl
  have t3 : (trC [.int .i64 len, .int .i64 wid, .int .i64 front, .int .i64 rear, .int .i64 turn, .int .i64 kilos, .int .i64 mid, .int .i64 high, .sl (ls.map Ld.av) none] z)[3]? = some (.int .i64 rear) := rfl
  unfold bridgeB
  generalize tot (wts kilos mid gk ls) = TT at d1 ⊢
  generalize mom rear (wts kilos mid gk ls) = MR at d2 ⊢
  generalize mom front (wts kilos mid gk ls) = MF at d3 ⊢
  generalize trC [.int .i64 len, .int .i64 wid, .int .i64 front, .int .i64 rear, .int .i64 turn, .int .i64 kilos, .int .i64 mid, .int .i64 high, .sl (ls.map Ld.av) none] z = T at hcT d1 d2 d3 hsc htk hln hpl t2 t3 ⊢
  refine Does.of comp96 ?_
  unfold F96
  simp only [start, List.length_cons, List.length_nil, List.replicate, List.cons_append, List.nil_append, Nat.reduceAdd, Nat.reduceSub]
  (repeat (first|((first|refine ExO.nil ?_|refine Ex.skip ?_|refine Ex.ret ?_|refine Ex.exit ?_); try dsimp only)|((first|(refine xI ?_; intro _ _)|refine xL ?_|(refine xB ?_; intro _ _)|refine xG ?_|refine xS ?_|refine xM ?_|(refine xC ?_; intro _ _)|refine xW ?_); try simp only [sA])|refine Ex.seq ?_|refine Ex.reg ?_|refine Ex.block ?_|refine eT ?_|refine eF ?_|simp only [reduceCtorEq, AEx.ex.injEq, Nat.reduceEqDiff, if_true, if_false]))
  (apply ExO.stG; (case hk => rfl); (case hv => (simp [vA, fRes_eq, t3]; first|done|exact ⟨⟨rfl,rfl⟩,rfl⟩|exact ⟨rfl,rfl⟩|exact rfl)); (try simp only [sA]))
  (repeat (first|((first|refine ExO.nil ?_|refine Ex.skip ?_|refine Ex.ret ?_|refine Ex.exit ?_); try dsimp only)|((first|(refine xI ?_; intro _ _)|refine xL ?_|(refine xB ?_; intro _ _)|refine xG ?_|refine xS ?_|refine xM ?_|(refine xC ?_; intro _ _)|refine xW ?_); try simp only [sA])|refine Ex.seq ?_|refine Ex.reg ?_|refine Ex.block ?_|refine eT ?_|refine eF ?_|simp only [reduceCtorEq, AEx.ex.injEq, Nat.reduceEqDiff, if_true, if_false]))
  (apply ExO.stG; (case hk => rfl); (case hv => (simp [vA, fRes_eq, t2]; first|done|exact ⟨⟨rfl,rfl⟩,rfl⟩|exact ⟨rfl,rfl⟩|exact rfl)); (try simp only [sA]))
  (repeat (first|((first|refine ExO.nil ?_|refine Ex.skip ?_|refine Ex.ret ?_|refine Ex.exit ?_); try dsimp only)|((first|(refine xI ?_; intro _ _)|refine xL ?_|(refine xB ?_; intro _ _)|refine xG ?_|refine xS ?_|refine xM ?_|(refine xC ?_; intro _ _)|refine xW ?_); try simp only [sA])|refine Ex.seq ?_|refine Ex.reg ?_|refine Ex.block ?_|refine eT ?_|refine eF ?_|simp only [reduceCtorEq, AEx.ex.injEq, Nat.reduceEqDiff, if_true, if_false]))
  rename_i x1 hx1 x2 hx2
  rw [s1] at hx1
  subst hx1
  rw [s2] at hx2
  subst hx2
  clear s1 s2 hm0 hm1
  generalize b * (rear - front) = BM
  (apply ExO.stG; (case hk => rfl); (case hv => (simp [vA, fRes_eq, htk, hln]; first|done|exact ⟨⟨rfl,rfl⟩,rfl⟩|exact ⟨rfl,rfl⟩|exact rfl)); (try simp only [sA]))
  (repeat (first|((first|refine ExO.nil ?_|refine Ex.skip ?_|refine Ex.ret ?_|refine Ex.exit ?_); try dsimp only)|((first|(refine xI ?_; intro _ _)|refine xL ?_|(refine xB ?_; intro _ _)|refine xG ?_|refine xS ?_|refine xM ?_|(refine xC ?_; intro _ _)|refine xW ?_); try simp only [sA])|refine Ex.seq ?_|refine Ex.reg ?_|refine Ex.block ?_|refine eT ?_|refine eF ?_|simp only [reduceCtorEq, AEx.ex.injEq, Nat.reduceEqDiff, if_true, if_false]))
  refine ExO.call (f := 55) (xs := [.agg T]) (ys := [.agg T]) (bs := []) (cells := []) (by rfl) (by rfl) (by rfl) (by simp [ren, ren1, AV.plain, AV.plain1, AV.clean, hpl, hcT]) (by rfl) (by rfl) d1 ?_
  rintro v c' ⟨rfl, rfl⟩
  refine ⟨_, rfl, rfl, ?_⟩
  simp only [List.map_cons, List.map_nil, putA, List.set_cons_zero, List.set_cons_succ, AV.plain, AV.plain1, setAll, List.length_cons, List.length_nil, List.drop_succ_cons, List.drop_zero, List.drop_nil, List.append_nil, Nat.reduceAdd]
  (repeat (first|((first|refine ExO.nil ?_|refine Ex.skip ?_|refine Ex.ret ?_|refine Ex.exit ?_); try dsimp only)|((first|(refine xI ?_; intro _ _)|refine xL ?_|(refine xB ?_; intro _ _)|refine xG ?_|refine xS ?_|refine xM ?_|(refine xC ?_; intro _ _)|refine xW ?_); try simp only [sA])|refine Ex.seq ?_|refine Ex.reg ?_|refine Ex.block ?_|refine eT ?_|refine eF ?_|simp only [reduceCtorEq, AEx.ex.injEq, Nat.reduceEqDiff, if_true, if_false]))
  rename_i c hc
  cases c
  · (repeat (first|((first|refine ExO.nil ?_|refine Ex.skip ?_|refine Ex.ret ?_|refine Ex.exit ?_); try dsimp only)|((first|(refine xI ?_; intro _ _)|refine xL ?_|(refine xB ?_; intro _ _)|refine xG ?_|refine xS ?_|refine xM ?_|(refine xC ?_; intro _ _)|refine xW ?_); try simp only [sA])|refine Ex.seq ?_|refine Ex.reg ?_|refine Ex.block ?_|refine eT ?_|refine eF ?_|simp only [reduceCtorEq, AEx.ex.injEq, Nat.reduceEqDiff, if_true, if_false]))
    have hn : ¬ TT ≤ a := by simpa using hc.symm
    simp [evRes, evRes1, one, AV.names, takeCells, hn]
  · have hy : TT ≤ a := by simpa using hc.symm
    (repeat (first|((first|refine ExO.nil ?_|refine Ex.skip ?_|refine Ex.ret ?_|refine Ex.exit ?_); try dsimp only)|((first|(refine xI ?_; intro _ _)|refine xL ?_|(refine xB ?_; intro _ _)|refine xG ?_|refine xS ?_|refine xM ?_|(refine xC ?_; intro _ _)|refine xW ?_); try simp only [sA])|refine Ex.seq ?_|refine Ex.reg ?_|refine Ex.block ?_|refine eT ?_|refine eF ?_|simp only [reduceCtorEq, AEx.ex.injEq, Nat.reduceEqDiff, if_true, if_false]))
    (apply ExO.stW; (case hw => simp [wantedA]); (case hv => (simp [vA, fRes_eq, htk, hln]; first|done|exact ⟨⟨rfl,rfl⟩,rfl⟩|exact ⟨rfl,rfl⟩|exact rfl)); (try simp only [sA]))
    (repeat (first|((first|refine ExO.nil ?_|refine Ex.skip ?_|refine Ex.ret ?_|refine Ex.exit ?_); try dsimp only)|((first|(refine xI ?_; intro _ _)|refine xL ?_|(refine xB ?_; intro _ _)|refine xG ?_|refine xS ?_|refine xM ?_|(refine xC ?_; intro _ _)|refine xW ?_); try simp only [sA])|refine Ex.seq ?_|refine Ex.reg ?_|refine Ex.block ?_|refine eT ?_|refine eF ?_|simp only [reduceCtorEq, AEx.ex.injEq, Nat.reduceEqDiff, if_true, if_false]))
    refine ExO.call (f := 57) (xs := [.agg T]) (ys := [.agg T]) (bs := []) (cells := []) (by rfl) (by rfl) (by rfl) (by simp [ren, ren1, AV.plain, AV.plain1, AV.clean, hpl, hcT]) (by rfl) (by rfl) d2 ?_
    rintro v c' ⟨rfl, rfl⟩
    refine ⟨_, rfl, rfl, ?_⟩
    simp only [List.map_cons, List.map_nil, putA, List.set_cons_zero, List.set_cons_succ, AV.plain, AV.plain1, setAll, List.length_cons, List.length_nil, List.drop_succ_cons, List.drop_zero, List.drop_nil, List.append_nil, Nat.reduceAdd]
    (repeat (first|((first|refine ExO.nil ?_|refine Ex.skip ?_|refine Ex.ret ?_|refine Ex.exit ?_); try dsimp only)|((first|(refine xI ?_; intro _ _)|refine xL ?_|(refine xB ?_; intro _ _)|refine xG ?_|refine xS ?_|refine xM ?_|(refine xC ?_; intro _ _)|refine xW ?_); try simp only [sA])|refine Ex.seq ?_|refine Ex.reg ?_|refine Ex.block ?_|refine eT ?_|refine eF ?_|simp only [reduceCtorEq, AEx.ex.injEq, Nat.reduceEqDiff, if_true, if_false]))
    rename_i c hc
    cases c
    · (repeat (first|((first|refine ExO.nil ?_|refine Ex.skip ?_|refine Ex.ret ?_|refine Ex.exit ?_); try dsimp only)|((first|(refine xI ?_; intro _ _)|refine xL ?_|(refine xB ?_; intro _ _)|refine xG ?_|refine xS ?_|refine xM ?_|(refine xC ?_; intro _ _)|refine xW ?_); try simp only [sA])|refine Ex.seq ?_|refine Ex.reg ?_|refine Ex.block ?_|refine eT ?_|refine eF ?_|simp only [reduceCtorEq, AEx.ex.injEq, Nat.reduceEqDiff, if_true, if_false]))
      have hn : ¬ -MR ≤ BM := by simpa using hc.symm
      simp [evRes, evRes1, one, AV.names, takeCells, hn]
    · have hy2 : -MR ≤ BM := by simpa using hc.symm
      (repeat (first|((first|refine ExO.nil ?_|refine Ex.skip ?_|refine Ex.ret ?_|refine Ex.exit ?_); try dsimp only)|((first|(refine xI ?_; intro _ _)|refine xL ?_|(refine xB ?_; intro _ _)|refine xG ?_|refine xS ?_|refine xM ?_|(refine xC ?_; intro _ _)|refine xW ?_); try simp only [sA])|refine Ex.seq ?_|refine Ex.reg ?_|refine Ex.block ?_|refine eT ?_|refine eF ?_|simp only [reduceCtorEq, AEx.ex.injEq, Nat.reduceEqDiff, if_true, if_false]))
      (apply ExO.stW; (case hw => simp [wantedA]); (case hv => (simp [vA, fRes_eq, htk, hln]; first|done|exact ⟨⟨rfl,rfl⟩,rfl⟩|exact ⟨rfl,rfl⟩|exact rfl)); (try simp only [sA]))
      (repeat (first|((first|refine ExO.nil ?_|refine Ex.skip ?_|refine Ex.ret ?_|refine Ex.exit ?_); try dsimp only)|((first|(refine xI ?_; intro _ _)|refine xL ?_|(refine xB ?_; intro _ _)|refine xG ?_|refine xS ?_|refine xM ?_|(refine xC ?_; intro _ _)|refine xW ?_); try simp only [sA])|refine Ex.seq ?_|refine Ex.reg ?_|refine Ex.block ?_|refine eT ?_|refine eF ?_|simp only [reduceCtorEq, AEx.ex.injEq, Nat.reduceEqDiff, if_true, if_false]))
      refine ExO.call (f := 58) (xs := [.agg T]) (ys := [.agg T]) (bs := []) (cells := []) (by rfl) (by rfl) (by rfl) (by simp [ren, ren1, AV.plain, AV.plain1, AV.clean, hpl, hcT]) (by rfl) (by rfl) d3 ?_
      rintro v c' ⟨rfl, rfl⟩
      refine ⟨_, rfl, rfl, ?_⟩
      simp only [List.map_cons, List.map_nil, putA, List.set_cons_zero, List.set_cons_succ, AV.plain, AV.plain1, setAll, List.length_cons, List.length_nil, List.drop_succ_cons, List.drop_zero, List.drop_nil, List.append_nil, Nat.reduceAdd]
      (repeat (first|((first|refine ExO.nil ?_|refine Ex.skip ?_|refine Ex.ret ?_|refine Ex.exit ?_); try dsimp only)|((first|(refine xI ?_; intro _ _)|refine xL ?_|(refine xB ?_; intro _ _)|refine xG ?_|refine xS ?_|refine xM ?_|(refine xC ?_; intro _ _)|refine xW ?_); try simp only [sA])|refine Ex.seq ?_|refine Ex.reg ?_|refine Ex.block ?_|refine eT ?_|refine eF ?_|simp only [reduceCtorEq, AEx.ex.injEq, Nat.reduceEqDiff, if_true, if_false]))
      rename_i c hc
      subst hc
      simp [evRes, evRes1, one, AV.names, takeCells, hy, hy2]

theorem passesAll_m (len wid front rear turn kilos mid high : Int) (hF : FOk ⟨len, wid, front, rear, turn, kilos, mid, high⟩) (ls : List Ld) (hlen : ls.length ≤ 20) (gk gt : Ld → Int) (z : List Int) (hz : z.length = 42) (hk : ∀ (j : Nat) l, ls[j]? = some l → z[j]? = some (gk l)) (ht : ∀ (j : Nat) l, ls[j]? = some l → z[21 + j]? = some (gt l)) (hw : ∀ w ∈ wts kilos mid gk ls, WOk w) (h : Hd) (hh : HOk h) : Does Try.prog 86 [.agg (trC [.int .i64 len, .int .i64 wid, .int .i64 front, .int .i64 rear, .int .i64 turn, .int .i64 kilos, .int .i64 mid, .int .i64 high, .sl (ls.map Ld.av) none] z), Hd.av h] [] fun v c' => v = .bool (passB len wid front rear turn kilos mid high gk gt ls h) ∧ c' = [] := by
  have hF' : 2 ≤ len ∧ len ≤ 1200 ∧ 1 ≤ wid ∧ wid ≤ 400 ∧ 0 ≤ front ∧ front < rear ∧ rear ≤ len ∧ 0 ≤ turn ∧ turn < 1500 ∧ 0 ≤ kilos ∧ kilos < 5000 ∧ 0 ≤ mid ∧ mid ≤ len ∧ 0 ≤ high ∧ high < 500 := hF
  obtain ⟨kind, a, b⟩ := h
  rcases hh with ⟨k1, k2, k3, k4⟩ | ⟨k1, k2, k3, k4⟩ | ⟨k1, k2, k3, k4, k5⟩
  · simp only [] at k1 k2 k3 k4
    subst k1
    exact passes_m len wid front rear turn kilos mid high a b (.sl (ls.map Ld.av) none) z hz hF rfl (by simp [cleanL, AV.clean, clean_lds]) rfl (by simp [re, re1, AV.clean, clean_lds, cleanL]) k2 (by omega) (by omega) (by omega)
  · simp only [] at k1 k2 k3 k4
    subst k1
    have d1 := Does.det (Nat.le_refl _) (height_m len wid front rear turn kilos mid high gt z ls hlen hz ht)
    have hcF : cleanL [.int .i64 len, .int .i64 wid, .int .i64 front, .int .i64 rear, .int .i64 turn, .int .i64 kilos, .int .i64 mid, .int .i64 high, .sl (ls.map Ld.av) none] = true := by simp [cleanL, AV.clean, clean_lds]
    have hcT := trC_clean [.int .i64 len, .int .i64 wid, .int .i64 front, .int .i64 rear, .int .i64 turn, .int .i64 kilos, .int .i64 mid, .int .i64 high, .sl (ls.map Ld.av) none] z hcF
    have hsc := trC_scal [.int .i64 len, .int .i64 wid, .int .i64 front, .int .i64 rear, .int .i64 turn, .int .i64 kilos, .int .i64 mid, .int .i64 high, .sl (ls.map Ld.av) none] z (by simp [AV.scalar])
    have htk : (trC [.int .i64 len, .int .i64 wid, .int .i64 front, .int .i64 rear, .int .i64 turn, .int .i64 kilos, .int .i64 mid, .int .i64 high, .sl (ls.map Ld.av) none] z).take 51 = trC [.int .i64 len, .int .i64 wid, .int .i64 front, .int .i64 rear, .int .i64 turn, .int .i64 kilos, .int .i64 mid, .int .i64 high, .sl (ls.map Ld.av) none] z := List.take_of_length_le (by simp [trC, nums42_len, hz])
    have hln : (trC [.int .i64 len, .int .i64 wid, .int .i64 front, .int .i64 rear, .int .i64 turn, .int .i64 kilos, .int .i64 mid, .int .i64 high, .sl (ls.map Ld.av) none] z).length = 51 := by simp [trC, nums42_len, hz]
    have hpl := trC_plain [.int .i64 len, .int .i64 wid, .int .i64 front, .int .i64 rear, .int .i64 turn, .int .i64 kilos, .int .i64 mid, .int .i64 high, .sl (ls.map Ld.av) none] z rfl
    have t2 : (trC [.int .i64 len, .int .i64 wid, .int .i64 front, .int .i64 rear, .int .i64 turn, .int .i64 kilos, .int .i64 mid, .int .i64 high, .sl (ls.map Ld.av) none] z)[2]? = some (.int .i64 front) := rfl
    have t3 : (trC [.int .i64 len, .int .i64 wid, .int .i64 front, .int .i64 rear, .int .i64 turn, .int .i64 kilos, .int .i64 mid, .int .i64 high, .sl (ls.map Ld.av) none] z)[3]? = some (.int .i64 rear) := rfl
    show Does Try.prog 86 [.agg (trC [.int .i64 len, .int .i64 wid, .int .i64 front, .int .i64 rear, .int .i64 turn, .int .i64 kilos, .int .i64 mid, .int .i64 high, .sl (ls.map Ld.av) none] z), .agg [.int .i64 2, .int .i64 a, .int .i64 b]] [] fun v c' => v = .bool (decide (hgt high gt ls ≤ a)) ∧ c' = []
    generalize hgt high gt ls = HG at d1 ⊢
    generalize trC [.int .i64 len, .int .i64 wid, .int .i64 front, .int .i64 rear, .int .i64 turn, .int .i64 kilos, .int .i64 mid, .int .i64 high, .sl (ls.map Ld.av) none] z = T at hcT d1 hsc htk hln hpl t2 t3 ⊢
    refine Does.of comp86 ?_
    unfold F86
    simp only [start, List.length_cons, List.length_nil, List.replicate, List.cons_append, List.nil_append, Nat.reduceAdd, Nat.reduceSub]
    (repeat (first|((first|refine ExO.nil ?_|refine Ex.skip ?_|refine Ex.ret ?_|refine Ex.exit ?_); try dsimp only)|((first|(refine xI ?_; intro _ _)|refine xL ?_|(refine xB ?_; intro _ _)|refine xG ?_|refine xS ?_|refine xM ?_|(refine xC ?_; intro _ _)|refine xW ?_); try simp only [sA])|refine Ex.seq ?_|refine Ex.reg ?_|refine Ex.block ?_|refine eT ?_|refine eF ?_|simp only [reduceCtorEq, AEx.ex.injEq, Nat.reduceEqDiff, if_true, if_false]))
    apply Ex.drawE (only_ok [(59, [.agg T], .int .i64 HG)]) [] [] []
    case hD =>
      simp only [List.take_succ_cons, List.take_zero, List.append_nil]
      (apply DrO.pure; (case hw => rfl); (case hd => rfl); (case hv => (simp only [List.mem_cons, List.not_mem_nil, or_false, forall_eq_or_imp, forall_eq]; simp [vA, fRes_eq, htk, hln]; first | done | exact ⟨⟨rfl, rfl⟩, rfl⟩ | exact ⟨rfl, rfl⟩ | exact rfl | (refine ⟨rfl, ?_⟩; first | done | rfl | simp))); (try simp only [sA]))
      apply DrO.call 59 [.agg T] (.int .i64 HG) rfl rfl (by simp [aop, evd]) (fun st _ => call_only st rfl (by simp [ren, ren1, AV.plain, AV.plain1, AV.clean, hpl, hcT]) d1 (by simp) (by simp) (fun n => rfl))
      simp only [putA, List.set_cons_zero, List.set_cons_succ]
      (repeat (first | exact DrO.nil rfl | (apply DrO.eff; (case hw => rfl); (case hd => rfl); (case hl => rfl); (case hs => rfl); (case hs' => rfl); (case hv => (simp [vA, fRes_eq]; first|done|exact ⟨⟨rfl,rfl⟩,rfl⟩|exact ⟨rfl,rfl⟩|exact rfl)); (try simp only [sA])) | (apply DrO.pure; (case hw => rfl); (case hd => rfl); (case hv => (simp only [List.mem_cons, List.not_mem_nil, or_false, forall_eq_or_imp, forall_eq]; simp [vA, fRes_eq]; first | done | exact ⟨⟨rfl, rfl⟩, rfl⟩ | exact ⟨rfl, rfl⟩ | exact rfl | (refine ⟨rfl, ?_⟩; first | done | rfl | simp))); (try simp only [sA]))))
    simp only [List.drop_succ_cons, List.drop_zero, List.getLastD_cons, List.getLastD_nil, List.append_nil, List.cons_append, List.nil_append]
    (repeat (first|((first|refine ExO.nil ?_|refine Ex.skip ?_|refine Ex.ret ?_|refine Ex.exit ?_); try dsimp only)|((first|(refine xI ?_; intro _ _)|refine xL ?_|(refine xB ?_; intro _ _)|refine xG ?_|refine xS ?_|refine xM ?_|(refine xC ?_; intro _ _)|refine xW ?_); try simp only [sA])|refine Ex.seq ?_|refine Ex.reg ?_|refine Ex.block ?_|refine eT ?_|refine eF ?_|simp only [reduceCtorEq, AEx.ex.injEq, Nat.reduceEqDiff, if_true, if_false]))
    rename_i c hc
    subst hc
    simp [evRes, evRes1, one, AV.names, takeCells]
  · simp only [] at k1 k2 k3 k4 k5
    subst k1
    have d1 := bridge_m len wid front rear turn kilos mid high hF ls hlen gk gt z hz hk ht hw a b k4 k5
    have hcF : cleanL [.int .i64 len, .int .i64 wid, .int .i64 front, .int .i64 rear, .int .i64 turn, .int .i64 kilos, .int .i64 mid, .int .i64 high, .sl (ls.map Ld.av) none] = true := by simp [cleanL, AV.clean, clean_lds]
    have hcT := trC_clean [.int .i64 len, .int .i64 wid, .int .i64 front, .int .i64 rear, .int .i64 turn, .int .i64 kilos, .int .i64 mid, .int .i64 high, .sl (ls.map Ld.av) none] z hcF
    have hsc := trC_scal [.int .i64 len, .int .i64 wid, .int .i64 front, .int .i64 rear, .int .i64 turn, .int .i64 kilos, .int .i64 mid, .int .i64 high, .sl (ls.map Ld.av) none] z (by simp [AV.scalar])
    have htk : (trC [.int .i64 len, .int .i64 wid, .int .i64 front, .int .i64 rear, .int .i64 turn, .int .i64 kilos, .int .i64 mid, .int .i64 high, .sl (ls.map Ld.av) none] z).take 51 = trC [.int .i64 len, .int .i64 wid, .int .i64 front, .int .i64 rear, .int .i64 turn, .int .i64 kilos, .int .i64 mid, .int .i64 high, .sl (ls.map Ld.av) none] z := List.take_of_length_le (by simp [trC, nums42_len, hz])
    have hln : (trC [.int .i64 len, .int .i64 wid, .int .i64 front, .int .i64 rear, .int .i64 turn, .int .i64 kilos, .int .i64 mid, .int .i64 high, .sl (ls.map Ld.av) none] z).length = 51 := by simp [trC, nums42_len, hz]
    have hpl := trC_plain [.int .i64 len, .int .i64 wid, .int .i64 front, .int .i64 rear, .int .i64 turn, .int .i64 kilos, .int .i64 mid, .int .i64 high, .sl (ls.map Ld.av) none] z rfl
    have t2 : (trC [.int .i64 len, .int .i64 wid, .int .i64 front, .int .i64 rear, .int .i64 turn, .int .i64 kilos, .int .i64 mid, .int .i64 high, .sl (ls.map Ld.av) none] z)[2]? = some (.int .i64 front) := rfl
    have t3 : (trC [.int .i64 len, .int .i64 wid, .int .i64 front, .int .i64 rear, .int .i64 turn, .int .i64 kilos, .int .i64 mid, .int .i64 high, .sl (ls.map Ld.av) none] z)[3]? = some (.int .i64 rear) := rfl
    show Does Try.prog 86 [.agg (trC [.int .i64 len, .int .i64 wid, .int .i64 front, .int .i64 rear, .int .i64 turn, .int .i64 kilos, .int .i64 mid, .int .i64 high, .sl (ls.map Ld.av) none] z), .agg [.int .i64 3, .int .i64 a, .int .i64 b]] [] fun v c' => v = .bool (bridgeB front rear (wts kilos mid gk ls) a b) ∧ c' = []
    generalize bridgeB front rear (wts kilos mid gk ls) a b = BB at d1 ⊢
    generalize trC [.int .i64 len, .int .i64 wid, .int .i64 front, .int .i64 rear, .int .i64 turn, .int .i64 kilos, .int .i64 mid, .int .i64 high, .sl (ls.map Ld.av) none] z = T at hcT d1 hsc htk hln hpl t2 t3 ⊢
    refine Does.of comp86 ?_
    unfold F86
    simp only [start, List.length_cons, List.length_nil, List.replicate, List.cons_append, List.nil_append, Nat.reduceAdd, Nat.reduceSub]
    (repeat (first|((first|refine ExO.nil ?_|refine Ex.skip ?_|refine Ex.ret ?_|refine Ex.exit ?_); try dsimp only)|((first|(refine xI ?_; intro _ _)|refine xL ?_|(refine xB ?_; intro _ _)|refine xG ?_|refine xS ?_|refine xM ?_|(refine xC ?_; intro _ _)|refine xW ?_); try simp only [sA])|refine Ex.seq ?_|refine Ex.reg ?_|refine Ex.block ?_|refine eT ?_|refine eF ?_|simp only [reduceCtorEq, AEx.ex.injEq, Nat.reduceEqDiff, if_true, if_false]))
    (apply ExO.stG; (case hk => rfl); (case hv => (simp [vA, fRes_eq, htk, hln]; first|done|exact ⟨⟨rfl,rfl⟩,rfl⟩|exact ⟨rfl,rfl⟩|exact rfl)); (try simp only [sA]))
    (repeat (first|((first|refine ExO.nil ?_|refine Ex.skip ?_|refine Ex.ret ?_|refine Ex.exit ?_); try dsimp only)|((first|(refine xI ?_; intro _ _)|refine xL ?_|(refine xB ?_; intro _ _)|refine xG ?_|refine xS ?_|refine xM ?_|(refine xC ?_; intro _ _)|refine xW ?_); try simp only [sA])|refine Ex.seq ?_|refine Ex.reg ?_|refine Ex.block ?_|refine eT ?_|refine eF ?_|simp only [reduceCtorEq, AEx.ex.injEq, Nat.reduceEqDiff, if_true, if_false]))
    refine ExO.call (f := 96) (xs := [.agg T, .int .i64 a, .int .i64 b]) (ys := [.agg T, .int .i64 a, .int .i64 b]) (bs := []) (cells := []) (by rfl) (by rfl) (by rfl) (by simp [ren, ren1, AV.plain, AV.plain1, AV.clean, hpl, hcT]) (by rfl) (by rfl) d1 ?_
    rintro v c' ⟨rfl, rfl⟩
    refine ⟨_, rfl, rfl, ?_⟩
    simp only [List.map_cons, List.map_nil, putA, List.set_cons_zero, List.set_cons_succ, AV.plain, AV.plain1, setAll, List.length_cons, List.length_nil, List.drop_succ_cons, List.drop_zero, List.drop_nil, List.append_nil, Nat.reduceAdd]
    (repeat (first|((first|refine ExO.nil ?_|refine Ex.skip ?_|refine Ex.ret ?_|refine Ex.exit ?_); try dsimp only)|((first|(refine xI ?_; intro _ _)|refine xL ?_|(refine xB ?_; intro _ _)|refine xG ?_|refine xS ?_|refine xM ?_|(refine xC ?_; intro _ _)|refine xW ?_); try simp only [sA])|refine Ex.seq ?_|refine Ex.reg ?_|refine Ex.block ?_|refine eT ?_|refine eF ?_|simp only [reduceCtorEq, AEx.ex.injEq, Nat.reduceEqDiff, if_true, if_false]))
    simp [evRes, evRes1, one, AV.names, takeCells]

def standB (front rear : Int) (ws : List (Int × Int)) : Bool := decide (0 ≤ -mom rear ws) && decide (0 ≤ mom front ws)
theorem stands_m (len wid front rear turn kilos mid high : Int) (hF : FOk ⟨len, wid, front, rear, turn, kilos, mid, high⟩) (ls : List Ld) (hlen : ls.length ≤ 20) (gk : Ld → Int) (z : List Int) (hz : z.length = 42) (hk : ∀ (j : Nat) l, ls[j]? = some l → z[j]? = some (gk l)) (hw : ∀ w ∈ wts kilos mid gk ls, WOk w) : Does Try.prog 61 [.agg (trC [.int .i64 len, .int .i64 wid, .int .i64 front, .int .i64 rear, .int .i64 turn, .int .i64 kilos, .int .i64 mid, .int .i64 high, .sl (ls.map Ld.av) none] z)] [] fun v c' => v = .bool (standB front rear (wts kilos mid gk ls)) ∧ c' = [] := by
  have hF' : 2 ≤ len ∧ len ≤ 1200 ∧ 1 ≤ wid ∧ wid ≤ 400 ∧ 0 ≤ front ∧ front < rear ∧ rear ≤ len ∧ 0 ≤ turn ∧ turn < 1500 ∧ 0 ≤ kilos ∧ kilos < 5000 ∧ 0 ≤ mid ∧ mid ≤ len ∧ 0 ≤ high ∧ high < 500 := hF
  have d2 := onFront_m len wid front rear turn kilos mid high gk z ls hlen hz hk hw (by omega) (by omega)
  have d3 := onRear_m len wid front rear turn kilos mid high gk z ls hlen hz hk hw (by omega) (by omega)
  have hcF : cleanL [.int .i64 len, .int .i64 wid, .int .i64 front, .int .i64 rear, .int .i64 turn, .int .i64 kilos, .int .i64 mid, .int .i64 high, .sl (ls.map Ld.av) none] = true := by simp [cleanL, AV.clean, clean_lds]
  have hcT := trC_clean [.int .i64 len, .int .i64 wid, .int .i64 front, .int .i64 rear, .int .i64 turn, .int .i64 kilos, .int .i64 mid, .int .i64 high, .sl (ls.map Ld.av) none] z hcF
  have hsc := trC_scal [.int .i64 len, .int .i64 wid, .int .i64 front, .int .i64 rear, .int .i64 turn, .int .i64 kilos, .int .i64 mid, .int .i64 high, .sl (ls.map Ld.av) none] z (by simp [AV.scalar])
  have htk : (trC [.int .i64 len, .int .i64 wid, .int .i64 front, .int .i64 rear, .int .i64 turn, .int .i64 kilos, .int .i64 mid, .int .i64 high, .sl (ls.map Ld.av) none] z).take 51 = trC [.int .i64 len, .int .i64 wid, .int .i64 front, .int .i64 rear, .int .i64 turn, .int .i64 kilos, .int .i64 mid, .int .i64 high, .sl (ls.map Ld.av) none] z := List.take_of_length_le (by simp [trC, nums42_len, hz])
  have hln : (trC [.int .i64 len, .int .i64 wid, .int .i64 front, .int .i64 rear, .int .i64 turn, .int .i64 kilos, .int .i64 mid, .int .i64 high, .sl (ls.map Ld.av) none] z).length = 51 := by simp [trC, nums42_len, hz]
  have hpl := trC_plain [.int .i64 len, .int .i64 wid, .int .i64 front, .int .i64 rear, .int .i64 turn, .int .i64 kilos, .int .i64 mid, .int .i64 high, .sl (ls.map Ld.av) none] z rfl
  have t2 : (trC [.int .i64 len, .int .i64 wid, .int .i64 front, .int .i64 rear, .int .i64 turn, .int .i64 kilos, .int .i64 mid, .int .i64 high, .sl (ls.map Ld.av) none] z)[2]? = some (.int .i64 front) := rfl
  have t3 : (trC [.int .i64 len, .int .i64 wid, .int .i64 front, .int .i64 rear, .int .i64 turn, .int .i64 kilos, .int .i64 mid, .int .i64 high, .sl (ls.map Ld.av) none] z)[3]? = some (.int .i64 rear) := rfl
  unfold standB
  generalize mom rear (wts kilos mid gk ls) = MR at d2 ⊢
  generalize mom front (wts kilos mid gk ls) = MF at d3 ⊢
  generalize trC [.int .i64 len, .int .i64 wid, .int .i64 front, .int .i64 rear, .int .i64 turn, .int .i64 kilos, .int .i64 mid, .int .i64 high, .sl (ls.map Ld.av) none] z = T at hcT d2 d3 hsc htk hln hpl t2 t3 ⊢
  refine Does.of comp61 ?_
  unfold F61
  simp only [start, List.length_cons, List.length_nil, List.replicate, List.cons_append, List.nil_append, Nat.reduceAdd, Nat.reduceSub]
  (repeat (first|((first|refine ExO.nil ?_|refine Ex.skip ?_|refine Ex.ret ?_|refine Ex.exit ?_); try dsimp only)|((first|(refine xI ?_; intro _ _)|refine xL ?_|(refine xB ?_; intro _ _)|refine xG ?_|refine xS ?_|refine xM ?_|(refine xC ?_; intro _ _)|refine xW ?_); try simp only [sA])|refine Ex.seq ?_|refine Ex.reg ?_|refine Ex.block ?_|refine eT ?_|refine eF ?_|simp only [reduceCtorEq, AEx.ex.injEq, Nat.reduceEqDiff, if_true, if_false]))
  (apply ExO.stG; (case hk => rfl); (case hv => (simp [vA, fRes_eq, htk, hln]; first|done|exact ⟨⟨rfl,rfl⟩,rfl⟩|exact ⟨rfl,rfl⟩|exact rfl)); (try simp only [sA]))
  (repeat (first|((first|refine ExO.nil ?_|refine Ex.skip ?_|refine Ex.ret ?_|refine Ex.exit ?_); try dsimp only)|((first|(refine xI ?_; intro _ _)|refine xL ?_|(refine xB ?_; intro _ _)|refine xG ?_|refine xS ?_|refine xM ?_|(refine xC ?_; intro _ _)|refine xW ?_); try simp only [sA])|refine Ex.seq ?_|refine Ex.reg ?_|refine Ex.block ?_|refine eT ?_|refine eF ?_|simp only [reduceCtorEq, AEx.ex.injEq, Nat.reduceEqDiff, if_true, if_false]))
  refine ExO.call (f := 57) (xs := [.agg T]) (ys := [.agg T]) (bs := []) (cells := []) (by rfl) (by rfl) (by rfl) (by simp [ren, ren1, AV.plain, AV.plain1, AV.clean, hpl, hcT]) (by rfl) (by rfl) d2 ?_
  rintro v c' ⟨rfl, rfl⟩
  refine ⟨_, rfl, rfl, ?_⟩
  simp only [List.map_cons, List.map_nil, putA, List.set_cons_zero, List.set_cons_succ, AV.plain, AV.plain1, setAll, List.length_cons, List.length_nil, List.drop_succ_cons, List.drop_zero, List.drop_nil, List.append_nil, Nat.reduceAdd]
  (repeat (first|((first|refine ExO.nil ?_|refine Ex.skip ?_|refine Ex.ret ?_|refine Ex.exit ?_); try dsimp only)|((first|(refine xI ?_; intro _ _)|refine xL ?_|(refine xB ?_; intro _ _)|refine xG ?_|refine xS ?_|refine xM ?_|(refine xC ?_; intro _ _)|refine xW ?_); try simp only [sA])|refine Ex.seq ?_|refine Ex.reg ?_|refine Ex.block ?_|refine eT ?_|refine eF ?_|simp only [reduceCtorEq, AEx.ex.injEq, Nat.reduceEqDiff, if_true, if_false]))
  rename_i c hc
  cases c
  · (repeat (first|((first|refine ExO.nil ?_|refine Ex.skip ?_|refine Ex.ret ?_|refine Ex.exit ?_); try dsimp only)|((first|(refine xI ?_; intro _ _)|refine xL ?_|(refine xB ?_; intro _ _)|refine xG ?_|refine xS ?_|refine xM ?_|(refine xC ?_; intro _ _)|refine xW ?_); try simp only [sA])|refine Ex.seq ?_|refine Ex.reg ?_|refine Ex.block ?_|refine eT ?_|refine eF ?_|simp only [reduceCtorEq, AEx.ex.injEq, Nat.reduceEqDiff, if_true, if_false]))
    have hn : ¬ 0 ≤ -MR := by simpa using hc.symm
    simp [evRes, evRes1, one, AV.names, takeCells]
    omega
  · have hy2 : 0 ≤ -MR := by simpa using hc.symm
    (repeat (first|((first|refine ExO.nil ?_|refine Ex.skip ?_|refine Ex.ret ?_|refine Ex.exit ?_); try dsimp only)|((first|(refine xI ?_; intro _ _)|refine xL ?_|(refine xB ?_; intro _ _)|refine xG ?_|refine xS ?_|refine xM ?_|(refine xC ?_; intro _ _)|refine xW ?_); try simp only [sA])|refine Ex.seq ?_|refine Ex.reg ?_|refine Ex.block ?_|refine eT ?_|refine eF ?_|simp only [reduceCtorEq, AEx.ex.injEq, Nat.reduceEqDiff, if_true, if_false]))
    (apply ExO.stW; (case hw => simp [wantedA]); (case hv => (simp [vA, fRes_eq, htk, hln]; first|done|exact ⟨⟨rfl,rfl⟩,rfl⟩|exact ⟨rfl,rfl⟩|exact rfl)); (try simp only [sA]))
    (repeat (first|((first|refine ExO.nil ?_|refine Ex.skip ?_|refine Ex.ret ?_|refine Ex.exit ?_); try dsimp only)|((first|(refine xI ?_; intro _ _)|refine xL ?_|(refine xB ?_; intro _ _)|refine xG ?_|refine xS ?_|refine xM ?_|(refine xC ?_; intro _ _)|refine xW ?_); try simp only [sA])|refine Ex.seq ?_|refine Ex.reg ?_|refine Ex.block ?_|refine eT ?_|refine eF ?_|simp only [reduceCtorEq, AEx.ex.injEq, Nat.reduceEqDiff, if_true, if_false]))
    refine ExO.call (f := 58) (xs := [.agg T]) (ys := [.agg T]) (bs := []) (cells := []) (by rfl) (by rfl) (by rfl) (by simp [ren, ren1, AV.plain, AV.plain1, AV.clean, hpl, hcT]) (by rfl) (by rfl) d3 ?_
    rintro v c' ⟨rfl, rfl⟩
    refine ⟨_, rfl, rfl, ?_⟩
    simp only [List.map_cons, List.map_nil, putA, List.set_cons_zero, List.set_cons_succ, AV.plain, AV.plain1, setAll, List.length_cons, List.length_nil, List.drop_succ_cons, List.drop_zero, List.drop_nil, List.append_nil, Nat.reduceAdd]
    (repeat (first|((first|refine ExO.nil ?_|refine Ex.skip ?_|refine Ex.ret ?_|refine Ex.exit ?_); try dsimp only)|((first|(refine xI ?_; intro _ _)|refine xL ?_|(refine xB ?_; intro _ _)|refine xG ?_|refine xS ?_|refine xM ?_|(refine xC ?_; intro _ _)|refine xW ?_); try simp only [sA])|refine Ex.seq ?_|refine Ex.reg ?_|refine Ex.block ?_|refine eT ?_|refine eF ?_|simp only [reduceCtorEq, AEx.ex.injEq, Nat.reduceEqDiff, if_true, if_false]))
    rename_i c hc
    subst hc
    simp [evRes, evRes1, one, AV.names, takeCells]
    omega
end Go.Proofs.Ytoefpcpijolofaa
end
section
namespace Go.Proofs.Ytoefpcpijolofaa
open Go.RowKit
set_option linter.unusedVariables false
set_option linter.unusedSimpArgs false
set_option maxRecDepth 10000
set_option maxHeartbeats 4000000

def vdl (P2 P1 : Hd → Bool) (hs : List Hd) : List AV := hs.map fun h => .int .i64 (verd (P2 h) (P1 h))
theorem vdl_len (P2 P1 : Hd → Bool) (hs : List Hd) : (vdl P2 P1 hs).length = hs.length := by simp [vdl]
theorem vdl_all (P2 P1 : Hd → Bool) (hs : List Hd) : ∀ x ∈ vdl P2 P1 hs, x.cells.length = 1 := by
  intro x hx
  obtain ⟨p, _, rfl⟩ := List.mem_map.1 hx
  rfl
theorem clean_vdl (P2 P1 : Hd → Bool) (hs : List Hd) : cleanL (vdl P2 P1 hs) = true := by
  rw [cleanL_iff]
  intro x hx
  obtain ⟨p, _, rfl⟩ := List.mem_map.1 hx
  rfl

theorem verdictsAll_m (len wid front rear turn kilos mid high : Int) (hF : FOk ⟨len, wid, front, rear, turn, kilos, mid, high⟩) (ls : List Ld) (hlen : ls.length ≤ 20) (hall : ∀ l ∈ ls, LOk ⟨len, wid, front, rear, turn, kilos, mid, high⟩ l) (hs : List Hd) (hn : hs.length ≤ 40) (hok : ∀ h ∈ hs, HOk h) : Does Try.prog 63 [.agg [.int .i64 len, .int .i64 wid, .int .i64 front, .int .i64 rear, .int .i64 turn, .int .i64 kilos, .int .i64 mid, .int .i64 high, .sl (ls.map Ld.av) none], .sl (hs.map Hd.av) none] [] fun v c' => v = .sl (vdl (passB len wid front rear turn kilos mid high Ld.khi Ld.thi ls) (passB len wid front rear turn kilos mid high Ld.klo Ld.tlo ls) hs) none ∧ c' = [] := by
  have hF' : 2 ≤ len ∧ len ≤ 1200 ∧ 1 ≤ wid ∧ wid ≤ 400 ∧ 0 ≤ front ∧ front < rear ∧ rear ≤ len ∧ 0 ≤ turn ∧ turn < 1500 ∧ 0 ≤ kilos ∧ kilos < 5000 ∧ 0 ≤ mid ∧ mid ≤ len ∧ 0 ≤ high ∧ high < 500 := hF
  have hw1 := wts_ok _ hF Ld.klo (klo_ok _) ls hall
  have hw2 := wts_ok _ hF Ld.khi (khi_ok _) ls hall
  simp only [] at hw1 hw2
  have hcF : cleanL [.int .i64 len, .int .i64 wid, .int .i64 front, .int .i64 rear, .int .i64 turn, .int .i64 kilos, .int .i64 mid, .int .i64 high, .sl (ls.map Ld.av) none] = true := by simp [cleanL, AV.clean, clean_lds]
  refine Does.of comp63 ?_
  unfold F63
  simp only [start, List.length_cons, List.length_nil, List.replicate, List.cons_append, List.nil_append, Nat.reduceAdd, Nat.reduceSub]
  (repeat (first|((first|refine ExO.nil ?_|refine Ex.skip ?_|refine Ex.ret ?_|refine Ex.exit ?_); try dsimp only)|((first|(refine xI ?_; intro _ _)|refine xL ?_|(refine xB ?_; intro _ _)|refine xG ?_|refine xS ?_|refine xM ?_|(refine xC ?_; intro _ _)|refine xW ?_); try simp only [sA])|refine Ex.seq ?_|refine Ex.reg ?_|refine Ex.block ?_|refine eT ?_|refine eF ?_|simp only [reduceCtorEq, AEx.ex.injEq, Nat.reduceEqDiff, if_true, if_false]))
  refine ExO.call (f := 54) (xs := [.agg [.int .i64 len, .int .i64 wid, .int .i64 front, .int .i64 rear, .int .i64 turn, .int .i64 kilos, .int .i64 mid, .int .i64 high, .sl (ls.map Ld.av) none]]) (ys := [.agg [.int .i64 len, .int .i64 wid, .int .i64 front, .int .i64 rear, .int .i64 turn, .int .i64 kilos, .int .i64 mid, .int .i64 high, .sl (ls.map Ld.av) none]]) (bs := []) (cells := []) (by rfl) (by rfl) (by rfl) (by simp [ren, ren1, AV.plain, AV.plain1, AV.clean, cleanL, clean_lds]) (by rfl) (by rfl) (ends_n len wid front rear turn kilos mid high _ ls (.inl rfl) hlen) ?_
  rintro v c' ⟨z1, z2, k1, k2, k3, rfl, rfl⟩
  have hpl := endsC_plain [.int .i64 len, .int .i64 wid, .int .i64 front, .int .i64 rear, .int .i64 turn, .int .i64 kilos, .int .i64 mid, .int .i64 high, .sl (ls.map Ld.av) none] z1 z2 rfl
  have hcE := endsC_clean [.int .i64 len, .int .i64 wid, .int .i64 front, .int .i64 rear, .int .i64 turn, .int .i64 kilos, .int .i64 mid, .int .i64 high, .sl (ls.map Ld.av) none] z1 z2 hcF
  refine ⟨.agg (endsC [.int .i64 len, .int .i64 wid, .int .i64 front, .int .i64 rear, .int .i64 turn, .int .i64 kilos, .int .i64 mid, .int .i64 high, .sl (ls.map Ld.av) none] z1 z2), by simp [back, back1, AV.plain, AV.plain1, AV.clean, hpl, hcE], rfl, ?_⟩
  simp only [List.map_cons, List.map_nil, putA, List.set_cons_zero, List.set_cons_succ, AV.plain, AV.plain1, setAll, List.length_cons, List.length_nil, List.drop_succ_cons, List.drop_zero, List.drop_nil, List.append_nil, Nat.reduceAdd]
  have n1 := endsC_len [.int .i64 len, .int .i64 wid, .int .i64 front, .int .i64 rear, .int .i64 turn, .int .i64 kilos, .int .i64 mid, .int .i64 high, .sl (ls.map Ld.av) none] z1 z2 rfl k1 k2
  have n0 : zeros102.length = 102 := endsC_len _ _ _ rfl rfl rfl
  have q1 := endsC_scal [.int .i64 len, .int .i64 wid, .int .i64 front, .int .i64 rear, .int .i64 turn, .int .i64 kilos, .int .i64 mid, .int .i64 high, .sl (ls.map Ld.av) none] z1 z2 (by simp [AV.scalar])
  have q2 := layAt_full zeros102 (endsC [.int .i64 len, .int .i64 wid, .int .i64 front, .int .i64 rear, .int .i64 turn, .int .i64 kilos, .int .i64 mid, .int .i64 high, .sl (ls.map Ld.av) none] z1 z2) (by rw [n0, n1])
  have g1 := ends_hi [.int .i64 len, .int .i64 wid, .int .i64 front, .int .i64 rear, .int .i64 turn, .int .i64 kilos, .int .i64 mid, .int .i64 high, .sl (ls.map Ld.av) none] z1 z2 rfl k1 k2
  have g2 := ends_lo [.int .i64 len, .int .i64 wid, .int .i64 front, .int .i64 rear, .int .i64 turn, .int .i64 kilos, .int .i64 mid, .int .i64 high, .sl (ls.map Ld.av) none] z1 z2 rfl k1
  refine ExO.stG (.ptr 1 0) ⟨[[.int .i64 len, .int .i64 wid, .int .i64 front, .int .i64 rear, .int .i64 turn, .int .i64 kilos, .int .i64 mid, .int .i64 high, .sl (ls.map Ld.av) none], zeros102], []⟩ rfl (by kernel_rfl) ?_
  simp only [putA, List.set_cons_zero, List.set_cons_succ]
  (apply ExO.stG; (case hk => rfl); (case hv => (simp [vA, fRes_eq, n0, n1, q1, q2]; first|done|exact ⟨⟨rfl,rfl⟩,rfl⟩|exact ⟨rfl,rfl⟩|exact rfl)); (try simp only [sA]))
  (repeat (first|((first|refine ExO.nil ?_|refine Ex.skip ?_|refine Ex.ret ?_|refine Ex.exit ?_); try dsimp only)|((first|(refine xI ?_; intro _ _)|refine xL ?_|(refine xB ?_; intro _ _)|refine xG ?_|refine xS ?_|refine xM ?_|(refine xC ?_; intro _ _)|refine xW ?_); try simp only [sA])|refine Ex.seq ?_|refine Ex.reg ?_|refine Ex.block ?_|refine eT ?_|refine eF ?_|simp only [reduceCtorEq, AEx.ex.injEq, Nat.reduceEqDiff, if_true, if_false]))
  apply Ex.drawE (noClr_ok _) [] [] []
  case hD =>
    simp only [List.take_succ_cons, List.take_zero]
    (repeat (first | exact DrO.nil rfl | (apply DrO.eff; (case hw => rfl); (case hd => rfl); (case hl => rfl); (case hs => rfl); (case hs' => rfl); (case hv => (simp [vA, fRes_eq, n1, g1, g2]; first|done|exact ⟨⟨rfl,rfl⟩,rfl⟩|exact ⟨rfl,rfl⟩|exact rfl)); (try simp only [sA])) | (apply DrO.pure; (case hw => rfl); (case hd => rfl); (case hv => (simp only [List.mem_cons, List.not_mem_nil, or_false, forall_eq_or_imp, forall_eq]; simp [vA, fRes_eq, n1, g1, g2]; first | done | exact ⟨⟨rfl, rfl⟩, rfl⟩ | exact ⟨rfl, rfl⟩ | exact rfl | (refine ⟨rfl, ?_⟩; first | done | rfl | simp))); (try simp only [sA]))))
  simp only [List.drop_succ_cons, List.drop_zero, List.getLastD_cons, List.getLastD_nil, List.append_nil, List.cons_append, List.nil_append]
  (repeat (first|((first|refine ExO.nil ?_|refine Ex.skip ?_|refine Ex.ret ?_|refine Ex.exit ?_); try dsimp only)|((first|(refine xI ?_; intro _ _)|refine xL ?_|(refine xB ?_; intro _ _)|refine xG ?_|refine xS ?_|refine xM ?_|(refine xC ?_; intro _ _)|refine xW ?_); try simp only [sA])|refine Ex.seq ?_|refine Ex.reg ?_|refine Ex.block ?_|refine eT ?_|refine eF ?_|simp only [reduceCtorEq, AEx.ex.injEq, Nat.reduceEqDiff, if_true, if_false]))
  have hre : ∀ σ, List.mapM (re 2 σ) [.int .i64 len, .int .i64 wid, .int .i64 front, .int .i64 rear, .int .i64 turn, .int .i64 kilos, .int .i64 mid, .int .i64 high, .sl (ls.map Ld.av) none] = some [.int .i64 len, .int .i64 wid, .int .i64 front, .int .i64 rear, .int .i64 turn, .int .i64 kilos, .int .i64 mid, .int .i64 high, .sl (ls.map Ld.av) none] := fun σ => by simp [re, re1, AV.clean, clean_lds, cleanL]
  have hreE := fun σ => endsC_re 2 σ [.int .i64 len, .int .i64 wid, .int .i64 front, .int .i64 rear, .int .i64 turn, .int .i64 kilos, .int .i64 mid, .int .i64 high, .sl (ls.map Ld.av) none] z1 z2 (hre σ)
  have hc1 := trC_clean [.int .i64 len, .int .i64 wid, .int .i64 front, .int .i64 rear, .int .i64 turn, .int .i64 kilos, .int .i64 mid, .int .i64 high, .sl (ls.map Ld.av) none] z1 hcF
  have hc2 := trC_clean [.int .i64 len, .int .i64 wid, .int .i64 front, .int .i64 rear, .int .i64 turn, .int .i64 kilos, .int .i64 mid, .int .i64 high, .sl (ls.map Ld.av) none] z2 hcF
  have hpl1 := trC_plain [.int .i64 len, .int .i64 wid, .int .i64 front, .int .i64 rear, .int .i64 turn, .int .i64 kilos, .int .i64 mid, .int .i64 high, .sl (ls.map Ld.av) none] z1 rfl
  have hpl2 := trC_plain [.int .i64 len, .int .i64 wid, .int .i64 front, .int .i64 rear, .int .i64 turn, .int .i64 kilos, .int .i64 mid, .int .i64 high, .sl (ls.map Ld.av) none] z2 rfl
  have hz1 : (∀ (j : Nat) l, ls[j]? = some l → z1[j]? = some l.klo) ∧ (∀ (j : Nat) l, ls[j]? = some l → z1[21 + j]? = some l.tlo) := ⟨fun j l h => (k3 j (List.getElem?_eq_some_iff.1 h).1 l h).1, fun j l h => (k3 j (List.getElem?_eq_some_iff.1 h).1 l h).2.1⟩
  have hz2 : (∀ (j : Nat) l, ls[j]? = some l → z2[j]? = some l.khi) ∧ (∀ (j : Nat) l, ls[j]? = some l → z2[21 + j]? = some l.thi) := ⟨fun j l h => (k3 j (List.getElem?_eq_some_iff.1 h).1 l h).2.2.1, fun j l h => (k3 j (List.getElem?_eq_some_iff.1 h).1 l h).2.2.2⟩
  have d1 : ∀ h, HOk h → Contract Try.prog 86 [.agg (trC [.int .i64 len, .int .i64 wid, .int .i64 front, .int .i64 rear, .int .i64 turn, .int .i64 kilos, .int .i64 mid, .int .i64 high, .sl (ls.map Ld.av) none] z1), Hd.av h] [] (.bool (passB len wid front rear turn kilos mid high Ld.klo Ld.tlo ls h)) [] := fun h hh => Does.det (Nat.le_refl _) (passesAll_m len wid front rear turn kilos mid high hF ls hlen Ld.klo Ld.tlo z1 k1 hz1.1 hz1.2 hw1 h hh)
  have d2 : ∀ h, HOk h → Contract Try.prog 86 [.agg (trC [.int .i64 len, .int .i64 wid, .int .i64 front, .int .i64 rear, .int .i64 turn, .int .i64 kilos, .int .i64 mid, .int .i64 high, .sl (ls.map Ld.av) none] z2), Hd.av h] [] (.bool (passB len wid front rear turn kilos mid high Ld.khi Ld.thi ls h)) [] := fun h hh => Does.det (Nat.le_refl _) (passesAll_m len wid front rear turn kilos mid high hF ls hlen Ld.khi Ld.thi z2 k2 hz2.1 hz2.2 hw2 h hh)
  have hx : trC [.int .i64 len, .int .i64 wid, .int .i64 front, .int .i64 rear, .int .i64 turn, .int .i64 kilos, .int .i64 mid, .int .i64 high, .sl (ls.map Ld.av) none] z1 = trC [.int .i64 len, .int .i64 wid, .int .i64 front, .int .i64 rear, .int .i64 turn, .int .i64 kilos, .int .i64 mid, .int .i64 high, .sl (ls.map Ld.av) none] z2 → passB len wid front rear turn kilos mid high Ld.klo Ld.tlo ls = passB len wid front rear turn kilos mid high Ld.khi Ld.thi ls := by
    intro h
    have hkt : ∀ l ∈ ls, l.klo = l.khi ∧ l.tlo = l.thi := by
      intro l hl
      obtain ⟨j, hj⟩ := List.mem_iff_getElem?.1 hl
      have t1 := trC_get [.int .i64 len, .int .i64 wid, .int .i64 front, .int .i64 rear, .int .i64 turn, .int .i64 kilos, .int .i64 mid, .int .i64 high, .sl (ls.map Ld.av) none] z1 j _ rfl (hz1.1 j l hj)
      have t2 := trC_get [.int .i64 len, .int .i64 wid, .int .i64 front, .int .i64 rear, .int .i64 turn, .int .i64 kilos, .int .i64 mid, .int .i64 high, .sl (ls.map Ld.av) none] z2 j _ rfl (hz2.1 j l hj)
      have t3 := trC_get [.int .i64 len, .int .i64 wid, .int .i64 front, .int .i64 rear, .int .i64 turn, .int .i64 kilos, .int .i64 mid, .int .i64 high, .sl (ls.map Ld.av) none] z1 (21 + j) _ rfl (hz1.2 j l hj)
      have t4 := trC_get [.int .i64 len, .int .i64 wid, .int .i64 front, .int .i64 rear, .int .i64 turn, .int .i64 kilos, .int .i64 mid, .int .i64 high, .sl (ls.map Ld.av) none] z2 (21 + j) _ rfl (hz2.2 j l hj)
      rw [h] at t1 t3
      rw [t2] at t1
      rw [t4] at t3
      simp only [Option.some.injEq, AV.int.injEq, true_and] at t1 t3
      exact ⟨t1.symm, t3.symm⟩
    have e1 : wts kilos mid Ld.klo ls = wts kilos mid Ld.khi ls := by
      unfold wts
      congr 1
      exact List.map_congr_left fun l hl => by rw [(hkt l hl).1]
    have e2 : hgt high Ld.tlo ls = hgt high Ld.thi ls := by
      rw [← hgk_map, ← hgk_map]
      congr 1
      exact List.map_congr_left fun l hl => (hkt l hl).2
    funext h0
    unfold passB
    rw [e1, e2]
  have hq1 : ∀ (i : Nat), i ≤ hs.length → True := fun _ _ => trivial
  generalize passB len wid front rear turn kilos mid high Ld.klo Ld.tlo ls = P1 at d1 hx ⊢
  generalize passB len wid front rear turn kilos mid high Ld.khi Ld.thi ls = P2 at d2 hx ⊢
  clear hz1 hz2 k3 g1 g2 q1 q2 hpl hcE
  generalize trC [.int .i64 len, .int .i64 wid, .int .i64 front, .int .i64 rear, .int .i64 turn, .int .i64 kilos, .int .i64 mid, .int .i64 high, .sl (ls.map Ld.av) none] z1 = T1x at d1 hx hc1 hpl1 ⊢
  generalize trC [.int .i64 len, .int .i64 wid, .int .i64 front, .int .i64 rear, .int .i64 turn, .int .i64 kilos, .int .i64 mid, .int .i64 high, .sl (ls.map Ld.av) none] z2 = T2x at d2 hx hc2 hpl2 ⊢
  generalize (endsC [.int .i64 len, .int .i64 wid, .int .i64 front, .int .i64 rear, .int .i64 turn, .int .i64 kilos, .int .i64 mid, .int .i64 high, .sl (ls.map Ld.av) none] z1 z2) = EC at hreE n1 ⊢
  refine Ex.loopF (fun k a S => ∃ (i : Nat) (L8 : AV) (lv : List (Nat × Nat)), i ≤ hs.length ∧ k = hs.length - i ∧ ((i = 0 ∧ L8 = .nils ∧ lv = []) ∨ (L8 = .sl (vdl P2 P1 (hs.take i)) (some 0) ∧ lv = [(i, 1)])) ∧ a = [.junk, .junk, .junk, .junk, .junk, .junk, .fn 86 [.agg T2x] [], .fn 86 [.agg T1x] [], L8, .junk, .junk, .junk, .junk, .junk, .junk, .junk, .junk, .junk, .junk, .sl (hs.map Hd.av) none, .int .i64 hs.length, .int .i64 (i : Nat), .junk, .junk, .junk, .junk, .junk, .junk, .junk, .junk, .junk, .junk, .junk, .junk, .junk, .junk, .junk] ∧ S = ⟨[[.int .i64 len, .int .i64 wid, .int .i64 front, .int .i64 rear, .int .i64 turn, .int .i64 kilos, .int .i64 mid, .int .i64 high, .sl (ls.map Ld.av) none], EC], lv⟩) hs.length ?_ ?_
  · refine ⟨_, _, forgets 2 [] ([false, false, false, false, false, false, true, true, true, false, false, false, false, false, false, false, false, false, false, true, true, true, false, false, false, false, false, false, false, false, false, false, false, false, false, false, false]) (by decide) (by simp) (bx2 := [[.int .i64 len, .int .i64 wid, .int .i64 front, .int .i64 rear, .int .i64 turn, .int .i64 kilos, .int .i64 mid, .int .i64 high, .sl (ls.map Ld.av) none], EC]) (by simp only [List.take_succ_cons, List.take_zero, List.mapM_cons, List.mapM_nil, hre, hreE]; rfl) (by rfl) (by decide), 0, .nils, [], Nat.zero_le _, rfl, .inl ⟨rfl, rfl, rfl⟩, ?_, by rfl⟩
    simp [keepS, re, re1, AV.clean, clean_hds, hc1, hc2, cleanL]
  · rintro k a S ⟨i, L8, lv, hi, rfl, hL8, rfl, rfl⟩
    (repeat (first|((first|refine ExO.nil ?_|refine Ex.skip ?_|refine Ex.ret ?_|refine Ex.exit ?_); try dsimp only)|((first|(refine xI ?_; intro _ _)|refine xL ?_|(refine xB ?_; intro _ _)|refine xG ?_|refine xS ?_|refine xM ?_|(refine xC ?_; intro _ _)|refine xW ?_); try simp only [sA])|refine Ex.seq ?_|refine Ex.reg ?_|refine Ex.block ?_|refine eT ?_|refine eF ?_|simp only [reduceCtorEq, AEx.ex.injEq, Nat.reduceEqDiff, if_true, if_false]))
    rename_i c hc
    cases c
    · have hie : i = hs.length := by have := hc.symm; simp at this; omega
      rcases hL8 with ⟨h0, rfl, rfl⟩ | ⟨rfl, rfl⟩
      · have hs0 := List.eq_nil_of_length_eq_zero (show hs.length = 0 by omega)
        subst hs0
        refine Ex.forget (fade ([false, false, false, false, false, false, false, false, true, false, false, false, false, false, false, false, false, false, false, false, false, false, false, false, false, false, false, false, false, false, false, false, false, false, false, false, false]) []) ?_
        dsimp only [chillL, chillB, fadeS, fadeV, Bool.false_eq_true, if_false, if_true]
        (refine Ex.cond (b := false) (by first | rfl | simp [evd]) ?_; simp only [Bool.false_eq_true, if_false])
        (repeat (first|((first|refine ExO.nil ?_|refine Ex.skip ?_|refine Ex.ret ?_|refine Ex.exit ?_); try dsimp only)|((first|(refine xI ?_; intro _ _)|refine xL ?_|(refine xB ?_; intro _ _)|refine xG ?_|refine xS ?_|refine xM ?_|(refine xC ?_; intro _ _)|refine xW ?_); try simp only [sA])|refine Ex.seq ?_|refine Ex.reg ?_|refine Ex.block ?_|refine eT ?_|refine eF ?_|simp only [reduceCtorEq, AEx.ex.injEq, Nat.reduceEqDiff, if_true, if_false]))
        exact ⟨by simp, _, rfl, by simp [AV.names, one], rfl, by simp [AV.names, one]⟩
      · refine Ex.forget (fade ([false, false, false, false, false, false, false, false, true, false, false, false, false, false, false, false, false, false, false, false, false, false, false, false, false, false, false, false, false, false, false, false, false, false, false, false, false]) []) ?_
        dsimp only [chillL, chillB, fadeS, fadeV, Bool.false_eq_true, if_false, if_true]
        (refine Ex.cond (b := false) (by first | rfl | simp [evd]) ?_; simp only [Bool.false_eq_true, if_false])
        (repeat (first|((first|refine ExO.nil ?_|refine Ex.skip ?_|refine Ex.ret ?_|refine Ex.exit ?_); try dsimp only)|((first|(refine xI ?_; intro _ _)|refine xL ?_|(refine xB ?_; intro _ _)|refine xG ?_|refine xS ?_|refine xM ?_|(refine xC ?_; intro _ _)|refine xW ?_); try simp only [sA])|refine Ex.seq ?_|refine Ex.reg ?_|refine Ex.block ?_|refine eT ?_|refine eF ?_|simp only [reduceCtorEq, AEx.ex.injEq, Nat.reduceEqDiff, if_true, if_false]))
        exact ⟨by simp, _, rfl, by simp [AV.names, one], by rw [hie, List.take_length]; rfl, by simp [AV.names, one]⟩
    · have hil : i < hs.length := by have := hc.symm; simpa using this
      have e1 : hs[i]? = some hs[i] := List.getElem?_eq_getElem hil
      have hh := hok hs[i] (List.getElem_mem hil)
      generalize hs[i] = p at e1 hh
      obtain ⟨kind, pa, pb⟩ := p
      have htake : vdl P2 P1 (hs.take (i + 1)) = vdl P2 P1 (hs.take i) ++ [.int .i64 (verd (P2 ⟨kind, pa, pb⟩) (P1 ⟨kind, pa, pb⟩))] := by
        rw [List.take_add_one, e1]
        simp [vdl]
      have l1 : (i : Int) < (hs.length : Int) := by omega
      rcases hL8 with ⟨h0, rfl, rfl⟩ | ⟨rfl, rfl⟩
      · (refine Ex.cond (b := true) (by first | rfl | simp [evd]) ?_; simp only [if_true])
        (repeat (first|((first|refine ExO.nil ?_|refine Ex.skip ?_|refine Ex.ret ?_|refine Ex.exit ?_); try dsimp only)|((first|(refine xI ?_; intro _ _)|refine xL ?_|(refine xB ?_; intro _ _)|refine xG ?_|refine xS ?_|refine xM ?_|(refine xC ?_; intro _ _)|refine xW ?_); try simp only [sA])|refine Ex.seq ?_|refine Ex.reg ?_|refine Ex.block ?_|refine eT ?_|refine eF ?_|simp only [reduceCtorEq, AEx.ex.injEq, Nat.reduceEqDiff, if_true, if_false]))
        (apply ExO.stG; (case hk => rfl); (case hv => (simp [vA, fRes_eq, e1, l1, Hd.av_cells]; first|done|exact ⟨⟨rfl,rfl⟩,rfl⟩|exact ⟨rfl,rfl⟩|exact rfl)); (try simp only [sA]))
        (repeat (first|((first|refine ExO.nil ?_|refine Ex.skip ?_|refine Ex.ret ?_|refine Ex.exit ?_); try dsimp only)|((first|(refine xI ?_; intro _ _)|refine xL ?_|(refine xB ?_; intro _ _)|refine xG ?_|refine xS ?_|refine xM ?_|(refine xC ?_; intro _ _)|refine xW ?_); try simp only [sA])|refine Ex.seq ?_|refine Ex.reg ?_|refine Ex.block ?_|refine eT ?_|refine eF ?_|simp only [reduceCtorEq, AEx.ex.injEq, Nat.reduceEqDiff, if_true, if_false]))
        apply Ex.drawE (only_ok [(86, [.agg T2x, Hd.av ⟨kind, pa, pb⟩], .bool (P2 ⟨kind, pa, pb⟩)), (86, [.agg T1x, Hd.av ⟨kind, pa, pb⟩], .bool (P1 ⟨kind, pa, pb⟩)), (60, [.bool (P2 ⟨kind, pa, pb⟩), .bool (P1 ⟨kind, pa, pb⟩)], .int .i64 (verd (P2 ⟨kind, pa, pb⟩) (P1 ⟨kind, pa, pb⟩)))]) [] [(1, 1)] []
        case hD =>
          simp only [List.take_succ_cons, List.take_zero]
          (apply DrO.pure; (case hw => rfl); (case hd => rfl); (case hv => (simp only [List.mem_cons, List.not_mem_nil, or_false, forall_eq_or_imp, forall_eq]; simp [vA, fRes_eq]; first | done | exact ⟨⟨rfl, rfl⟩, rfl⟩ | exact ⟨rfl, rfl⟩ | exact rfl | (refine ⟨rfl, ?_⟩; first | done | rfl | simp))); (try simp only [sA]))
          (apply DrO.pure; (case hw => rfl); (case hd => rfl); (case hv => (simp only [List.mem_cons, List.not_mem_nil, or_false, forall_eq_or_imp, forall_eq]; simp [vA, fRes_eq]; first | done | exact ⟨⟨rfl, rfl⟩, rfl⟩ | exact ⟨rfl, rfl⟩ | exact rfl | (refine ⟨rfl, ?_⟩; first | done | rfl | simp))); (try simp only [sA]))
          (apply DrO.pure; (case hw => rfl); (case hd => rfl); (case hv => (simp only [List.mem_cons, List.not_mem_nil, or_false, forall_eq_or_imp, forall_eq]; simp [vA, fRes_eq]; first | done | exact ⟨⟨rfl, rfl⟩, rfl⟩ | exact ⟨rfl, rfl⟩ | exact rfl | (refine ⟨rfl, ?_⟩; first | done | rfl | simp))); (try simp only [sA]))
          apply DrO.call 86 [.agg T2x, .agg [.int .i64 kind, .int .i64 pa, .int .i64 pb]] (.bool (P2 ⟨kind, pa, pb⟩)) rfl rfl (by simp [aop, evd]) (fun st _ => call_only st rfl (by simp [ren, ren1, AV.plain, AV.plain1, AV.clean, cleanL, Hd.av, hpl2, hc2]) (d2 _ hh) (by simp [Hd.av]) (fun v hv => by
            simp [Hd.av] at hv
            rcases hv with rfl | ⟨h, rfl⟩
            · rfl
            · rw [hx h.symm]) (fun n => rfl))
          simp only [putA, List.set_cons_zero, List.set_cons_succ]
          (apply DrO.pure; (case hw => rfl); (case hd => rfl); (case hv => (simp only [List.mem_cons, List.not_mem_nil, or_false, forall_eq_or_imp, forall_eq]; simp [vA, fRes_eq]; first | done | exact ⟨⟨rfl, rfl⟩, rfl⟩ | exact ⟨rfl, rfl⟩ | exact rfl | (refine ⟨rfl, ?_⟩; first | done | rfl | simp))); (try simp only [sA]))
          (apply DrO.pure; (case hw => rfl); (case hd => rfl); (case hv => (simp only [List.mem_cons, List.not_mem_nil, or_false, forall_eq_or_imp, forall_eq]; simp [vA, fRes_eq]; first | done | exact ⟨⟨rfl, rfl⟩, rfl⟩ | exact ⟨rfl, rfl⟩ | exact rfl | (refine ⟨rfl, ?_⟩; first | done | rfl | simp))); (try simp only [sA]))
          apply DrO.call 86 [.agg T1x, .agg [.int .i64 kind, .int .i64 pa, .int .i64 pb]] (.bool (P1 ⟨kind, pa, pb⟩)) rfl rfl (by simp [aop, evd]) (fun st _ => call_only st rfl (by simp [ren, ren1, AV.plain, AV.plain1, AV.clean, cleanL, Hd.av, hpl1, hc1]) (d1 _ hh) (by simp [Hd.av]) (fun v hv => by
            simp [Hd.av] at hv
            rcases hv with ⟨h, rfl⟩ | rfl
            · rw [hx h]
            · rfl) (fun n => rfl))
          simp only [putA, List.set_cons_zero, List.set_cons_succ]
          apply DrO.call 60 [.bool (P2 ⟨kind, pa, pb⟩), .bool (P1 ⟨kind, pa, pb⟩)] (.int .i64 (verd (P2 ⟨kind, pa, pb⟩) (P1 ⟨kind, pa, pb⟩))) rfl rfl (by simp [aop, evd]) (fun st _ => call_only (ys := [.bool (P2 ⟨kind, pa, pb⟩), .bool (P1 ⟨kind, pa, pb⟩)]) st rfl rfl (Does.det (Nat.le_refl _) (verdict_m _ _)) (by simp) (fun v hv => by simp at hv; exact hv) (fun n => rfl))
          simp only [putA, List.set_cons_zero, List.set_cons_succ]
          apply DrO.row 0 1 [.int .i64 (verd (P2 ⟨kind, pa, pb⟩) (P1 ⟨kind, pa, pb⟩))] rfl rfl (fun st _ => rfl) (by simp) (by simp) (by simp)
          simp only [putA, List.set_cons_zero, List.set_cons_succ]
          exact DrO.nil rfl
        simp only [List.drop_succ_cons, List.drop_zero, List.getLastD_cons, List.getLastD_nil, List.append_nil, List.cons_append, List.nil_append]
        (repeat (first|((first|refine ExO.nil ?_|refine Ex.skip ?_|refine Ex.ret ?_|refine Ex.exit ?_); try dsimp only)|((first|(refine xI ?_; intro _ _)|refine xL ?_|(refine xB ?_; intro _ _)|refine xG ?_|refine xS ?_|refine xM ?_|(refine xC ?_; intro _ _)|refine xW ?_); try simp only [sA])|refine Ex.seq ?_|refine Ex.reg ?_|refine Ex.block ?_|refine eT ?_|refine eF ?_|simp only [reduceCtorEq, AEx.ex.injEq, Nat.reduceEqDiff, if_true, if_false]))
        rename_i m hm
        rw [i64_in (by omega) (by omega)] at hm
        subst h0
        have hm2 : m = ((0 + 1 : Nat) : Int) := by omega
        subst hm2
        refine ⟨_, _, forgets 2 [1] ([false, false, false, false, false, false, true, true, true, false, false, false, false, false, false, false, false, false, false, true, true, true, false, false, false, false, false, false, false, false, false, false, false, false, false, false, false]) (by decide) (by simp) (bx2 := [[.int .i64 len, .int .i64 wid, .int .i64 front, .int .i64 rear, .int .i64 turn, .int .i64 kilos, .int .i64 mid, .int .i64 high, .sl (ls.map Ld.av) none], EC]) (by simp only [List.take_succ_cons, List.take_zero, List.mapM_cons, List.mapM_nil, hre, hreE]; rfl) (lv2 := [(1, 1)]) (by simp) (by decide), hs.length - 1, by omega, 1, _, _, by omega, rfl, .inr ⟨rfl, rfl⟩, ?_, by rfl⟩
        rw [htake]
        simp [keepS, re, re1, AV.clean, clean_hds, hc1, hc2, cleanL_append, cleanL, vdl, List.idxOf?, List.findIdx?, List.findIdx?.go]
      · (refine Ex.cond (b := true) (by first | rfl | simp [evd]) ?_; simp only [if_true])
        (repeat (first|((first|refine ExO.nil ?_|refine Ex.skip ?_|refine Ex.ret ?_|refine Ex.exit ?_); try dsimp only)|((first|(refine xI ?_; intro _ _)|refine xL ?_|(refine xB ?_; intro _ _)|refine xG ?_|refine xS ?_|refine xM ?_|(refine xC ?_; intro _ _)|refine xW ?_); try simp only [sA])|refine Ex.seq ?_|refine Ex.reg ?_|refine Ex.block ?_|refine eT ?_|refine eF ?_|simp only [reduceCtorEq, AEx.ex.injEq, Nat.reduceEqDiff, if_true, if_false]))
        (apply ExO.stG; (case hk => rfl); (case hv => (simp [vA, fRes_eq, e1, l1, Hd.av_cells]; first|done|exact ⟨⟨rfl,rfl⟩,rfl⟩|exact ⟨rfl,rfl⟩|exact rfl)); (try simp only [sA]))
        (repeat (first|((first|refine ExO.nil ?_|refine Ex.skip ?_|refine Ex.ret ?_|refine Ex.exit ?_); try dsimp only)|((first|(refine xI ?_; intro _ _)|refine xL ?_|(refine xB ?_; intro _ _)|refine xG ?_|refine xS ?_|refine xM ?_|(refine xC ?_; intro _ _)|refine xW ?_); try simp only [sA])|refine Ex.seq ?_|refine Ex.reg ?_|refine Ex.block ?_|refine eT ?_|refine eF ?_|simp only [reduceCtorEq, AEx.ex.injEq, Nat.reduceEqDiff, if_true, if_false]))
        apply Ex.drawE (only_ok [(86, [.agg T2x, Hd.av ⟨kind, pa, pb⟩], .bool (P2 ⟨kind, pa, pb⟩)), (86, [.agg T1x, Hd.av ⟨kind, pa, pb⟩], .bool (P1 ⟨kind, pa, pb⟩)), (60, [.bool (P2 ⟨kind, pa, pb⟩), .bool (P1 ⟨kind, pa, pb⟩)], .int .i64 (verd (P2 ⟨kind, pa, pb⟩) (P1 ⟨kind, pa, pb⟩)))]) [] [(1, 1)] []
        case hD =>
          simp only [List.take_succ_cons, List.take_zero]
          (apply DrO.pure; (case hw => rfl); (case hd => rfl); (case hv => (simp only [List.mem_cons, List.not_mem_nil, or_false, forall_eq_or_imp, forall_eq]; simp [vA, fRes_eq]; first | done | exact ⟨⟨rfl, rfl⟩, rfl⟩ | exact ⟨rfl, rfl⟩ | exact rfl | (refine ⟨rfl, ?_⟩; first | done | rfl | simp))); (try simp only [sA]))
          (apply DrO.pure; (case hw => rfl); (case hd => rfl); (case hv => (simp only [List.mem_cons, List.not_mem_nil, or_false, forall_eq_or_imp, forall_eq]; simp [vA, fRes_eq]; first | done | exact ⟨⟨rfl, rfl⟩, rfl⟩ | exact ⟨rfl, rfl⟩ | exact rfl | (refine ⟨rfl, ?_⟩; first | done | rfl | simp))); (try simp only [sA]))
          (apply DrO.pure; (case hw => rfl); (case hd => rfl); (case hv => (simp only [List.mem_cons, List.not_mem_nil, or_false, forall_eq_or_imp, forall_eq]; simp [vA, fRes_eq]; first | done | exact ⟨⟨rfl, rfl⟩, rfl⟩ | exact ⟨rfl, rfl⟩ | exact rfl | (refine ⟨rfl, ?_⟩; first | done | rfl | simp))); (try simp only [sA]))
          apply DrO.call 86 [.agg T2x, .agg [.int .i64 kind, .int .i64 pa, .int .i64 pb]] (.bool (P2 ⟨kind, pa, pb⟩)) rfl rfl (by simp [aop, evd]) (fun st _ => call_only st rfl (by simp [ren, ren1, AV.plain, AV.plain1, AV.clean, cleanL, Hd.av, hpl2, hc2]) (d2 _ hh) (by simp [Hd.av]) (fun v hv => by
            simp [Hd.av] at hv
            rcases hv with rfl | ⟨h, rfl⟩
            · rfl
            · rw [hx h.symm]) (fun n => rfl))
          simp only [putA, List.set_cons_zero, List.set_cons_succ]
          (apply DrO.pure; (case hw => rfl); (case hd => rfl); (case hv => (simp only [List.mem_cons, List.not_mem_nil, or_false, forall_eq_or_imp, forall_eq]; simp [vA, fRes_eq]; first | done | exact ⟨⟨rfl, rfl⟩, rfl⟩ | exact ⟨rfl, rfl⟩ | exact rfl | (refine ⟨rfl, ?_⟩; first | done | rfl | simp))); (try simp only [sA]))
          (apply DrO.pure; (case hw => rfl); (case hd => rfl); (case hv => (simp only [List.mem_cons, List.not_mem_nil, or_false, forall_eq_or_imp, forall_eq]; simp [vA, fRes_eq]; first | done | exact ⟨⟨rfl, rfl⟩, rfl⟩ | exact ⟨rfl, rfl⟩ | exact rfl | (refine ⟨rfl, ?_⟩; first | done | rfl | simp))); (try simp only [sA]))
          apply DrO.call 86 [.agg T1x, .agg [.int .i64 kind, .int .i64 pa, .int .i64 pb]] (.bool (P1 ⟨kind, pa, pb⟩)) rfl rfl (by simp [aop, evd]) (fun st _ => call_only st rfl (by simp [ren, ren1, AV.plain, AV.plain1, AV.clean, cleanL, Hd.av, hpl1, hc1]) (d1 _ hh) (by simp [Hd.av]) (fun v hv => by
            simp [Hd.av] at hv
            rcases hv with ⟨h, rfl⟩ | rfl
            · rw [hx h]
            · rfl) (fun n => rfl))
          simp only [putA, List.set_cons_zero, List.set_cons_succ]
          apply DrO.call 60 [.bool (P2 ⟨kind, pa, pb⟩), .bool (P1 ⟨kind, pa, pb⟩)] (.int .i64 (verd (P2 ⟨kind, pa, pb⟩) (P1 ⟨kind, pa, pb⟩))) rfl rfl (by simp [aop, evd]) (fun st _ => call_only (ys := [.bool (P2 ⟨kind, pa, pb⟩), .bool (P1 ⟨kind, pa, pb⟩)]) st rfl rfl (Does.det (Nat.le_refl _) (verdict_m _ _)) (by simp) (fun v hv => by simp at hv; exact hv) (fun n => rfl))
          simp only [putA, List.set_cons_zero, List.set_cons_succ]
          apply DrO.row 1 1 [.int .i64 (verd (P2 ⟨kind, pa, pb⟩) (P1 ⟨kind, pa, pb⟩))] rfl rfl (fun st _ => rfl) (by simp) (by simp) (by simp)
          simp only [putA, List.set_cons_zero, List.set_cons_succ]
          exact DrO.nil rfl
        simp only [List.drop_succ_cons, List.drop_zero, List.getLastD_cons, List.getLastD_nil, List.append_nil, List.cons_append, List.nil_append]
        have w1 : (vdl P2 P1 (hs.take i)).length = i := by rw [vdl_len]; simp; omega
        have w2 := vdl_all P2 P1 (hs.take i)
        have w3 : i + 1 ≤ 65536 := by omega
        have w4 : i ≤ 65535 := by omega
        have w5 : i < 65536 := by omega
        apply ExO.stG
        (case hk => rfl)
        (case hv => (simp [vA, fRes_eq, w1, w3, w4, w5]; simp [if_pos w2, vA, fRes_eq, w1]; first | done | exact ⟨rfl, rfl⟩ | exact rfl))
        simp only [putA, List.set_cons_zero, List.set_cons_succ]
        (repeat (first|((first|refine ExO.nil ?_|refine Ex.skip ?_|refine Ex.ret ?_|refine Ex.exit ?_); try dsimp only)|((first|(refine xI ?_; intro _ _)|refine xL ?_|(refine xB ?_; intro _ _)|refine xG ?_|refine xS ?_|refine xM ?_|(refine xC ?_; intro _ _)|refine xW ?_); try simp only [sA])|refine Ex.seq ?_|refine Ex.reg ?_|refine Ex.block ?_|refine eT ?_|refine eF ?_|simp only [reduceCtorEq, AEx.ex.injEq, Nat.reduceEqDiff, if_true, if_false]))
        rename_i m hm
        rw [i64_in (by omega) (by omega)] at hm
        have hm2 : m = ((i + 1 : Nat) : Int) := by omega
        subst hm2
        refine ⟨_, _, forgets 2 [0] ([false, false, false, false, false, false, true, true, true, false, false, false, false, false, false, false, false, false, false, true, true, true, false, false, false, false, false, false, false, false, false, false, false, false, false, false, false]) (by decide) (by simp) (bx2 := [[.int .i64 len, .int .i64 wid, .int .i64 front, .int .i64 rear, .int .i64 turn, .int .i64 kilos, .int .i64 mid, .int .i64 high, .sl (ls.map Ld.av) none], EC]) (by simp only [List.take_succ_cons, List.take_zero, List.mapM_cons, List.mapM_nil, hre, hreE]; rfl) (lv2 := [(i + 1, 1)]) (by simp) (by decide), hs.length - (i + 1), by omega, i + 1, _, _, by omega, rfl, .inr ⟨rfl, rfl⟩, ?_, by rfl⟩
        rw [htake]
        simp [keepS, re, re1, AV.clean, clean_hds, hc1, hc2, clean_vdl, cleanL_append, cleanL, List.idxOf?, List.findIdx?, List.findIdx?.go]
end Go.Proofs.Ytoefpcpijolofaa
end
section
namespace Go.Proofs.Ytoefpcpijolofaa
open Go.RowKit
set_option linter.unusedVariables false
set_option linter.unusedSimpArgs false
set_option maxRecDepth 10000
set_option maxHeartbeats 4000000

theorem checkWire_ok (a : Int) (h0 : 0 ≤ a) (h1 : a ≤ 2000) : Does Try.prog 99 [.agg [.int .i64 2, .int .i64 a, .int .i64 0]] [] fun v c' => v = .int .i64 0 ∧ c' = [] := by
  refine Does.of comp99 ?_
  unfold F99
  simp only [start, List.length_cons, List.length_nil, List.replicate, List.cons_append, List.nil_append, Nat.reduceAdd, Nat.reduceSub]
  (repeat (first|((first|refine ExO.nil ?_|refine Ex.skip ?_|refine Ex.ret ?_|refine Ex.exit ?_); try dsimp only)|((first|(refine xI ?_; intro _ _)|refine xL ?_|(refine xB ?_; intro _ _)|refine xG ?_|refine xS ?_|refine xM ?_|(refine xC ?_; intro _ _)|refine xW ?_); try simp only [sA])|refine Ex.seq ?_|refine Ex.reg ?_|refine Ex.block ?_|refine eT ?_|refine eF ?_|simp only [reduceCtorEq, AEx.ex.injEq, Nat.reduceEqDiff, if_true, if_false]))
  (refine ExO.call (f := (69)) (xs := ([.int .i64 a, .int .i64 0, .int .i64 2000])) (ys := ([.int .i64 a, .int .i64 0, .int .i64 2000])) (bs := ([])) (cells := ([])) (by rfl) (by rfl) (by rfl) (by first | rfl | simp [ren, ren1, AV.plain, AV.plain1, AV.clean, cleanL, clean_lds, cleanL_append]) (by rfl) (by first | rfl | simp [ren, ren1, AV.plain, AV.plain1, AV.clean, cleanL, clean_lds, cleanL_append]) ((within_ok a 0 2000 (by omega) (by omega))) ?_; rintro v c' ⟨rfl, rfl⟩; refine ⟨_, rfl, rfl, ?_⟩; simp only [List.map_cons, List.map_nil, putA, List.set_cons_zero, List.set_cons_succ, AV.plain, AV.plain1, setAll, List.length_cons, List.length_nil, List.drop_succ_cons, List.drop_zero, List.drop_nil, List.append_nil, Nat.reduceAdd]; (repeat (first|((first|refine ExO.nil ?_|refine Ex.skip ?_|refine Ex.ret ?_|refine Ex.exit ?_); try dsimp only)|((first|(refine xI ?_; intro _ _)|refine xL ?_|(refine xB ?_; intro _ _)|refine xG ?_|refine xS ?_|refine xM ?_|(refine xC ?_; intro _ _)|refine xW ?_); try simp only [sA])|refine Ex.seq ?_|refine Ex.reg ?_|refine Ex.block ?_|refine eT ?_|refine eF ?_|simp only [reduceCtorEq, AEx.ex.injEq, Nat.reduceEqDiff, if_true, if_false])))
  simp [evRes, evRes1, one, AV.names, takeCells]
theorem checkBridge_ok (a b : Int) (h0 : 0 ≤ a) (h1 : a ≤ 10000000) (h2 : 0 ≤ b) (h3 : b ≤ 10000000) : Does Try.prog 100 [.agg [.int .i64 3, .int .i64 a, .int .i64 b]] [] fun v c' => v = .int .i64 0 ∧ c' = [] := by
  refine Does.of comp100 ?_
  unfold F100
  simp only [start, List.length_cons, List.length_nil, List.replicate, List.cons_append, List.nil_append, Nat.reduceAdd, Nat.reduceSub]
  (repeat (first|((first|refine ExO.nil ?_|refine Ex.skip ?_|refine Ex.ret ?_|refine Ex.exit ?_); try dsimp only)|((first|(refine xI ?_; intro _ _)|refine xL ?_|(refine xB ?_; intro _ _)|refine xG ?_|refine xS ?_|refine xM ?_|(refine xC ?_; intro _ _)|refine xW ?_); try simp only [sA])|refine Ex.seq ?_|refine Ex.reg ?_|refine Ex.block ?_|refine eT ?_|refine eF ?_|simp only [reduceCtorEq, AEx.ex.injEq, Nat.reduceEqDiff, if_true, if_false]))
  (refine ExO.call (f := (69)) (xs := ([.int .i64 a, .int .i64 0, .int .i64 10000000])) (ys := ([.int .i64 a, .int .i64 0, .int .i64 10000000])) (bs := ([])) (cells := ([])) (by rfl) (by rfl) (by rfl) (by first | rfl | simp [ren, ren1, AV.plain, AV.plain1, AV.clean, cleanL, clean_lds, cleanL_append]) (by rfl) (by first | rfl | simp [ren, ren1, AV.plain, AV.plain1, AV.clean, cleanL, clean_lds, cleanL_append]) ((within_ok a 0 10000000 (by omega) (by omega))) ?_; rintro v c' ⟨rfl, rfl⟩; refine ⟨_, rfl, rfl, ?_⟩; simp only [List.map_cons, List.map_nil, putA, List.set_cons_zero, List.set_cons_succ, AV.plain, AV.plain1, setAll, List.length_cons, List.length_nil, List.drop_succ_cons, List.drop_zero, List.drop_nil, List.append_nil, Nat.reduceAdd]; (repeat (first|((first|refine ExO.nil ?_|refine Ex.skip ?_|refine Ex.ret ?_|refine Ex.exit ?_); try dsimp only)|((first|(refine xI ?_; intro _ _)|refine xL ?_|(refine xB ?_; intro _ _)|refine xG ?_|refine xS ?_|refine xM ?_|(refine xC ?_; intro _ _)|refine xW ?_); try simp only [sA])|refine Ex.seq ?_|refine Ex.reg ?_|refine Ex.block ?_|refine eT ?_|refine eF ?_|simp only [reduceCtorEq, AEx.ex.injEq, Nat.reduceEqDiff, if_true, if_false])))
  (refine ExO.call (f := (69)) (xs := ([.int .i64 b, .int .i64 0, .int .i64 10000000])) (ys := ([.int .i64 b, .int .i64 0, .int .i64 10000000])) (bs := ([])) (cells := ([])) (by rfl) (by rfl) (by rfl) (by first | rfl | simp [ren, ren1, AV.plain, AV.plain1, AV.clean, cleanL, clean_lds, cleanL_append]) (by rfl) (by first | rfl | simp [ren, ren1, AV.plain, AV.plain1, AV.clean, cleanL, clean_lds, cleanL_append]) ((within_ok b 0 10000000 (by omega) (by omega))) ?_; rintro v c' ⟨rfl, rfl⟩; refine ⟨_, rfl, rfl, ?_⟩; simp only [List.map_cons, List.map_nil, putA, List.set_cons_zero, List.set_cons_succ, AV.plain, AV.plain1, setAll, List.length_cons, List.length_nil, List.drop_succ_cons, List.drop_zero, List.drop_nil, List.append_nil, Nat.reduceAdd]; (repeat (first|((first|refine ExO.nil ?_|refine Ex.skip ?_|refine Ex.ret ?_|refine Ex.exit ?_); try dsimp only)|((first|(refine xI ?_; intro _ _)|refine xL ?_|(refine xB ?_; intro _ _)|refine xG ?_|refine xS ?_|refine xM ?_|(refine xC ?_; intro _ _)|refine xW ?_); try simp only [sA])|refine Ex.seq ?_|refine Ex.reg ?_|refine Ex.block ?_|refine eT ?_|refine eF ?_|simp only [reduceCtorEq, AEx.ex.injEq, Nat.reduceEqDiff, if_true, if_false])))
  simp [evRes, evRes1, one, AV.names, takeCells]
theorem checkHurdleAll_ok (h : Hd) (hh : HOk h) : Does Try.prog 94 [Hd.av h] [] fun v c' => v = .int .i64 0 ∧ c' = [] := by
  obtain ⟨kind, a, b⟩ := h
  rcases hh with ⟨k1, k2, k3, k4⟩ | ⟨k1, k2, k3, k4⟩ | ⟨k1, k2, k3, k4, k5⟩
  · simp only [] at k1 k2 k3 k4
    subst k1
    exact checkHurdle_ok a b k2 k3 k4
  · simp only [] at k1 k2 k3 k4
    subst k1
    subst k4
    show Does Try.prog 94 [.agg [.int .i64 2, .int .i64 a, .int .i64 0]] [] fun v c' => v = .int .i64 0 ∧ c' = []
    refine Does.of comp94 ?_
    unfold F94
    simp only [start, List.length_cons, List.length_nil, List.replicate, List.cons_append, List.nil_append, Nat.reduceAdd, Nat.reduceSub]
    (repeat (first|((first|refine ExO.nil ?_|refine Ex.skip ?_|refine Ex.ret ?_|refine Ex.exit ?_); try dsimp only)|((first|(refine xI ?_; intro _ _)|refine xL ?_|(refine xB ?_; intro _ _)|refine xG ?_|refine xS ?_|refine xM ?_|(refine xC ?_; intro _ _)|refine xW ?_); try simp only [sA])|refine Ex.seq ?_|refine Ex.reg ?_|refine Ex.block ?_|refine eT ?_|refine eF ?_|simp only [reduceCtorEq, AEx.ex.injEq, Nat.reduceEqDiff, if_true, if_false]))
    (refine ExO.call (f := (99)) (xs := ([.agg [.int .i64 2, .int .i64 a, .int .i64 0]])) (ys := ([.agg [.int .i64 2, .int .i64 a, .int .i64 0]])) (bs := ([])) (cells := ([])) (by rfl) (by rfl) (by rfl) (by first | rfl | simp [ren, ren1, AV.plain, AV.plain1, AV.clean, cleanL, clean_lds, cleanL_append]) (by rfl) (by first | rfl | simp [ren, ren1, AV.plain, AV.plain1, AV.clean, cleanL, clean_lds, cleanL_append]) ((checkWire_ok a k2 k3)) ?_; rintro v c' ⟨rfl, rfl⟩; refine ⟨_, rfl, rfl, ?_⟩; simp only [List.map_cons, List.map_nil, putA, List.set_cons_zero, List.set_cons_succ, AV.plain, AV.plain1, setAll, List.length_cons, List.length_nil, List.drop_succ_cons, List.drop_zero, List.drop_nil, List.append_nil, Nat.reduceAdd]; (repeat (first|((first|refine ExO.nil ?_|refine Ex.skip ?_|refine Ex.ret ?_|refine Ex.exit ?_); try dsimp only)|((first|(refine xI ?_; intro _ _)|refine xL ?_|(refine xB ?_; intro _ _)|refine xG ?_|refine xS ?_|refine xM ?_|(refine xC ?_; intro _ _)|refine xW ?_); try simp only [sA])|refine Ex.seq ?_|refine Ex.reg ?_|refine Ex.block ?_|refine eT ?_|refine eF ?_|simp only [reduceCtorEq, AEx.ex.injEq, Nat.reduceEqDiff, if_true, if_false])))
    simp [evRes, evRes1, one, AV.names, takeCells]
  · simp only [] at k1 k2 k3 k4 k5
    subst k1
    show Does Try.prog 94 [.agg [.int .i64 3, .int .i64 a, .int .i64 b]] [] fun v c' => v = .int .i64 0 ∧ c' = []
    refine Does.of comp94 ?_
    unfold F94
    simp only [start, List.length_cons, List.length_nil, List.replicate, List.cons_append, List.nil_append, Nat.reduceAdd, Nat.reduceSub]
    (repeat (first|((first|refine ExO.nil ?_|refine Ex.skip ?_|refine Ex.ret ?_|refine Ex.exit ?_); try dsimp only)|((first|(refine xI ?_; intro _ _)|refine xL ?_|(refine xB ?_; intro _ _)|refine xG ?_|refine xS ?_|refine xM ?_|(refine xC ?_; intro _ _)|refine xW ?_); try simp only [sA])|refine Ex.seq ?_|refine Ex.reg ?_|refine Ex.block ?_|refine eT ?_|refine eF ?_|simp only [reduceCtorEq, AEx.ex.injEq, Nat.reduceEqDiff, if_true, if_false]))
    (refine ExO.call (f := (100)) (xs := ([.agg [.int .i64 3, .int .i64 a, .int .i64 b]])) (ys := ([.agg [.int .i64 3, .int .i64 a, .int .i64 b]])) (bs := ([])) (cells := ([])) (by rfl) (by rfl) (by rfl) (by first | rfl | simp [ren, ren1, AV.plain, AV.plain1, AV.clean, cleanL, clean_lds, cleanL_append]) (by rfl) (by first | rfl | simp [ren, ren1, AV.plain, AV.plain1, AV.clean, cleanL, clean_lds, cleanL_append]) ((checkBridge_ok a b k2 k3 k4 k5)) ?_; rintro v c' ⟨rfl, rfl⟩; refine ⟨_, rfl, rfl, ?_⟩; simp only [List.map_cons, List.map_nil, putA, List.set_cons_zero, List.set_cons_succ, AV.plain, AV.plain1, setAll, List.length_cons, List.length_nil, List.drop_succ_cons, List.drop_zero, List.drop_nil, List.append_nil, Nat.reduceAdd]; (repeat (first|((first|refine ExO.nil ?_|refine Ex.skip ?_|refine Ex.ret ?_|refine Ex.exit ?_); try dsimp only)|((first|(refine xI ?_; intro _ _)|refine xL ?_|(refine xB ?_; intro _ _)|refine xG ?_|refine xS ?_|refine xM ?_|(refine xC ?_; intro _ _)|refine xW ?_); try simp only [sA])|refine Ex.seq ?_|refine Ex.reg ?_|refine Ex.block ?_|refine eT ?_|refine eF ?_|simp only [reduceCtorEq, AEx.ex.injEq, Nat.reduceEqDiff, if_true, if_false])))
    simp [evRes, evRes1, one, AV.names, takeCells]

theorem checkRouteAll_ok (hs : List Hd) (hlen : hs.length ≤ 40) (hall : ∀ p ∈ hs, HOk p) : Does Try.prog 85 [.sl (hs.map Hd.av) none] [] fun v c' => v = .int .i64 0 ∧ c' = [] := by
  refine Does.of comp85 ?_
  unfold F85
  simp only [start, List.length_cons, List.length_nil, List.replicate, List.cons_append, List.nil_append, Nat.reduceAdd, Nat.reduceSub]
  (repeat (first|((first|refine ExO.nil ?_|refine Ex.skip ?_|refine Ex.ret ?_|refine Ex.exit ?_); try dsimp only)|((first|(refine xI ?_; intro _ _)|refine xL ?_|(refine xB ?_; intro _ _)|refine xG ?_|refine xS ?_|refine xM ?_|(refine xC ?_; intro _ _)|refine xW ?_); try simp only [sA])|refine Ex.seq ?_|refine Ex.reg ?_|refine Ex.block ?_|refine eT ?_|refine eF ?_|simp only [reduceCtorEq, AEx.ex.injEq, Nat.reduceEqDiff, if_true, if_false]))
  (rename_i m hm; have hm2 : m = false := (by rw [hm]; simp; try omega); clear hm; subst hm2; (repeat (first|((first|refine ExO.nil ?_|refine Ex.skip ?_|refine Ex.ret ?_|refine Ex.exit ?_); try dsimp only)|((first|(refine xI ?_; intro _ _)|refine xL ?_|(refine xB ?_; intro _ _)|refine xG ?_|refine xS ?_|refine xM ?_|(refine xC ?_; intro _ _)|refine xW ?_); try simp only [sA])|refine Ex.seq ?_|refine Ex.reg ?_|refine Ex.block ?_|refine eT ?_|refine eF ?_|simp only [reduceCtorEq, AEx.ex.injEq, Nat.reduceEqDiff, if_true, if_false])))
  refine Ex.loopF (fun k a S => ∃ i, i ≤ hs.length ∧ k = hs.length - i ∧ a = [.sl (hs.map Hd.av) none, .junk, .junk, .junk, .junk, .junk, .junk, .junk, .junk, .sl (hs.map Hd.av) none, .int .i64 hs.length, .int .i64 (i : Nat), .junk, .junk, .junk, .junk, .junk, .junk, .junk, .junk, .junk] ∧ S = ⟨[], []⟩) hs.length ?_ ?_
  · refine ⟨_, _, forgets 0 [] ([true, false, false, false, false, false, false, false, false, true, true, true, false, false, false, false, false, false, false, false, false]) (by decide) (by simp) (by rfl) (by rfl) (by decide), 0, by omega, by omega, ?_, by rfl⟩
    simp [keepS, re, re1, AV.clean, clean_hds]
  · rintro k a S ⟨i, hi, rfl, rfl, rfl⟩
    (repeat (first|((first|refine ExO.nil ?_|refine Ex.skip ?_|refine Ex.ret ?_|refine Ex.exit ?_); try dsimp only)|((first|(refine xI ?_; intro _ _)|refine xL ?_|(refine xB ?_; intro _ _)|refine xG ?_|refine xS ?_|refine xM ?_|(refine xC ?_; intro _ _)|refine xW ?_); try simp only [sA])|refine Ex.seq ?_|refine Ex.reg ?_|refine Ex.block ?_|refine eT ?_|refine eF ?_|simp only [reduceCtorEq, AEx.ex.injEq, Nat.reduceEqDiff, if_true, if_false]))
    rename_i c hc
    cases c
    · (refine Ex.cond (b := false) (by first | rfl | simp [evd]) ?_; simp only [Bool.false_eq_true, if_false])
      (repeat (first|((first|refine ExO.nil ?_|refine Ex.skip ?_|refine Ex.ret ?_|refine Ex.exit ?_); try dsimp only)|((first|(refine xI ?_; intro _ _)|refine xL ?_|(refine xB ?_; intro _ _)|refine xG ?_|refine xS ?_|refine xM ?_|(refine xC ?_; intro _ _)|refine xW ?_); try simp only [sA])|refine Ex.seq ?_|refine Ex.reg ?_|refine Ex.block ?_|refine eT ?_|refine eF ?_|simp only [reduceCtorEq, AEx.ex.injEq, Nat.reduceEqDiff, if_true, if_false]))
      simp [evRes, evRes1, one, AV.names, takeCells]
    · have hil : i < hs.length := by have := hc.symm; simpa using this
      have e1 : hs[i]? = some hs[i] := List.getElem?_eq_getElem hil
      have hh := hall hs[i] (List.getElem_mem hil)
      generalize hs[i] = p at e1 hh
      obtain ⟨kd, pa, pb⟩ := p
      have l1 : (i : Int) < (hs.length : Int) := by omega
      (refine Ex.cond (b := true) (by first | rfl | simp [evd]) ?_; simp only [if_true])
      (repeat (first|((first|refine ExO.nil ?_|refine Ex.skip ?_|refine Ex.ret ?_|refine Ex.exit ?_); try dsimp only)|((first|(refine xI ?_; intro _ _)|refine xL ?_|(refine xB ?_; intro _ _)|refine xG ?_|refine xS ?_|refine xM ?_|(refine xC ?_; intro _ _)|refine xW ?_); try simp only [sA])|refine Ex.seq ?_|refine Ex.reg ?_|refine Ex.block ?_|refine eT ?_|refine eF ?_|simp only [reduceCtorEq, AEx.ex.injEq, Nat.reduceEqDiff, if_true, if_false]))
      (apply ExO.stG; (case hk => rfl); (case hv => (simp [vA, fRes_eq, e1, l1, Hd.av_cells]; first|done|exact ⟨⟨rfl,rfl⟩,rfl⟩|exact ⟨rfl,rfl⟩|exact rfl)); (try simp only [sA]))
      (repeat (first|((first|refine ExO.nil ?_|refine Ex.skip ?_|refine Ex.ret ?_|refine Ex.exit ?_); try dsimp only)|((first|(refine xI ?_; intro _ _)|refine xL ?_|(refine xB ?_; intro _ _)|refine xG ?_|refine xS ?_|refine xM ?_|(refine xC ?_; intro _ _)|refine xW ?_); try simp only [sA])|refine Ex.seq ?_|refine Ex.reg ?_|refine Ex.block ?_|refine eT ?_|refine eF ?_|simp only [reduceCtorEq, AEx.ex.injEq, Nat.reduceEqDiff, if_true, if_false]))
      (refine ExO.call (f := (94)) (xs := ([.agg [.int .i64 kd, .int .i64 pa, .int .i64 pb]])) (ys := ([.agg [.int .i64 kd, .int .i64 pa, .int .i64 pb]])) (bs := ([])) (cells := ([])) (by rfl) (by rfl) (by rfl) (by first | rfl | simp [ren, ren1, AV.plain, AV.plain1, AV.clean, cleanL, clean_lds, cleanL_append]) (by rfl) (by first | rfl | simp [ren, ren1, AV.plain, AV.plain1, AV.clean, cleanL, clean_lds, cleanL_append]) ((checkHurdleAll_ok ⟨kd, pa, pb⟩ hh)) ?_; rintro v c' ⟨rfl, rfl⟩; refine ⟨_, rfl, rfl, ?_⟩; simp only [List.map_cons, List.map_nil, putA, List.set_cons_zero, List.set_cons_succ, AV.plain, AV.plain1, setAll, List.length_cons, List.length_nil, List.drop_succ_cons, List.drop_zero, List.drop_nil, List.append_nil, Nat.reduceAdd]; (repeat (first|((first|refine ExO.nil ?_|refine Ex.skip ?_|refine Ex.ret ?_|refine Ex.exit ?_); try dsimp only)|((first|(refine xI ?_; intro _ _)|refine xL ?_|(refine xB ?_; intro _ _)|refine xG ?_|refine xS ?_|refine xM ?_|(refine xC ?_; intro _ _)|refine xW ?_); try simp only [sA])|refine Ex.seq ?_|refine Ex.reg ?_|refine Ex.block ?_|refine eT ?_|refine eF ?_|simp only [reduceCtorEq, AEx.ex.injEq, Nat.reduceEqDiff, if_true, if_false])))
      rename_i m hm
      rw [i64_in (by omega) (by omega)] at hm
      have hm2 : m = ((i + 1 : Nat) : Int) := by omega
      subst hm2
      refine ⟨_, _, forgets 0 [] ([true, false, false, false, false, false, false, false, false, true, true, true, false, false, false, false, false, false, false, false, false]) (by decide) (by simp) (by rfl) (by rfl) (by decide), hs.length - (i + 1), by omega, i + 1, by omega, rfl, ?_, by rfl⟩
      simp [keepS, re, re1, AV.clean, clean_hds]

theorem checkBothAll_ok (len wid front rear turn kilos mid high : Int) (hF : FOk ⟨len, wid, front, rear, turn, kilos, mid, high⟩) (ls : List Ld) (hlen : ls.length ≤ 20) (hl : ∀ l ∈ ls, LOk ⟨len, wid, front, rear, turn, kilos, mid, high⟩ l) (hs : List Hd) (hn : hs.length ≤ 40) (hall : ∀ p ∈ hs, HOk p) : Does Try.prog 62 [.agg [.int .i64 len, .int .i64 wid, .int .i64 front, .int .i64 rear, .int .i64 turn, .int .i64 kilos, .int .i64 mid, .int .i64 high, .sl (ls.map Ld.av) none], .sl (hs.map Hd.av) none] [] fun v c' => v = .int .i64 0 ∧ c' = [] := by
  refine Does.of comp62 ?_
  unfold F62
  simp only [start, List.length_cons, List.length_nil, List.replicate, List.cons_append, List.nil_append, Nat.reduceAdd, Nat.reduceSub]
  (repeat (first|((first|refine ExO.nil ?_|refine Ex.skip ?_|refine Ex.ret ?_|refine Ex.exit ?_); try dsimp only)|((first|(refine xI ?_; intro _ _)|refine xL ?_|(refine xB ?_; intro _ _)|refine xG ?_|refine xS ?_|refine xM ?_|(refine xC ?_; intro _ _)|refine xW ?_); try simp only [sA])|refine Ex.seq ?_|refine Ex.reg ?_|refine Ex.block ?_|refine eT ?_|refine eF ?_|simp only [reduceCtorEq, AEx.ex.injEq, Nat.reduceEqDiff, if_true, if_false]))
  refine ExO.call (f := 53) (xs := [.agg [.int .i64 len, .int .i64 wid, .int .i64 front, .int .i64 rear, .int .i64 turn, .int .i64 kilos, .int .i64 mid, .int .i64 high, .sl (ls.map Ld.av) none]]) (ys := [.agg [.int .i64 len, .int .i64 wid, .int .i64 front, .int .i64 rear, .int .i64 turn, .int .i64 kilos, .int .i64 mid, .int .i64 high, .sl (ls.map Ld.av) none]]) (bs := []) (cells := []) (by rfl) (by rfl) (by rfl) (by simp [ren, ren1, AV.plain, AV.plain1, AV.clean, cleanL, clean_lds, clean_hds]) (by rfl) (by rfl) (check_ok len wid front rear turn kilos mid high hF _ ls (.inl rfl) hlen hl) ?_
  rintro v c' ⟨rfl, rfl⟩
  refine ⟨_, rfl, rfl, ?_⟩
  simp only [List.map_cons, List.map_nil, putA, List.set_cons_zero, List.set_cons_succ, AV.plain, AV.plain1, setAll, List.length_cons, List.length_nil, List.drop_succ_cons, List.drop_zero, List.drop_nil, List.append_nil, Nat.reduceAdd]
  (repeat (first|((first|refine ExO.nil ?_|refine Ex.skip ?_|refine Ex.ret ?_|refine Ex.exit ?_); try dsimp only)|((first|(refine xI ?_; intro _ _)|refine xL ?_|(refine xB ?_; intro _ _)|refine xG ?_|refine xS ?_|refine xM ?_|(refine xC ?_; intro _ _)|refine xW ?_); try simp only [sA])|refine Ex.seq ?_|refine Ex.reg ?_|refine Ex.block ?_|refine eT ?_|refine eF ?_|simp only [reduceCtorEq, AEx.ex.injEq, Nat.reduceEqDiff, if_true, if_false]))
  refine ExO.call (f := 85) (xs := [.sl (hs.map Hd.av) none]) (ys := [.sl (hs.map Hd.av) none]) (bs := []) (cells := []) (by rfl) (by rfl) (by rfl) (by simp [ren, ren1, AV.plain, AV.plain1, AV.clean, cleanL, clean_lds, clean_hds]) (by rfl) (by rfl) (checkRouteAll_ok hs hn hall) ?_
  rintro v c' ⟨rfl, rfl⟩
  refine ⟨_, rfl, rfl, ?_⟩
  simp only [List.map_cons, List.map_nil, putA, List.set_cons_zero, List.set_cons_succ, AV.plain, AV.plain1, setAll, List.length_cons, List.length_nil, List.drop_succ_cons, List.drop_zero, List.drop_nil, List.append_nil, Nat.reduceAdd]
  (repeat (first|((first|refine ExO.nil ?_|refine Ex.skip ?_|refine Ex.ret ?_|refine Ex.exit ?_); try dsimp only)|((first|(refine xI ?_; intro _ _)|refine xL ?_|(refine xB ?_; intro _ _)|refine xG ?_|refine xS ?_|refine xM ?_|(refine xC ?_; intro _ _)|refine xW ?_); try simp only [sA])|refine Ex.seq ?_|refine Ex.reg ?_|refine Ex.block ?_|refine eT ?_|refine eF ?_|simp only [reduceCtorEq, AEx.ex.injEq, Nat.reduceEqDiff, if_true, if_false]))
  simp [evRes, evRes1, one, AV.names, takeCells]

def vroute (len wid front rear turn kilos mid high : Int) (ls : List Ld) (hs : List Hd) : List AV := vdl (passB len wid front rear turn kilos mid high Ld.khi Ld.thi ls) (passB len wid front rear turn kilos mid high Ld.klo Ld.tlo ls) hs
theorem PassesAll_m (len wid front rear turn kilos mid high : Int) (hF : FOk ⟨len, wid, front, rear, turn, kilos, mid, high⟩) (ls : List Ld) (hlen : ls.length ≤ 20) (hl : ∀ l ∈ ls, LOk ⟨len, wid, front, rear, turn, kilos, mid, high⟩ l) (hs : List Hd) (hn : hs.length ≤ 40) (hall : ∀ p ∈ hs, HOk p) : Does Try.prog 18 [.agg [.int .i64 len, .int .i64 wid, .int .i64 front, .int .i64 rear, .int .i64 turn, .int .i64 kilos, .int .i64 mid, .int .i64 high, .sl (ls.map Ld.av) none], .sl (hs.map Hd.av) none] [] fun v c' => v = .tup [.sl (vroute len wid front rear turn kilos mid high ls hs) none, .int .i64 0] ∧ c' = [] := by
  refine Does.of comp18 ?_
  unfold F18
  simp only [start, List.length_cons, List.length_nil, List.replicate, List.cons_append, List.nil_append, Nat.reduceAdd, Nat.reduceSub]
  (repeat (first|((first|refine ExO.nil ?_|refine Ex.skip ?_|refine Ex.ret ?_|refine Ex.exit ?_); try dsimp only)|((first|(refine xI ?_; intro _ _)|refine xL ?_|(refine xB ?_; intro _ _)|refine xG ?_|refine xS ?_|refine xM ?_|(refine xC ?_; intro _ _)|refine xW ?_); try simp only [sA])|refine Ex.seq ?_|refine Ex.reg ?_|refine Ex.block ?_|refine eT ?_|refine eF ?_|simp only [reduceCtorEq, AEx.ex.injEq, Nat.reduceEqDiff, if_true, if_false]))
  refine ExO.call (f := 62) (xs := [.agg [.int .i64 len, .int .i64 wid, .int .i64 front, .int .i64 rear, .int .i64 turn, .int .i64 kilos, .int .i64 mid, .int .i64 high, .sl (ls.map Ld.av) none], .sl (hs.map Hd.av) none]) (ys := [.agg [.int .i64 len, .int .i64 wid, .int .i64 front, .int .i64 rear, .int .i64 turn, .int .i64 kilos, .int .i64 mid, .int .i64 high, .sl (ls.map Ld.av) none], .sl (hs.map Hd.av) none]) (bs := []) (cells := []) (by rfl) (by rfl) (by rfl) (by simp [ren, ren1, AV.plain, AV.plain1, AV.clean, cleanL, clean_lds, clean_hds]) (by rfl) (by rfl) (checkBothAll_ok len wid front rear turn kilos mid high hF ls hlen hl hs hn hall) ?_
  rintro v c' ⟨rfl, rfl⟩
  refine ⟨_, rfl, rfl, ?_⟩
  simp only [List.map_cons, List.map_nil, putA, List.set_cons_zero, List.set_cons_succ, AV.plain, AV.plain1, setAll, List.length_cons, List.length_nil, List.drop_succ_cons, List.drop_zero, List.drop_nil, List.append_nil, Nat.reduceAdd]
  (repeat (first|((first|refine ExO.nil ?_|refine Ex.skip ?_|refine Ex.ret ?_|refine Ex.exit ?_); try dsimp only)|((first|(refine xI ?_; intro _ _)|refine xL ?_|(refine xB ?_; intro _ _)|refine xG ?_|refine xS ?_|refine xM ?_|(refine xC ?_; intro _ _)|refine xW ?_); try simp only [sA])|refine Ex.seq ?_|refine Ex.reg ?_|refine Ex.block ?_|refine eT ?_|refine eF ?_|simp only [reduceCtorEq, AEx.ex.injEq, Nat.reduceEqDiff, if_true, if_false]))
  refine ExO.call (f := 63) (xs := [.agg [.int .i64 len, .int .i64 wid, .int .i64 front, .int .i64 rear, .int .i64 turn, .int .i64 kilos, .int .i64 mid, .int .i64 high, .sl (ls.map Ld.av) none], .sl (hs.map Hd.av) none]) (ys := [.agg [.int .i64 len, .int .i64 wid, .int .i64 front, .int .i64 rear, .int .i64 turn, .int .i64 kilos, .int .i64 mid, .int .i64 high, .sl (ls.map Ld.av) none], .sl (hs.map Hd.av) none]) (bs := []) (cells := []) (by rfl) (by rfl) (by rfl) (by simp [ren, ren1, AV.plain, AV.plain1, AV.clean, cleanL, clean_lds, clean_hds]) (by rfl) (by rfl) (verdictsAll_m len wid front rear turn kilos mid high hF ls hlen hl hs hn hall) ?_
  rintro v c' ⟨rfl, rfl⟩
  refine ⟨.sl (vroute len wid front rear turn kilos mid high ls hs) none, by simp [back, back1, AV.plain, AV.plain1, AV.clean, clean_vdl, vroute], rfl, ?_⟩
  simp only [List.map_cons, List.map_nil, putA, List.set_cons_zero, List.set_cons_succ, AV.plain, AV.plain1, setAll, List.length_cons, List.length_nil, List.drop_succ_cons, List.drop_zero, List.drop_nil, List.append_nil, Nat.reduceAdd]
  (repeat (first|((first|refine ExO.nil ?_|refine Ex.skip ?_|refine Ex.ret ?_|refine Ex.exit ?_); try dsimp only)|((first|(refine xI ?_; intro _ _)|refine xL ?_|(refine xB ?_; intro _ _)|refine xG ?_|refine xS ?_|refine xM ?_|(refine xC ?_; intro _ _)|refine xW ?_); try simp only [sA])|refine Ex.seq ?_|refine Ex.reg ?_|refine Ex.block ?_|refine eT ?_|refine eF ?_|simp only [reduceCtorEq, AEx.ex.injEq, Nat.reduceEqDiff, if_true, if_false]))
  simp [evRes, evRes1, one, AV.names, takeCells]

theorem StandsAll_m (len wid front rear turn kilos mid high : Int) (hF : FOk ⟨len, wid, front, rear, turn, kilos, mid, high⟩) (ls : List Ld) (hlen : ls.length ≤ 20) (hall : ∀ l ∈ ls, LOk ⟨len, wid, front, rear, turn, kilos, mid, high⟩ l) : Does Try.prog 17 [.agg [.int .i64 len, .int .i64 wid, .int .i64 front, .int .i64 rear, .int .i64 turn, .int .i64 kilos, .int .i64 mid, .int .i64 high, .sl (ls.map Ld.av) none]] [] fun v c' => v = .tup [.int .i64 (verd (standB front rear (wts kilos mid Ld.klo ls)) (standB front rear (wts kilos mid Ld.khi ls))), .int .i64 0] ∧ c' = [] := by
  have hF' : 2 ≤ len ∧ len ≤ 1200 ∧ 1 ≤ wid ∧ wid ≤ 400 ∧ 0 ≤ front ∧ front < rear ∧ rear ≤ len ∧ 0 ≤ turn ∧ turn < 1500 ∧ 0 ≤ kilos ∧ kilos < 5000 ∧ 0 ≤ mid ∧ mid ≤ len ∧ 0 ≤ high ∧ high < 500 := hF
  have hw1 := wts_ok _ hF Ld.klo (klo_ok _) ls hall
  have hw2 := wts_ok _ hF Ld.khi (khi_ok _) ls hall
  simp only [] at hw1 hw2
  have hcF : cleanL [.int .i64 len, .int .i64 wid, .int .i64 front, .int .i64 rear, .int .i64 turn, .int .i64 kilos, .int .i64 mid, .int .i64 high, .sl (ls.map Ld.av) none] = true := by simp [cleanL, AV.clean, clean_lds]
  refine Does.of comp17 ?_
  unfold F17
  simp only [start, List.length_cons, List.length_nil, List.replicate, List.cons_append, List.nil_append, Nat.reduceAdd, Nat.reduceSub]
  (repeat (first|((first|refine ExO.nil ?_|refine Ex.skip ?_|refine Ex.ret ?_|refine Ex.exit ?_); try dsimp only)|((first|(refine xI ?_; intro _ _)|refine xL ?_|(refine xB ?_; intro _ _)|refine xG ?_|refine xS ?_|refine xM ?_|(refine xC ?_; intro _ _)|refine xW ?_); try simp only [sA])|refine Ex.seq ?_|refine Ex.reg ?_|refine Ex.block ?_|refine eT ?_|refine eF ?_|simp only [reduceCtorEq, AEx.ex.injEq, Nat.reduceEqDiff, if_true, if_false]))
  refine ExO.call (f := 53) (xs := [.agg [.int .i64 len, .int .i64 wid, .int .i64 front, .int .i64 rear, .int .i64 turn, .int .i64 kilos, .int .i64 mid, .int .i64 high, .sl (ls.map Ld.av) none]]) (ys := [.agg [.int .i64 len, .int .i64 wid, .int .i64 front, .int .i64 rear, .int .i64 turn, .int .i64 kilos, .int .i64 mid, .int .i64 high, .sl (ls.map Ld.av) none]]) (bs := []) (cells := []) (by rfl) (by rfl) (by rfl) (by simp [ren, ren1, AV.plain, AV.plain1, AV.clean, cleanL, clean_lds, clean_hds]) (by rfl) (by rfl) (check_ok len wid front rear turn kilos mid high hF _ ls (.inl rfl) hlen hall) ?_
  rintro v c' ⟨rfl, rfl⟩
  refine ⟨_, rfl, rfl, ?_⟩
  simp only [List.map_cons, List.map_nil, putA, List.set_cons_zero, List.set_cons_succ, AV.plain, AV.plain1, setAll, List.length_cons, List.length_nil, List.drop_succ_cons, List.drop_zero, List.drop_nil, List.append_nil, Nat.reduceAdd]
  (repeat (first|((first|refine ExO.nil ?_|refine Ex.skip ?_|refine Ex.ret ?_|refine Ex.exit ?_); try dsimp only)|((first|(refine xI ?_; intro _ _)|refine xL ?_|(refine xB ?_; intro _ _)|refine xG ?_|refine xS ?_|refine xM ?_|(refine xC ?_; intro _ _)|refine xW ?_); try simp only [sA])|refine Ex.seq ?_|refine Ex.reg ?_|refine Ex.block ?_|refine eT ?_|refine eF ?_|simp only [reduceCtorEq, AEx.ex.injEq, Nat.reduceEqDiff, if_true, if_false]))
  refine ExO.call (f := 54) (xs := [.agg [.int .i64 len, .int .i64 wid, .int .i64 front, .int .i64 rear, .int .i64 turn, .int .i64 kilos, .int .i64 mid, .int .i64 high, .sl (ls.map Ld.av) none]]) (ys := [.agg [.int .i64 len, .int .i64 wid, .int .i64 front, .int .i64 rear, .int .i64 turn, .int .i64 kilos, .int .i64 mid, .int .i64 high, .sl (ls.map Ld.av) none]]) (bs := []) (cells := []) (by rfl) (by rfl) (by rfl) (by simp [ren, ren1, AV.plain, AV.plain1, AV.clean, cleanL, clean_lds]) (by rfl) (by rfl) (ends_n len wid front rear turn kilos mid high _ ls (.inl rfl) hlen) ?_
  rintro v c' ⟨z1, z2, k1, k2, k3, rfl, rfl⟩
  have hpl := endsC_plain [.int .i64 len, .int .i64 wid, .int .i64 front, .int .i64 rear, .int .i64 turn, .int .i64 kilos, .int .i64 mid, .int .i64 high, .sl (ls.map Ld.av) none] z1 z2 rfl
  have hcE := endsC_clean [.int .i64 len, .int .i64 wid, .int .i64 front, .int .i64 rear, .int .i64 turn, .int .i64 kilos, .int .i64 mid, .int .i64 high, .sl (ls.map Ld.av) none] z1 z2 hcF
  refine ⟨.agg (endsC [.int .i64 len, .int .i64 wid, .int .i64 front, .int .i64 rear, .int .i64 turn, .int .i64 kilos, .int .i64 mid, .int .i64 high, .sl (ls.map Ld.av) none] z1 z2), by simp [back, back1, AV.plain, AV.plain1, AV.clean, hpl, hcE], rfl, ?_⟩
  simp only [List.map_cons, List.map_nil, putA, List.set_cons_zero, List.set_cons_succ, AV.plain, AV.plain1, setAll, List.length_cons, List.length_nil, List.drop_succ_cons, List.drop_zero, List.drop_nil, List.append_nil, Nat.reduceAdd]
  have n1 := endsC_len [.int .i64 len, .int .i64 wid, .int .i64 front, .int .i64 rear, .int .i64 turn, .int .i64 kilos, .int .i64 mid, .int .i64 high, .sl (ls.map Ld.av) none] z1 z2 rfl k1 k2
  have n0 : zeros102.length = 102 := endsC_len _ _ _ rfl rfl rfl
  have q1 := endsC_scal [.int .i64 len, .int .i64 wid, .int .i64 front, .int .i64 rear, .int .i64 turn, .int .i64 kilos, .int .i64 mid, .int .i64 high, .sl (ls.map Ld.av) none] z1 z2 (by simp [AV.scalar])
  have q2 := layAt_full zeros102 (endsC [.int .i64 len, .int .i64 wid, .int .i64 front, .int .i64 rear, .int .i64 turn, .int .i64 kilos, .int .i64 mid, .int .i64 high, .sl (ls.map Ld.av) none] z1 z2) (by rw [n0, n1])
  have g1 := ends_hi [.int .i64 len, .int .i64 wid, .int .i64 front, .int .i64 rear, .int .i64 turn, .int .i64 kilos, .int .i64 mid, .int .i64 high, .sl (ls.map Ld.av) none] z1 z2 rfl k1 k2
  have g2 := ends_lo [.int .i64 len, .int .i64 wid, .int .i64 front, .int .i64 rear, .int .i64 turn, .int .i64 kilos, .int .i64 mid, .int .i64 high, .sl (ls.map Ld.av) none] z1 z2 rfl k1
  have hc1 := trC_clean [.int .i64 len, .int .i64 wid, .int .i64 front, .int .i64 rear, .int .i64 turn, .int .i64 kilos, .int .i64 mid, .int .i64 high, .sl (ls.map Ld.av) none] z1 hcF
  have hc2 := trC_clean [.int .i64 len, .int .i64 wid, .int .i64 front, .int .i64 rear, .int .i64 turn, .int .i64 kilos, .int .i64 mid, .int .i64 high, .sl (ls.map Ld.av) none] z2 hcF
  have hpl1 := trC_plain [.int .i64 len, .int .i64 wid, .int .i64 front, .int .i64 rear, .int .i64 turn, .int .i64 kilos, .int .i64 mid, .int .i64 high, .sl (ls.map Ld.av) none] z1 rfl
  have hpl2 := trC_plain [.int .i64 len, .int .i64 wid, .int .i64 front, .int .i64 rear, .int .i64 turn, .int .i64 kilos, .int .i64 mid, .int .i64 high, .sl (ls.map Ld.av) none] z2 rfl
  have hz1 : (∀ (j : Nat) l, ls[j]? = some l → z1[j]? = some l.klo) := fun j l h => (k3 j (List.getElem?_eq_some_iff.1 h).1 l h).1
  have hz2 : (∀ (j : Nat) l, ls[j]? = some l → z2[j]? = some l.khi) := fun j l h => (k3 j (List.getElem?_eq_some_iff.1 h).1 l h).2.2.1
  have d1 := Does.det (Nat.le_refl _) (stands_m len wid front rear turn kilos mid high hF ls hlen Ld.klo z1 k1 hz1 hw1)
  have d2 := stands_m len wid front rear turn kilos mid high hF ls hlen Ld.khi z2 k2 hz2 hw2
  generalize standB front rear (wts kilos mid Ld.klo ls) = S1 at d1 ⊢
  generalize standB front rear (wts kilos mid Ld.khi ls) = S2 at d2 ⊢
  generalize trC [.int .i64 len, .int .i64 wid, .int .i64 front, .int .i64 rear, .int .i64 turn, .int .i64 kilos, .int .i64 mid, .int .i64 high, .sl (ls.map Ld.av) none] z1 = T1x at d1 hc1 hpl1 g2
  generalize trC [.int .i64 len, .int .i64 wid, .int .i64 front, .int .i64 rear, .int .i64 turn, .int .i64 kilos, .int .i64 mid, .int .i64 high, .sl (ls.map Ld.av) none] z2 = T2x at d2 hc2 hpl2 g1
  refine ExO.stG (.ptr 1 0) ⟨[[.int .i64 len, .int .i64 wid, .int .i64 front, .int .i64 rear, .int .i64 turn, .int .i64 kilos, .int .i64 mid, .int .i64 high, .sl (ls.map Ld.av) none], zeros102], []⟩ rfl (by kernel_rfl) ?_
  simp only [putA, List.set_cons_zero, List.set_cons_succ]
  (apply ExO.stG; (case hk => rfl); (case hv => (simp [vA, fRes_eq, n0, n1, q1, q2]; first|done|exact ⟨⟨rfl,rfl⟩,rfl⟩|exact ⟨rfl,rfl⟩|exact rfl)); (try simp only [sA]))
  (repeat (first|((first|refine ExO.nil ?_|refine Ex.skip ?_|refine Ex.ret ?_|refine Ex.exit ?_); try dsimp only)|((first|(refine xI ?_; intro _ _)|refine xL ?_|(refine xB ?_; intro _ _)|refine xG ?_|refine xS ?_|refine xM ?_|(refine xC ?_; intro _ _)|refine xW ?_); try simp only [sA])|refine Ex.seq ?_|refine Ex.reg ?_|refine Ex.block ?_|refine eT ?_|refine eF ?_|simp only [reduceCtorEq, AEx.ex.injEq, Nat.reduceEqDiff, if_true, if_false]))
  apply Ex.drawE (only_ok [(61, [.agg T1x], .bool S1)]) [] [] []
  case hD =>
    simp only [List.take_succ_cons, List.take_zero]
    (repeat (first | exact DrO.nil rfl | (apply DrO.eff; (case hw => rfl); (case hd => rfl); (case hl => rfl); (case hs => rfl); (case hs' => rfl); (case hv => (simp [vA, fRes_eq, n1, g1, g2]; first|done|exact ⟨⟨rfl,rfl⟩,rfl⟩|exact ⟨rfl,rfl⟩|exact rfl)); (try simp only [sA])) | (apply DrO.pure; (case hw => rfl); (case hd => rfl); (case hv => (simp only [List.mem_cons, List.not_mem_nil, or_false, forall_eq_or_imp, forall_eq]; simp [vA, fRes_eq, n1, g1, g2]; first | done | exact ⟨⟨rfl, rfl⟩, rfl⟩ | exact ⟨rfl, rfl⟩ | exact rfl | (refine ⟨rfl, ?_⟩; first | done | rfl | simp))); (try simp only [sA]))))
    apply DrO.call 61 [.agg T1x] (.bool S1) rfl rfl (by simp [aop, evd]) (fun st _ => call_only st rfl (by simp [ren, ren1, AV.plain, AV.plain1, AV.clean, cleanL, hpl1, hc1]) d1 (by simp) (by simp) (fun n => rfl))
    simp only [putA, List.set_cons_zero, List.set_cons_succ]
    (repeat (first | exact DrO.nil rfl | (apply DrO.eff; (case hw => rfl); (case hd => rfl); (case hl => rfl); (case hs => rfl); (case hs' => rfl); (case hv => (simp [vA, fRes_eq, n1, g1, g2]; first|done|exact ⟨⟨rfl,rfl⟩,rfl⟩|exact ⟨rfl,rfl⟩|exact rfl)); (try simp only [sA])) | (apply DrO.pure; (case hw => rfl); (case hd => rfl); (case hv => (simp only [List.mem_cons, List.not_mem_nil, or_false, forall_eq_or_imp, forall_eq]; simp [vA, fRes_eq, n1, g1, g2]; first | done | exact ⟨⟨rfl, rfl⟩, rfl⟩ | exact ⟨rfl, rfl⟩ | exact rfl | (refine ⟨rfl, ?_⟩; first | done | rfl | simp))); (try simp only [sA]))))
  simp only [List.drop_succ_cons, List.drop_zero, List.getLastD_cons, List.getLastD_nil, List.append_nil, List.cons_append, List.nil_append]
  refine ExO.call (f := 61) (xs := [.agg T2x]) (ys := [.agg T2x]) (bs := []) (cells := []) (by rfl) (by rfl) (by rfl) (by simp [ren, ren1, AV.plain, AV.plain1, AV.clean, cleanL, hpl2, hc2]) (by rfl) (by rfl) d2 ?_
  rintro v c' ⟨rfl, rfl⟩
  refine ⟨_, rfl, rfl, ?_⟩
  simp only [List.map_cons, List.map_nil, putA, List.set_cons_zero, List.set_cons_succ, AV.plain, AV.plain1, setAll, List.length_cons, List.length_nil, List.drop_succ_cons, List.drop_zero, List.drop_nil, List.append_nil, Nat.reduceAdd]
  (repeat (first|((first|refine ExO.nil ?_|refine Ex.skip ?_|refine Ex.ret ?_|refine Ex.exit ?_); try dsimp only)|((first|(refine xI ?_; intro _ _)|refine xL ?_|(refine xB ?_; intro _ _)|refine xG ?_|refine xS ?_|refine xM ?_|(refine xC ?_; intro _ _)|refine xW ?_); try simp only [sA])|refine Ex.seq ?_|refine Ex.reg ?_|refine Ex.block ?_|refine eT ?_|refine eF ?_|simp only [reduceCtorEq, AEx.ex.injEq, Nat.reduceEqDiff, if_true, if_false]))
  refine ExO.call (f := 60) (xs := [.bool S1, .bool S2]) (ys := [.bool S1, .bool S2]) (bs := []) (cells := []) (by rfl) (by rfl) (by rfl) (by rfl) (by rfl) (by rfl) (verdict_m S1 S2) ?_
  rintro v c' ⟨rfl, rfl⟩
  refine ⟨_, rfl, rfl, ?_⟩
  simp only [List.map_cons, List.map_nil, putA, List.set_cons_zero, List.set_cons_succ, AV.plain, AV.plain1, setAll, List.length_cons, List.length_nil, List.drop_succ_cons, List.drop_zero, List.drop_nil, List.append_nil, Nat.reduceAdd]
  (repeat (first|((first|refine ExO.nil ?_|refine Ex.skip ?_|refine Ex.ret ?_|refine Ex.exit ?_); try dsimp only)|((first|(refine xI ?_; intro _ _)|refine xL ?_|(refine xB ?_; intro _ _)|refine xG ?_|refine xS ?_|refine xM ?_|(refine xC ?_; intro _ _)|refine xW ?_); try simp only [sA])|refine Ex.seq ?_|refine Ex.reg ?_|refine Ex.block ?_|refine eT ?_|refine eF ?_|simp only [reduceCtorEq, AEx.ex.injEq, Nat.reduceEqDiff, if_true, if_false]))
  simp [evRes, evRes1, one, AV.names, takeCells]
end Go.Proofs.Ytoefpcpijolofaa
end
section
namespace Go.Proofs.Ytoefpcpijolofaa
open Go.RowKit
set_option linter.unusedVariables false
set_option linter.unusedSimpArgs false
set_option maxRecDepth 10000
set_option maxHeartbeats 4000000

structure Nar (l m : Ld) : Prop where
  pt : m.pt = l.pt
  kind : m.kind = l.kind
  watts : m.watts = l.watts
  k1 : l.klo ≤ m.klo
  k2 : m.klo ≤ m.khi
  k3 : m.khi ≤ l.khi
  t1 : l.tlo ≤ m.tlo
  t2 : m.tlo ≤ m.thi
  t3 : m.thi ≤ l.thi
def narL : List Ld → List Ld → Prop
  | [], [] => True
  | l :: ls, m :: ms => Nar l m ∧ narL ls ms
  | _, _ => False
theorem nar_sum (f g : Ld → Int) : ∀ (ls ms : List Ld), narL ls ms → (∀ l ∈ ls, ∀ m, Nar l m → f l ≤ g m) → (ls.map f).sum ≤ (ms.map g).sum
  | [], [], _, _ => by simp
  | [], _ :: _, h, _ => h.elim
  | _ :: _, [], h, _ => h.elim
  | l :: ls, m :: ms, h, hh => by
    have ih := nar_sum f g ls ms h.2 (fun l hl => hh l (List.mem_cons_of_mem _ hl))
    have h1 := hh l (by simp) m h.1
    simp only [List.map_cons, List.sum_cons]
    omega
theorem nar_sum' (f g : Ld → Int) : ∀ (ls ms : List Ld), narL ls ms → (∀ l ∈ ls, ∀ m, Nar l m → g m ≤ f l) → (ms.map g).sum ≤ (ls.map f).sum
  | [], [], _, _ => by simp
  | [], _ :: _, h, _ => h.elim
  | _ :: _, [], h, _ => h.elim
  | l :: ls, m :: ms, h, hh => by
    have ih := nar_sum' f g ls ms h.2 (fun l hl => hh l (List.mem_cons_of_mem _ hl))
    have h1 := hh l (by simp) m h.1
    simp only [List.map_cons, List.sum_cons]
    omega
theorem nar_mem : ∀ (ls ms : List Ld), narL ls ms → ∀ m ∈ ms, ∃ l ∈ ls, Nar l m
  | [], [], _, m, hm => by simp at hm
  | [], _ :: _, h, _, _ => h.elim
  | _ :: _, [], h, _, _ => h.elim
  | l :: ls, m :: ms, h, x, hx => by
    rcases List.mem_cons.1 hx with rfl | hx
    · exact ⟨l, by simp, h.1⟩
    · obtain ⟨l', h1, h2⟩ := nar_mem ls ms h.2 x hx
      exact ⟨l', List.mem_cons_of_mem _ h1, h2⟩
theorem nar_len : ∀ (ls ms : List Ld), narL ls ms → ms.length = ls.length
  | [], [], _ => rfl
  | [], _ :: _, h => h.elim
  | _ :: _, [], h => h.elim
  | l :: ls, m :: ms, h => by simp [nar_len ls ms h.2]
theorem hgt_le (f g : Ld → Int) : ∀ (ls ms : List Ld) (a b : Int), narL ls ms → (∀ l m, Nar l m → f l ≤ g m) → a ≤ b → hgt a f ls ≤ hgt b g ms
  | [], [], a, b, _, _, hab => hab
  | [], _ :: _, _, _, h, _, _ => h.elim
  | _ :: _, [], _, _, h, _, _ => h.elim
  | l :: ls, m :: ms, a, b, h, hh, hab => by
    show hgt (if a < f l then f l else a) f ls ≤ hgt (if b < g m then g m else b) g ms
    refine hgt_le f g ls ms _ _ h.2 hh ?_
    have := hh l m h.1
    split <;> split <;> omega
theorem hgt_ge (f g : Ld → Int) : ∀ (ls ms : List Ld) (a b : Int), narL ls ms → (∀ l m, Nar l m → g m ≤ f l) → b ≤ a → hgt b g ms ≤ hgt a f ls
  | [], [], a, b, _, _, hab => hab
  | [], _ :: _, _, _, h, _, _ => h.elim
  | _ :: _, [], _, _, h, _, _ => h.elim
  | l :: ls, m :: ms, a, b, h, hh, hab => by
    show hgt (if b < g m then g m else b) g ms ≤ hgt (if a < f l then f l else a) f ls
    refine hgt_ge f g ls ms _ _ h.2 hh ?_
    have := hh l m h.1
    split <;> split <;> omega
theorem tot_wts (kilos mid : Int) (g : Ld → Int) (ls : List Ld) : tot (wts kilos mid g ls) = kilos + (ls.map g).sum := by
  simp [tot, wts, List.map_map, Function.comp_def]
theorem mom_wts (p kilos mid : Int) (g : Ld → Int) (ls : List Ld) : mom p (wts kilos mid g ls) = kilos * (mid - p) + (ls.map fun l => g l * (l.pt - p)).sum := by
  simp [mom, wts, List.map_map, Function.comp_def]
theorem momN_wts (p kilos mid : Int) (g : Ld → Int) : ∀ (ls : List Ld), -mom p (wts kilos mid g ls) = -(kilos * (mid - p)) + (ls.map fun l => g l * (p - l.pt)).sum := by
  intro ls
  rw [mom_wts]
  have : (ls.map fun l => g l * (p - l.pt)).sum = -(ls.map fun l => g l * (l.pt - p)).sum := by
    induction ls with
    | nil => rfl
    | cons l ls ih =>
      simp only [List.map_cons, List.sum_cons, ih]
      have : g l * (p - l.pt) = -(g l * (l.pt - p)) := by rw [← Int.mul_neg]; congr 1; omega
      omega
  omega
structure Lt (front rear kilos mid high : Int) (gk gt : Ld → Int) (ls : List Ld) (hk ht : Ld → Int) (ms : List Ld) : Prop where
  l1 : tot (wts kilos mid gk ls) ≤ tot (wts kilos mid hk ms)
  l2 : -mom rear (wts kilos mid gk ls) ≤ -mom rear (wts kilos mid hk ms)
  l3 : mom front (wts kilos mid gk ls) ≤ mom front (wts kilos mid hk ms)
  l4 : hgt high gt ls ≤ hgt high ht ms
theorem Lt.passB {front rear kilos mid high : Int} {gk gt hk ht : Ld → Int} {ls ms : List Ld} (h : Lt front rear kilos mid high gk gt ls hk ht ms) (len wid turn : Int) (x : Hd) (hp : Proofs.Ytoefpcpijolofaa.passB len wid front rear turn kilos mid high hk ht ms x = true) : Proofs.Ytoefpcpijolofaa.passB len wid front rear turn kilos mid high gk gt ls x = true := by
  obtain ⟨h1, h2, h3, h4⟩ := h
  unfold Proofs.Ytoefpcpijolofaa.passB at hp ⊢
  split
  · rename_i hx
    rw [if_pos hx] at hp
    exact hp
  · rename_i hx
    rw [if_neg hx] at hp
    split
    · rename_i hy
      rw [if_pos hy] at hp
      have := of_decide_eq_true hp
      exact decide_eq_true (by omega)
    · rename_i hy
      rw [if_neg hy] at hp
      unfold bridgeB at hp ⊢
      simp only [Bool.and_eq_true, decide_eq_true_eq] at hp ⊢
      obtain ⟨⟨p1, p2⟩, p3⟩ := hp
      exact ⟨⟨by omega, by omega⟩, by omega⟩
theorem Lt.standB {front rear kilos mid high : Int} {gk gt hk ht : Ld → Int} {ls ms : List Ld} (h : Lt front rear kilos mid high gk gt ls hk ht ms) (hp : Proofs.Ytoefpcpijolofaa.standB front rear (wts kilos mid gk ls) = true) : Proofs.Ytoefpcpijolofaa.standB front rear (wts kilos mid hk ms) = true := by
  obtain ⟨h1, h2, h3, h4⟩ := h
  unfold Proofs.Ytoefpcpijolofaa.standB at hp ⊢
  simp only [Bool.and_eq_true, decide_eq_true_eq] at hp ⊢
  omega
theorem lt_of (front rear kilos mid high : Int) (gk gt hk ht : Ld → Int) (ls ms : List Ld) (h : narL ls ms) (hpt : ∀ l ∈ ls, front ≤ l.pt ∧ l.pt ≤ rear) (a : ∀ l m, Nar l m → gk l ≤ hk m) (b : ∀ l m, Nar l m → gt l ≤ ht m) : Lt front rear kilos mid high gk gt ls hk ht ms := by
  refine ⟨?_, ?_, ?_, hgt_le gt ht ls ms high high h b (Int.le_refl _)⟩
  · rw [tot_wts, tot_wts]
    have := nar_sum gk hk ls ms h (fun l _ m hm => a l m hm)
    omega
  · rw [momN_wts, momN_wts]
    have := nar_sum (fun l => gk l * (rear - l.pt)) (fun l => hk l * (rear - l.pt)) ls ms h (fun l hl m hm => by
      have h1 := a l m hm
      have h2 := (hpt l hl).2
      simp only [hm.pt]
      exact Int.mul_le_mul_of_nonneg_right h1 (by omega))
    omega
  · rw [mom_wts, mom_wts]
    have := nar_sum (fun l => gk l * (l.pt - front)) (fun l => hk l * (l.pt - front)) ls ms h (fun l hl m hm => by
      have h1 := a l m hm
      have h2 := (hpt l hl).1
      simp only [hm.pt]
      exact Int.mul_le_mul_of_nonneg_right h1 (by omega))
    omega
theorem lt_of' (front rear kilos mid high : Int) (gk gt hk ht : Ld → Int) (ls ms : List Ld) (h : narL ls ms) (hpt : ∀ l ∈ ls, front ≤ l.pt ∧ l.pt ≤ rear) (a : ∀ l m, Nar l m → hk m ≤ gk l) (b : ∀ l m, Nar l m → ht m ≤ gt l) : Lt front rear kilos mid high hk ht ms gk gt ls := by
  refine ⟨?_, ?_, ?_, hgt_ge gt ht ls ms high high h b (Int.le_refl _)⟩
  · rw [tot_wts, tot_wts]
    have := nar_sum' gk hk ls ms h (fun l _ m hm => a l m hm)
    omega
  · rw [momN_wts, momN_wts]
    have := nar_sum' (fun l => gk l * (rear - l.pt)) (fun l => hk l * (rear - l.pt)) ls ms h (fun l hl m hm => by
      have h1 := a l m hm
      have h2 := (hpt l hl).2
      simp only [hm.pt]
      exact Int.mul_le_mul_of_nonneg_right h1 (by omega))
    omega
  · rw [mom_wts, mom_wts]
    have := nar_sum' (fun l => gk l * (l.pt - front)) (fun l => hk l * (l.pt - front)) ls ms h (fun l hl m hm => by
      have h1 := a l m hm
      have h2 := (hpt l hl).1
      simp only [hm.pt]
      exact Int.mul_le_mul_of_nonneg_right h1 (by omega))
    omega
end Go.Proofs.Ytoefpcpijolofaa
end
section
namespace Go.Proofs.Ytoefpcpijolofaa
open Go.RowKit
set_option linter.unusedVariables false
set_option linter.unusedSimpArgs false
set_option maxRecDepth 10000
set_option maxHeartbeats 4000000

theorem narL_snoc : ∀ (xs ys : List Ld) (x y : Ld), narL xs ys → Nar x y → narL (xs ++ [x]) (ys ++ [y])
  | [], [], x, y, _, h => ⟨h, trivial⟩
  | [], _ :: _, _, _, h, _ => h.elim
  | _ :: _, [], _, _, h, _ => h.elim
  | a :: xs, b :: ys, x, y, h, k => ⟨h.1, narL_snoc xs ys x y h.2 k⟩

theorem truthOf_m (b : Int) (len wid front rear turn kilos mid high : Int) (ls : List Ld) (hlen : ls.length ≤ 20) (hall : ∀ l ∈ ls, LOk ⟨len, wid, front, rear, turn, kilos, mid, high⟩ l) : Does Try.prog 19 [.ptr 0 0, .agg [.int .i64 len, .int .i64 wid, .int .i64 front, .int .i64 rear, .int .i64 turn, .int .i64 kilos, .int .i64 mid, .int .i64 high, .sl (ls.map Ld.av) none]] [[.int .u64 b]] fun v c' => ∃ (ms : List Ld) (b' : Int), v = .agg [IL (ms.map Ld.klo), IL (ms.map Ld.tlo)] ∧ c' = [[.int .u64 b']] ∧ narL ls ms := by
  refine Does.of comp19 ?_
  unfold F19
  simp only [start, List.length_cons, List.length_nil, List.replicate, List.cons_append, List.nil_append, Nat.reduceAdd, Nat.reduceSub]
  (repeat (first|((first|refine ExO.nil ?_|refine Ex.skip ?_|refine Ex.ret ?_|refine Ex.exit ?_); try dsimp only)|((first|(refine xI ?_; intro _ _)|refine xL ?_|(refine xB ?_; intro _ _)|refine xG ?_|refine xS ?_|refine xM ?_|(refine xC ?_; intro _ _)|refine xW ?_); try simp only [sA])|refine Ex.seq ?_|refine Ex.reg ?_|refine Ex.block ?_|refine eT ?_|refine eF ?_|simp only [reduceCtorEq, AEx.ex.injEq, Nat.reduceEqDiff, if_true, if_false]))
  refine Ex.loopF (fun k a S => ∃ (i : Nat) (bb : Int) (ms : List Ld) (ks ts : List Int) (tb : List AV) (lv : List (Nat × Nat)), narL (ls.take i) ms ∧ ks = ms.map Ld.klo ∧ ts = ms.map Ld.tlo ∧ i ≤ ls.length ∧ k = ls.length - i ∧ ((i = 0 ∧ tb = [.nils, .nils] ∧ lv = []) ∨ (tb = [.sl (ks.map fun z => AV.int .i64 z) (some 0), .sl (ts.map fun z => AV.int .i64 z) (some 1)] ∧ lv = [(ks.length, 1), (ts.length, 1)])) ∧ a = [.ptr 0 0, .junk, .junk, .ptr 1 0, .ptr 2 0, .ptr 3 0, .int .i64 (i : Nat), .junk, .junk, .junk, .junk, .junk, .junk, .junk, .junk, .junk, .junk, .junk, .junk, .junk, .junk, .junk, .junk, .junk, .junk, .junk, .junk, .junk, .junk, .junk, .junk, .junk, .junk, .junk, .junk, .junk, .junk, .junk, .junk, .junk, .junk] ∧ S = ⟨[[.int .u64 bb], [.int .i64 len, .int .i64 wid, .int .i64 front, .int .i64 rear, .int .i64 turn, .int .i64 kilos, .int .i64 mid, .int .i64 high, .sl (ls.map Ld.av) none], [.nils, .nils], tb], lv⟩) ls.length ?_ ?_
  · exact ⟨_, _, forgets 4 [] ([true, false, false, true, true, true, true, false, false, false, false, false, false, false, false, false, false, false, false, false, false, false, false, false, false, false, false, false, false, false, false, false, false, false, false, false, false, false, false, false, false]) (by decide) (by simp) (bx2 := [[.int .u64 b], [.int .i64 len, .int .i64 wid, .int .i64 front, .int .i64 rear, .int .i64 turn, .int .i64 kilos, .int .i64 mid, .int .i64 high, .sl (ls.map Ld.av) none], [.nils, .nils], [.nils, .nils]]) (by simp [re, re1, AV.clean, clean_lds]) (by rfl) (by decide), 0, b, [], [], [], _, _, trivial, rfl, rfl, by omega, rfl, .inl ⟨rfl, rfl, rfl⟩, by rfl, by rfl⟩
  · rintro k a S ⟨i, bb, ms, ks, ts, tb, lv, hnar, hks, hts, hi, rfl, htb, rfl, rfl⟩
    (repeat (first|((first|refine ExO.nil ?_|refine Ex.skip ?_|refine Ex.ret ?_|refine Ex.exit ?_); try dsimp only)|((first|(refine xI ?_; intro _ _)|refine xL ?_|(refine xB ?_; intro _ _)|refine xG ?_|refine xS ?_|refine xM ?_|(refine xC ?_; intro _ _)|refine xW ?_); try simp only [sA])|refine Ex.seq ?_|refine Ex.reg ?_|refine Ex.block ?_|refine eT ?_|refine eF ?_|simp only [reduceCtorEq, AEx.ex.injEq, Nat.reduceEqDiff, if_true, if_false]))
    rename_i c hc
    have hml : ms.length = i := by rw [nar_len _ _ hnar, List.length_take]; omega
    have hkl : ks.length = i := by rw [hks, List.length_map, hml]
    have htl : ts.length = i := by rw [hts, List.length_map, hml]
    have hck := clean_ints ks
    have hct := clean_ints ts
    cases c
    · have hge : ls.length ≤ i := by have := hc.symm; simp at this; omega
      have hie : i = ls.length := by omega
      rw [hie, List.take_length] at hnar
      (refine Ex.cond (b := false) (by first | rfl | simp [evd]) ?_; simp only [Bool.false_eq_true, if_false])
      (repeat (first|((first|refine ExO.nil ?_|refine Ex.skip ?_|refine Ex.ret ?_|refine Ex.exit ?_); try dsimp only)|((first|(refine xI ?_; intro _ _)|refine xL ?_|(refine xB ?_; intro _ _)|refine xG ?_|refine xS ?_|refine xM ?_|(refine xC ?_; intro _ _)|refine xW ?_); try simp only [sA])|refine Ex.seq ?_|refine Ex.reg ?_|refine Ex.block ?_|refine eT ?_|refine eF ?_|simp only [reduceCtorEq, AEx.ex.injEq, Nat.reduceEqDiff, if_true, if_false]))
      refine ExO.forget (fade [] [[], [], [], [true, true]]) ?_
      rcases htb with ⟨h0, rfl, rfl⟩ | ⟨rfl, rfl⟩
      · have hm0 : ms = [] := List.eq_nil_of_length_eq_zero (by omega)
        subst hm0
        simp only [chillL, chillB, fadeV, if_true]
        (repeat (first|((first|refine ExO.nil ?_|refine Ex.skip ?_|refine Ex.ret ?_|refine Ex.exit ?_); try dsimp only)|((first|(refine xI ?_; intro _ _)|refine xL ?_|(refine xB ?_; intro _ _)|refine xG ?_|refine xS ?_|refine xM ?_|(refine xC ?_; intro _ _)|refine xW ?_); try simp only [sA])|refine Ex.seq ?_|refine Ex.reg ?_|refine Ex.block ?_|refine eT ?_|refine eF ?_|simp only [reduceCtorEq, AEx.ex.injEq, Nat.reduceEqDiff, if_true, if_false]))
        exact ⟨by simp, _, by simp [evRes, evRes1, one, takeCells]; rfl, by simp [AV.names], [], bb, by simp [IL], by simp [AV.names], hnar⟩
      · simp only [chillL, chillB, fadeV, if_true]
        (repeat (first|((first|refine ExO.nil ?_|refine Ex.skip ?_|refine Ex.ret ?_|refine Ex.exit ?_); try dsimp only)|((first|(refine xI ?_; intro _ _)|refine xL ?_|(refine xB ?_; intro _ _)|refine xG ?_|refine xS ?_|refine xM ?_|(refine xC ?_; intro _ _)|refine xW ?_); try simp only [sA])|refine Ex.seq ?_|refine Ex.reg ?_|refine Ex.block ?_|refine eT ?_|refine eF ?_|simp only [reduceCtorEq, AEx.ex.injEq, Nat.reduceEqDiff, if_true, if_false]))
        subst hks
        subst hts
        exact ⟨by simp, .agg [IL (ms.map Ld.klo), IL (ms.map Ld.tlo)], by simp [evRes, evRes1, one, takeCells, IL], by simp [AV.names], ms, bb, rfl, by simp [AV.names], hnar⟩
    · have hil : i < ls.length := by have := hc.symm; simpa using this
      have e1 : ls[i]? = some ls[i] := List.getElem?_eq_getElem hil
      have hlo := hall ls[i] (List.getElem_mem hil)
      have htake := take_snoc e1
      generalize ls[i] = l at e1 hlo htake
      obtain ⟨pt, klo, khi, tlo, thi, kind, watts⟩ := l
      have hl' : front ≤ pt ∧ pt ≤ rear ∧ 0 ≤ klo ∧ klo ≤ khi ∧ khi ≤ 900 ∧ 0 ≤ tlo ∧ tlo ≤ thi ∧ thi ≤ 700 ∧ 1 ≤ kind ∧ kind ≤ 4 ∧ 0 ≤ watts ∧ watts < 3000 ∧ (watts = 0 ∨ kind = 2 ∨ kind = 3) := hlo
      have l1 : (i : Int) < (ls.length : Int) := by omega
      obtain ⟨p, b1, o1, p1, p2⟩ := of_o5 bb klo khi (by omega) (by omega) (by omega) (by omega)
      obtain ⟨q, b2, o2, p3, p4⟩ := of_o5 b1 tlo thi (by omega) (by omega) (by omega) (by omega)
      have hn2 : narL (ls.take (i + 1)) (ms ++ [⟨pt, p, p, q, q, kind, watts⟩]) := by
        rw [htake]
        exact narL_snoc _ _ _ _ hnar ⟨rfl, rfl, rfl, by show klo ≤ p; omega, Int.le_refl _, by show p ≤ khi; omega, by show tlo ≤ q; omega, Int.le_refl _, by show q ≤ thi; omega⟩
      have hk2 : ks ++ [p] = (ms ++ [(⟨pt, p, p, q, q, kind, watts⟩ : Ld)]).map Ld.klo := by rw [List.map_append, hks]; rfl
      have ht2 : ts ++ [q] = (ms ++ [(⟨pt, p, p, q, q, kind, watts⟩ : Ld)]).map Ld.tlo := by rw [List.map_append, hts]; rfl
      (refine Ex.cond (b := true) (by first | rfl | simp [evd]) ?_; simp only [if_true])
      (repeat (first|((first|refine ExO.nil ?_|refine Ex.skip ?_|refine Ex.ret ?_|refine Ex.exit ?_); try dsimp only)|((first|(refine xI ?_; intro _ _)|refine xL ?_|(refine xB ?_; intro _ _)|refine xG ?_|refine xS ?_|refine xM ?_|(refine xC ?_; intro _ _)|refine xW ?_); try simp only [sA])|refine Ex.seq ?_|refine Ex.reg ?_|refine Ex.block ?_|refine eT ?_|refine eF ?_|simp only [reduceCtorEq, AEx.ex.injEq, Nat.reduceEqDiff, if_true, if_false]))
      rcases htb with ⟨h0, rfl, rfl⟩ | ⟨rfl, rfl⟩
      · subst h0
        have hm0 : ms = [] := List.eq_nil_of_length_eq_zero hml
        subst hm0
        have hks0 : ks = [] := hks
        have hts0 : ts = [] := hts
        subst hks0
        subst hts0
        have l0 : 0 < ls.length := hil
        have e0 := (List.getElem?_eq_some_iff.1 e1).2
        have l0' : (0 : Int) < (ls.length : Int) := by omega
        apply Ex.drawE T5_ok [] [(1, 1), (1, 1)] [⟨[[.int .u64 b1], [.int .i64 len, .int .i64 wid, .int .i64 front, .int .i64 rear, .int .i64 turn, .int .i64 kilos, .int .i64 mid, .int .i64 high, .sl (ls.map Ld.av) none], [.nils, .nils], [.nils, .nils]], [(1, 1), (1, 1)]⟩, ⟨[[.int .u64 b1], [.int .i64 len, .int .i64 wid, .int .i64 front, .int .i64 rear, .int .i64 turn, .int .i64 kilos, .int .i64 mid, .int .i64 high, .sl (ls.map Ld.av) none], [.nils, .nils], [.nils, .nils]], [(1, 1), (1, 1), (1, 1)]⟩, ⟨[[.int .u64 b2], [.int .i64 len, .int .i64 wid, .int .i64 front, .int .i64 rear, .int .i64 turn, .int .i64 kilos, .int .i64 mid, .int .i64 high, .sl (ls.map Ld.av) none], [.nils, .nils], [.nils, .nils]], [(1, 1), (1, 1), (1, 1)]⟩, ⟨[[.int .u64 b2], [.int .i64 len, .int .i64 wid, .int .i64 front, .int .i64 rear, .int .i64 turn, .int .i64 kilos, .int .i64 mid, .int .i64 high, .sl (ls.map Ld.av) none], [.nils, .nils], [.nils, .nils]], [(1, 1), (1, 1), (1, 1), (1, 1)]⟩]
        case hD =>
          simp only [List.take_succ_cons, List.take_zero, List.append_nil, List.nil_append]
          (repeat (first | exact DrO.nil rfl | (apply DrO.eff; (case hw => rfl); (case hd => rfl); (case hl => rfl); (case hs => rfl); (case hs' => rfl); (case hv => (simp [vA, fRes_eq, e0, l0, l0', Ld.av_cells]; first|done|exact ⟨⟨rfl,rfl⟩,rfl⟩|exact ⟨rfl,rfl⟩|exact rfl)); (try simp only [sA])) | (apply DrO.pure; (case hw => rfl); (case hd => rfl); (case hv => (simp only [List.mem_cons, List.not_mem_nil, or_false, forall_eq_or_imp, forall_eq]; simp [vA, fRes_eq, e0, l0, l0', Ld.av_cells]; first | done | exact ⟨⟨rfl, rfl⟩, rfl⟩ | exact ⟨rfl, rfl⟩ | exact rfl | (refine ⟨rfl, ?_⟩; first | done | rfl | simp))); (try simp only [sA]))))
          apply DrO.eff (.int .i64 p) (⟨[[.int .u64 bb], [.int .i64 len, .int .i64 wid, .int .i64 front, .int .i64 rear, .int .i64 turn, .int .i64 kilos, .int .i64 mid, .int .i64 high, .sl (ls.map Ld.av) none], [.nils, .nils], [.nils, .nils]], [(1, 1), (1, 1)]⟩) (⟨[[.int .u64 b1], [.int .i64 len, .int .i64 wid, .int .i64 front, .int .i64 rear, .int .i64 turn, .int .i64 kilos, .int .i64 mid, .int .i64 high, .sl (ls.map Ld.av) none], [.nils, .nils], [.nils, .nils]], [(1, 1), (1, 1)]⟩) rfl rfl rfl rfl rfl (by rw [evOp_call (f := 35) (xs := [.ptr 0 0, .agg [.int .i64 klo, .int .i64 khi]]) rfl]; exact drum_callT rfl rfl o1)
          simp only [putA, List.set_cons_zero, List.set_cons_succ]
          apply DrO.row 0 1 [.int .i64 p] rfl rfl (fun st _ => rfl) (by simp) (by simp) (by simp)
          simp only [putA, List.set_cons_zero, List.set_cons_succ]
          (repeat (first | exact DrO.nil rfl | (apply DrO.eff; (case hw => rfl); (case hd => rfl); (case hl => rfl); (case hs => rfl); (case hs' => rfl); (case hv => (simp [vA, fRes_eq, e0, l0, l0', Ld.av_cells]; first|done|exact ⟨⟨rfl,rfl⟩,rfl⟩|exact ⟨rfl,rfl⟩|exact rfl)); (try simp only [sA])) | (apply DrO.pure; (case hw => rfl); (case hd => rfl); (case hv => (simp only [List.mem_cons, List.not_mem_nil, or_false, forall_eq_or_imp, forall_eq]; simp [vA, fRes_eq, e0, l0, l0', Ld.av_cells]; first | done | exact ⟨⟨rfl, rfl⟩, rfl⟩ | exact ⟨rfl, rfl⟩ | exact rfl | (refine ⟨rfl, ?_⟩; first | done | rfl | simp))); (try simp only [sA]))))
          apply DrO.eff (.int .i64 q) (⟨[[.int .u64 b1], [.int .i64 len, .int .i64 wid, .int .i64 front, .int .i64 rear, .int .i64 turn, .int .i64 kilos, .int .i64 mid, .int .i64 high, .sl (ls.map Ld.av) none], [.nils, .nils], [.nils, .nils]], [(1, 1), (1, 1), (1, 1)]⟩) (⟨[[.int .u64 b2], [.int .i64 len, .int .i64 wid, .int .i64 front, .int .i64 rear, .int .i64 turn, .int .i64 kilos, .int .i64 mid, .int .i64 high, .sl (ls.map Ld.av) none], [.nils, .nils], [.nils, .nils]], [(1, 1), (1, 1), (1, 1)]⟩) rfl rfl rfl rfl rfl (by rw [evOp_call (f := 35) (xs := [.ptr 0 0, .agg [.int .i64 tlo, .int .i64 thi]]) rfl]; exact drum_callT rfl rfl o2)
          simp only [putA, List.set_cons_zero, List.set_cons_succ]
          apply DrO.row 1 1 [.int .i64 q] rfl rfl (fun st _ => rfl) (by simp) (by simp) (by simp)
          simp only [putA, List.set_cons_zero, List.set_cons_succ]
          (repeat (first | exact DrO.nil rfl | (apply DrO.eff; (case hw => rfl); (case hd => rfl); (case hl => rfl); (case hs => rfl); (case hs' => rfl); (case hv => (simp [vA, fRes_eq, e0, l0, l0', Ld.av_cells]; first|done|exact ⟨⟨rfl,rfl⟩,rfl⟩|exact ⟨rfl,rfl⟩|exact rfl)); (try simp only [sA])) | (apply DrO.pure; (case hw => rfl); (case hd => rfl); (case hv => (simp only [List.mem_cons, List.not_mem_nil, or_false, forall_eq_or_imp, forall_eq]; simp [vA, fRes_eq, e0, l0, l0', Ld.av_cells]; first | done | exact ⟨⟨rfl, rfl⟩, rfl⟩ | exact ⟨rfl, rfl⟩ | exact rfl | (refine ⟨rfl, ?_⟩; first | done | rfl | simp))); (try simp only [sA]))))
        simp only [List.drop_succ_cons, List.drop_zero, List.getLastD_cons, List.getLastD_nil, List.append_nil, List.cons_append, List.nil_append]
        (repeat (first|((first|refine ExO.nil ?_|refine Ex.skip ?_|refine Ex.ret ?_|refine Ex.exit ?_); try dsimp only)|((first|(refine xI ?_; intro _ _)|refine xL ?_|(refine xB ?_; intro _ _)|refine xG ?_|refine xS ?_|refine xM ?_|(refine xC ?_; intro _ _)|refine xW ?_); try simp only [sA])|refine Ex.seq ?_|refine Ex.reg ?_|refine Ex.block ?_|refine eT ?_|refine eF ?_|simp only [reduceCtorEq, AEx.ex.injEq, Nat.reduceEqDiff, if_true, if_false]))
        rename_i m hm
        rw [i64_in (by omega) (by omega)] at hm
        have hm2 : m = ((0 + 1 : Nat) : Int) := by omega
        subst hm2
        exact ⟨_, _, forgets 4 [2, 3] ([true, false, false, true, true, true, true, false, false, false, false, false, false, false, false, false, false, false, false, false, false, false, false, false, false, false, false, false, false, false, false, false, false, false, false, false, false, false, false, false, false]) (by decide) (by simp) (bx2 := [[.int .u64 b2], [.int .i64 len, .int .i64 wid, .int .i64 front, .int .i64 rear, .int .i64 turn, .int .i64 kilos, .int .i64 mid, .int .i64 high, .sl (ls.map Ld.av) none], [.nils, .nils], [.sl [.int .i64 p] (some 0), .sl [.int .i64 q] (some 1)]]) (by simp [re, re1, AV.clean, cleanL, clean_lds, List.idxOf?, List.findIdx?, List.findIdx?.go]) (lv2 := [(1, 1), (1, 1)]) (by simp) (by decide), ls.length - 1, by omega, 1, b2, _, [p], [q], _, _, hn2, hk2, ht2, by omega, rfl, .inr ⟨rfl, rfl⟩, by rfl, by rfl⟩
      · have hz : i + 1 ≤ 65536 := by omega
        apply Ex.drawE T5_ok [] [(1, 1), (1, 1)] [⟨[[.int .u64 b1], [.int .i64 len, .int .i64 wid, .int .i64 front, .int .i64 rear, .int .i64 turn, .int .i64 kilos, .int .i64 mid, .int .i64 high, .sl (ls.map Ld.av) none], [.nils, .nils], [.sl (ks.map fun z => AV.int .i64 z) (some 0), .sl (ts.map fun z => AV.int .i64 z) (some 1)]], [(ks.length, 1), (ts.length, 1), (1, 1), (1, 1)]⟩, ⟨[[.int .u64 b1], [.int .i64 len, .int .i64 wid, .int .i64 front, .int .i64 rear, .int .i64 turn, .int .i64 kilos, .int .i64 mid, .int .i64 high, .sl (ls.map Ld.av) none], [.nils, .nils], [.sl (ks.map fun z => AV.int .i64 z) (some 0), .sl (ts.map fun z => AV.int .i64 z) (some 1)]], [(ks.length + 1, 1), (ts.length, 1), (1, 1), (1, 1)]⟩, ⟨[[.int .u64 b2], [.int .i64 len, .int .i64 wid, .int .i64 front, .int .i64 rear, .int .i64 turn, .int .i64 kilos, .int .i64 mid, .int .i64 high, .sl (ls.map Ld.av) none], [.nils, .nils], [.sl (ks.map fun z => AV.int .i64 z) (some 0), .sl (ts.map fun z => AV.int .i64 z) (some 1)]], [(ks.length + 1, 1), (ts.length, 1), (1, 1), (1, 1)]⟩, ⟨[[.int .u64 b2], [.int .i64 len, .int .i64 wid, .int .i64 front, .int .i64 rear, .int .i64 turn, .int .i64 kilos, .int .i64 mid, .int .i64 high, .sl (ls.map Ld.av) none], [.nils, .nils], [.sl (ks.map fun z => AV.int .i64 z) (some 0), .sl (ts.map fun z => AV.int .i64 z) (some 1)]], [(ks.length + 1, 1), (ts.length + 1, 1), (1, 1), (1, 1)]⟩]
        case hD =>
          simp only [List.take_succ_cons, List.take_zero, List.append_nil, List.nil_append, List.cons_append]
          (repeat (first | exact DrO.nil rfl | (apply DrO.eff; (case hw => rfl); (case hd => rfl); (case hl => rfl); (case hs => rfl); (case hs' => rfl); (case hv => (simp [vA, fRes_eq, e1, l1, Ld.av_cells]; first|done|exact ⟨⟨rfl,rfl⟩,rfl⟩|exact ⟨rfl,rfl⟩|exact rfl)); (try simp only [sA])) | (apply DrO.pure; (case hw => rfl); (case hd => rfl); (case hv => (simp only [List.mem_cons, List.not_mem_nil, or_false, forall_eq_or_imp, forall_eq]; simp [vA, fRes_eq, e1, l1, Ld.av_cells]; first | done | exact ⟨⟨rfl, rfl⟩, rfl⟩ | exact ⟨rfl, rfl⟩ | exact rfl | (refine ⟨rfl, ?_⟩; first | done | rfl | simp))); (try simp only [sA]))))
          apply DrO.eff (.int .i64 p) (⟨[[.int .u64 bb], [.int .i64 len, .int .i64 wid, .int .i64 front, .int .i64 rear, .int .i64 turn, .int .i64 kilos, .int .i64 mid, .int .i64 high, .sl (ls.map Ld.av) none], [.nils, .nils], [.sl (ks.map fun z => AV.int .i64 z) (some 0), .sl (ts.map fun z => AV.int .i64 z) (some 1)]], [(ks.length, 1), (ts.length, 1), (1, 1), (1, 1)]⟩) (⟨[[.int .u64 b1], [.int .i64 len, .int .i64 wid, .int .i64 front, .int .i64 rear, .int .i64 turn, .int .i64 kilos, .int .i64 mid, .int .i64 high, .sl (ls.map Ld.av) none], [.nils, .nils], [.sl (ks.map fun z => AV.int .i64 z) (some 0), .sl (ts.map fun z => AV.int .i64 z) (some 1)]], [(ks.length, 1), (ts.length, 1), (1, 1), (1, 1)]⟩) rfl rfl rfl rfl rfl (by rw [evOp_call (f := 35) (xs := [.ptr 0 0, .agg [.int .i64 klo, .int .i64 khi]]) rfl]; exact drum_callT rfl rfl o1)
          simp only [putA, List.set_cons_zero, List.set_cons_succ]
          apply DrO.row 2 1 [.int .i64 p] rfl rfl (fun st _ => rfl) (by simp) (by simp) (by simp)
          simp only [putA, List.set_cons_zero, List.set_cons_succ]
          apply DrO.eff (.sl ((ks.map fun z => AV.int .i64 z) ++ [.int .i64 p]) (some 0)) (⟨[[.int .u64 b1], [.int .i64 len, .int .i64 wid, .int .i64 front, .int .i64 rear, .int .i64 turn, .int .i64 kilos, .int .i64 mid, .int .i64 high, .sl (ls.map Ld.av) none], [.nils, .nils], [.sl (ks.map fun z => AV.int .i64 z) (some 0), .sl (ts.map fun z => AV.int .i64 z) (some 1)]], [(ks.length, 1), (ts.length, 1), (1, 1), (1, 1)]⟩) (⟨[[.int .u64 b1], [.int .i64 len, .int .i64 wid, .int .i64 front, .int .i64 rear, .int .i64 turn, .int .i64 kilos, .int .i64 mid, .int .i64 high, .sl (ls.map Ld.av) none], [.nils, .nils], [.sl (ks.map fun z => AV.int .i64 z) (some 0), .sl (ts.map fun z => AV.int .i64 z) (some 1)]], [(ks.length + 1, 1), (ts.length, 1), (1, 1), (1, 1)]⟩) rfl rfl rfl rfl rfl (by simp [vA, fRes_eq, hkl, hz])
          simp only [putA, List.set_cons_zero, List.set_cons_succ]
          (repeat (first | exact DrO.nil rfl | (apply DrO.eff; (case hw => rfl); (case hd => rfl); (case hl => rfl); (case hs => rfl); (case hs' => rfl); (case hv => (simp [vA, fRes_eq, e1, l1, Ld.av_cells]; first|done|exact ⟨⟨rfl,rfl⟩,rfl⟩|exact ⟨rfl,rfl⟩|exact rfl)); (try simp only [sA])) | (apply DrO.pure; (case hw => rfl); (case hd => rfl); (case hv => (simp only [List.mem_cons, List.not_mem_nil, or_false, forall_eq_or_imp, forall_eq]; simp [vA, fRes_eq, e1, l1, Ld.av_cells]; first | done | exact ⟨⟨rfl, rfl⟩, rfl⟩ | exact ⟨rfl, rfl⟩ | exact rfl | (refine ⟨rfl, ?_⟩; first | done | rfl | simp))); (try simp only [sA]))))
          apply DrO.eff (.int .i64 q) (⟨[[.int .u64 b1], [.int .i64 len, .int .i64 wid, .int .i64 front, .int .i64 rear, .int .i64 turn, .int .i64 kilos, .int .i64 mid, .int .i64 high, .sl (ls.map Ld.av) none], [.nils, .nils], [.sl (ks.map fun z => AV.int .i64 z) (some 0), .sl (ts.map fun z => AV.int .i64 z) (some 1)]], [(ks.length + 1, 1), (ts.length, 1), (1, 1), (1, 1)]⟩) (⟨[[.int .u64 b2], [.int .i64 len, .int .i64 wid, .int .i64 front, .int .i64 rear, .int .i64 turn, .int .i64 kilos, .int .i64 mid, .int .i64 high, .sl (ls.map Ld.av) none], [.nils, .nils], [.sl (ks.map fun z => AV.int .i64 z) (some 0), .sl (ts.map fun z => AV.int .i64 z) (some 1)]], [(ks.length + 1, 1), (ts.length, 1), (1, 1), (1, 1)]⟩) rfl rfl rfl rfl rfl (by rw [evOp_call (f := 35) (xs := [.ptr 0 0, .agg [.int .i64 tlo, .int .i64 thi]]) rfl]; exact drum_callT rfl rfl o2)
          simp only [putA, List.set_cons_zero, List.set_cons_succ]
          apply DrO.row 3 1 [.int .i64 q] rfl rfl (fun st _ => rfl) (by simp) (by simp) (by simp)
          simp only [putA, List.set_cons_zero, List.set_cons_succ]
          apply DrO.eff (.sl ((ts.map fun z => AV.int .i64 z) ++ [.int .i64 q]) (some 1)) (⟨[[.int .u64 b2], [.int .i64 len, .int .i64 wid, .int .i64 front, .int .i64 rear, .int .i64 turn, .int .i64 kilos, .int .i64 mid, .int .i64 high, .sl (ls.map Ld.av) none], [.nils, .nils], [.sl (ks.map fun z => AV.int .i64 z) (some 0), .sl (ts.map fun z => AV.int .i64 z) (some 1)]], [(ks.length + 1, 1), (ts.length, 1), (1, 1), (1, 1)]⟩) (⟨[[.int .u64 b2], [.int .i64 len, .int .i64 wid, .int .i64 front, .int .i64 rear, .int .i64 turn, .int .i64 kilos, .int .i64 mid, .int .i64 high, .sl (ls.map Ld.av) none], [.nils, .nils], [.sl (ks.map fun z => AV.int .i64 z) (some 0), .sl (ts.map fun z => AV.int .i64 z) (some 1)]], [(ks.length + 1, 1), (ts.length + 1, 1), (1, 1), (1, 1)]⟩) rfl rfl rfl rfl rfl (by simp [vA, fRes_eq, htl, hz])
          simp only [putA, List.set_cons_zero, List.set_cons_succ]
          (repeat (first | exact DrO.nil rfl | (apply DrO.eff; (case hw => rfl); (case hd => rfl); (case hl => rfl); (case hs => rfl); (case hs' => rfl); (case hv => (simp [vA, fRes_eq]; first|done|exact ⟨⟨rfl,rfl⟩,rfl⟩|exact ⟨rfl,rfl⟩|exact rfl)); (try simp only [sA])) | (apply DrO.pure; (case hw => rfl); (case hd => rfl); (case hv => (simp only [List.mem_cons, List.not_mem_nil, or_false, forall_eq_or_imp, forall_eq]; simp [vA, fRes_eq]; first | done | exact ⟨⟨rfl, rfl⟩, rfl⟩ | exact ⟨rfl, rfl⟩ | exact rfl | (refine ⟨rfl, ?_⟩; first | done | rfl | simp))); (try simp only [sA]))))
        simp only [List.drop_succ_cons, List.drop_zero, List.getLastD_cons, List.getLastD_nil, List.append_nil, List.cons_append, List.nil_append]
        (repeat (first|((first|refine ExO.nil ?_|refine Ex.skip ?_|refine Ex.ret ?_|refine Ex.exit ?_); try dsimp only)|((first|(refine xI ?_; intro _ _)|refine xL ?_|(refine xB ?_; intro _ _)|refine xG ?_|refine xS ?_|refine xM ?_|(refine xC ?_; intro _ _)|refine xW ?_); try simp only [sA])|refine Ex.seq ?_|refine Ex.reg ?_|refine Ex.block ?_|refine eT ?_|refine eF ?_|simp only [reduceCtorEq, AEx.ex.injEq, Nat.reduceEqDiff, if_true, if_false]))
        rename_i m hm
        rw [i64_in (by omega) (by omega)] at hm
        have hm2 : m = ((i + 1 : Nat) : Int) := by omega
        subst hm2
        have hck2 := clean_ints (ks ++ [p])
        have hct2 := clean_ints (ts ++ [q])
        rw [List.map_append] at hck2 hct2
        refine ⟨_, _, forgets 4 [0, 1] ([true, false, false, true, true, true, true, false, false, false, false, false, false, false, false, false, false, false, false, false, false, false, false, false, false, false, false, false, false, false, false, false, false, false, false, false, false, false, false, false, false]) (by decide) (by simp) (bx2 := [[.int .u64 b2], [.int .i64 len, .int .i64 wid, .int .i64 front, .int .i64 rear, .int .i64 turn, .int .i64 kilos, .int .i64 mid, .int .i64 high, .sl (ls.map Ld.av) none], [.nils, .nils], [.sl ((ks.map fun z => AV.int .i64 z) ++ [.int .i64 p]) (some 0), .sl ((ts.map fun z => AV.int .i64 z) ++ [.int .i64 q]) (some 1)]]) ?_ (lv2 := [(ks.length + 1, 1), (ts.length + 1, 1)]) (by simp) (by decide), ls.length - (i + 1), by omega, i + 1, b2, _, ks ++ [p], ts ++ [q], _, _, hn2, hk2, ht2, by omega, rfl, .inr ⟨by rw [List.map_append, List.map_append], by rw [List.length_append, List.length_append]⟩, by rfl, by rfl⟩
        simp only [List.map_cons, List.map_nil] at hck2 hct2
        simp [re, re1, AV.clean, cleanL, clean_lds, hck2, hct2, List.idxOf?, List.findIdx?, List.findIdx?.go]
end Go.Proofs.Ytoefpcpijolofaa
end
section
namespace Go.Proofs.Ytoefpcpijolofaa
open Go.RowKit
set_option linter.unusedVariables false
set_option linter.unusedSimpArgs false

inductive QX (X : Clr) (S : St) : List AOper → List AV → List AV → Prop
  | nil {a : List AV} : QX X S [] a a
  | val {x : AOper} {l : List AOper} {a a1 : List AV} (v : AV) (hw : wantedA x.guard a = some true) (hv : aop x.op (evd a) S = some (.val v)) (h : QX X S l (putA a x.dst v) a1) : QX X S (x :: l) a a1
  | call {x : AOper} {l : List AOper} {a a1 : List AV} (f : FuncId) (ys : List AV) (v : AV) (hw : wantedA x.guard a = some true) (hv : aop x.op (evd a) S = some (.call f ys)) (hc : X f ys S = some (v, none)) (h : QX X S l (putA a x.dst v) a1) : QX X S (x :: l) a a1
  | skip {x : AOper} {l : List AOper} {a a1 : List AV} (hw : wantedA x.guard a = some false) (h : QX X S l (putA a x.dst (.tup [])) a1) : QX X S (x :: l) a a1
theorem QX.evQ {X : Clr} {S : St} {l : List AOper} {a a1 : List AV} (h : QX X S l a a1) : Proofs.Ytoefpcpijolofaa.evQ X l a S = some a1 := by
  induction h with
  | nil => rfl
  | val v hw hv h ih =>
    rw [evQ_cons]
    unfold stepQ
    rw [hw, evf_eq, hv]
    exact ih
  | call f ys v hw hv hc h ih =>
    rw [evQ_cons]
    unfold stepQ
    rw [hw, evf_eq, hv]
    simp only [flw_eq, hc]
    exact ih
  | skip hw h ih =>
    rw [evQ_cons]
    unfold stepQ
    rw [hw]
    exact ih
theorem QX.evOps {X : Clr} {S : St} {l : List AOper} {a a1 : List AV} (h : QX X S l a a1) : Proofs.Ytoefpcpijolofaa.evOps X l a S = some (a1, S) := by
  induction h with
  | nil => rfl
  | val v hw hv h ih => simp [Proofs.Ytoefpcpijolofaa.evOps, hw, evOp, evf_eq, hv, fRes_eq, finish, fv_eq, putK_eq, sp_eq, ih]
  | call f ys v hw hv hc h ih => simp [Proofs.Ytoefpcpijolofaa.evOps, hw, evOp, evf_eq, hv, flw_eq, callS, hc, fv_eq, putK_eq, sp_eq, ih]
  | skip hw h ih => simp [Proofs.Ytoefpcpijolofaa.evOps, hw, fv_eq, putK_eq, ih]
theorem QX.may {X : Clr} {S : St} {x : AOper} {l : List AOper} {a a1 : List AV} (q : Bool) (v : AV) (hw : wantedA x.guard a = some (q == true)) (hv : q = true → aop x.op (evd a) S = some (.val v)) (h : QX X S l (putA a x.dst (if q = true then v else .tup [])) a1) : QX X S (x :: l) a a1 := by
  cases q
  · exact QX.skip hw h
  · exact QX.val v hw (hv rfl) h
theorem Ex.drawX {n0 : Nat} {md : Md} {P : Program} {X : Clr} (hX : ClrOk P X) {m : Nat} {xs : List AOper} {a a1 a2 : List AV} {S : St} {Q : AEx → List AV → St → Prop} (hq : ((xs.take m).all fun x => quietA x.op && (match x.dst with | some d => decide (d < a.length) | none => true)) = true) (h : QX X S (xs.take m) a a1) (h2 : QX X S (xs.drop m) a1 a2) (k : Q .norm a2 S) : Ex n0 md P (.dreg m xs) a S Q := by
  refine Ex.dreg hX (a' := a2) (S' := S) ?_ k
  have key : ∀ (B : Bool), B = true → (match (bif B then Proofs.Ytoefpcpijolofaa.evQ X (xs.take m) a S else none) with
    | some a1 => Proofs.Ytoefpcpijolofaa.evOps X (xs.drop m) a1 S
    | none => evDrawG X m xs a S) = some (a2, S) := by
    rintro _ rfl
    rw [cond_true, h.evQ]
    exact h2.evOps
  unfold evDraw
  exact key _ hq
theorem call_onlyN {l : List (FuncId × List AV × AV)} {f : FuncId} {xs ys : List AV} {v0 : AV} (st : St) (hf : fpOf xs = []) (hr : xs.mapM (ren []) = some ys) (hc : Contract Try.prog f ys [] v0 []) (hm : (f, ys, v0) ∈ l) (hu : ∀ v, (f, ys, v) ∈ l → v = v0) (hb : ∀ n, back 0 0 n v0 = some v0) : clrOf (orcOf Try.prog (only l)) f xs st = some (v0, none) := by
  have ho : orcOf Try.prog (only l) f ys [] = some (v0, []) := by
    obtain ⟨v, c', h1, h2, h3⟩ := @orcOf_meets Try.prog (only l) f ys [] ⟨v0, [], hc, hm, rfl⟩
    rw [h1, hu v h2, h3]
  have he : evCall (orcOf Try.prog (only l)) f xs st = some (v0, st) := by
    unfold evCall
    simp only [hf, hr, List.mapM_nil, Option.pure_def, List.all_nil, List.nodup_nil, decide_true, Bool.and_self, if_true, ho, List.length_nil, hb, List.drop_nil, setAll, List.append_nil]
  unfold clrOf
  rw [he, hf]
  simp
end Go.Proofs.Ytoefpcpijolofaa
end
