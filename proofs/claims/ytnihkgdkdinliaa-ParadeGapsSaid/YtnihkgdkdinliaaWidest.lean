import Derived.Test.YtnihkgdkdinliaaPeakB
import Derived.Test.YtnihkgdkdinliaaUpTo
import Derived.Test.YtnihkgdkdinliaaTruth
import Derived.Test.YtnihkgdkdinliaaGapRR
/- openings: the iterator over the widest gaps of the wings. Own work. -/
namespace Go.Proofs.Ytnihkgdkdinliaa
open Go.RowKit Go.Shelf
attribute [local go_sem] Oper.semAt_some
set_option linter.unusedVariables false
set_option linter.unusedSimpArgs false

/-- What openings hands out: a wing that is not the first one. -/
abbrev Og (n : Nat) := { i : Nat // 1 ≤ i ∧ i < n }
abbrev ogV (r : Int) (ws : List Wg) (sts : List Int) (k : Nat) : Value := .agg #[I (k : Int), I (wpS r ws sts k 0), I (wpG r ws sts k 0)]
abbrev ogEnc (r : Int) (ws : List Wg) (sts : List Int) (x : Og ws.length) : Array Value := #[ogV r ws sts x.1]
/-- The wings 1 to n. -/
def upn (n : Nat) : List Nat := (List.range n).map (· + 1)
theorem upn_snoc (n : Nat) : upn (n + 1) = upn n ++ [n + 1] := by simp [upn, List.range_succ]

set_option maxHeartbeats 1000000 in
theorem openings_c (r : Int) (A B : Option Addr) (n c m d : Nat) (w : World) :
    Calls Try.prog 105 #[.agg #[I r, .slice A n c], .slice B m d] w fun e w' => e = .returned (.func (.func 111) #[] #[.pointer (some ⟨w.heap.size, 0, none⟩), .pointer (some ⟨w.heap.size + 1, 0, none⟩)]) ∧
      w' = (w.alloc (.cells #[I r, .slice A n c] 24)).alloc (.cells #[.slice B m d] 25) := by
  go_enter Try.func105, Try.ntmps105
  go_wp2
  go_ret
  exact ⟨rfl, rfl⟩

theorem Sl.kbn {w w' : World} {T : TypeId} {b o n0 : Nat} {xs : List Value} (h : Sl w T (some ⟨b, o, none⟩) xs) (hk : KB n0 none w w') (hb : b < n0) : Sl w' T (some ⟨b, o, none⟩) xs := by
  rcases h with h | ⟨b', o', cs, fz, hA, hh, hc⟩
  · exact .inl h
  · injection hA with hA
    injection hA with e1 e2
    subst e1
    exact .inr ⟨_, o', cs, fz, by rw [e2], (hk.block _ hb (by simp)).trans hh, hc⟩
set_option maxHeartbeats 4000000 in
set_option maxRecDepth 100000 in
theorem openings1_stops (n : Nat) (hn : 1 ≤ n) (r : Int) (A B : Option Addr) (c d k1 k2 : Nat) (ws : List Wg) (sts : List Int) (T1 T2 : TypeId) (w : World) (n0 : Nat) (hn0 : n0 ≤ w.heap.size)
    (h1 : SlW w T1 A ws) (h2 : SlI w T2 B sts) (hv : VSt r ws sts) (hA : ∀ b o, A = some ⟨b, o, none⟩ → b < n0) (hB : ∀ b o, B = some ⟨b, o, none⟩ → b < n0)
    (hb1 : Bx w k1 24 #[I r, .slice A ws.length c]) (hb2 : Bx w k2 25 #[.slice B sts.length d]) (hk1 : k1 < n0) (hk2 : k2 < n0) :
    SeqStopsK Fence.wide n Try.prog 111 #[.pointer (some ⟨k1, 0, none⟩), .pointer (some ⟨k2, 0, none⟩)] (ogEnc r ws sts) (KB n0 none) (fun xs => xs.map (fun x : Og ws.length => x.1) = upn (ws.length - 1)) (fun _ => True) ws.length w := fun l J Jx W hW hJ hJx hY h0 => by
  refine callsIn_of_wp Try.func111 rfl trivial ?_ rfl
  simp only [Try.ntmps111, List.size_toArray, List.length_cons, List.length_nil, Nat.reduceAdd, Nat.reduceSub, Array.replicate_succ, Array.replicate_zero, List.push_toArray, List.append_toArray, List.nil_append, List.cons_append]
  have hn1 := hv.n1
  have h8 := hv.n2
  have HLS := Lib.hid hv.len
  obtain ⟨bw, ow, rfl, hbw⟩ := SlW.some_ h1 (show 0 < ws.length by omega)
  obtain ⟨bs, os, rfl, hbs⟩ := SlI.some_ h2 (show 0 < sts.length by have := hv.len; omega)
  have hAw := hA bw ow rfl
  have hBs := hB bs os rfl
  gi_wp2
  gi_loopw [4] (fun i wr => ∃ (j : Nat) (pre : List (Og ws.length)), i = I ((j : Int) + 1) ∧ j + 1 ≤ ws.length ∧ pre.map (fun x : Og ws.length => x.1) = upn j ∧ pre.length = j ∧ J pre wr ∧ KB n0 none w wr)
    (fun i _ => ws.length - (intOf i).toNat)
  case atStart => exact ⟨0, [], rfl, by omega, rfl, rfl, h0, .of_below hW hn0⟩
  case round =>
    obtain ⟨j, pre, rfl, hj, hpre, hplen, hJr, hbel⟩ := hrel
    have hc1 := (hb1.kb hbel hk1 (by simp)).cell
    have hc2 := (hb2.kb hbel hk2 (by simp)).cell
    by_cases hlt' : j + 1 < ws.length
    · obtain ⟨k, hk⟩ : ∃ k, k = j + 1 := ⟨_, rfl⟩
      have ek : (j : Int) + 1 = (k : Int) := by omega
      rw [ek]
      have hlt : k < ws.length := by omega
      have hk0 : k ≠ 0 := by omega
      have hx : 1 ≤ k ∧ k < ws.length := by omega
      have hw' := Sl.kbn h1 hbel hAw
      have hs' := Sl.kbn h2 hbel hBs
      have HK := Lib.hid hk
      have HP := Lib.hid hpre
      have HL := Lib.hid hplen
      clear ek hk hlt' hpre hplen
      gi_wp2_with fail
      refine ⟨trivial, ?_⟩
      gi_at_call 102
      refine (callsIn_wide.2 (watchedPeak_c r _ _ c d ws sts k 0 T1 T2 _ hw' hs' hv hlt hk0 (.inl rfl))).mono ?_
      rintro e w5 ⟨rfl, hb5⟩
      have hJ5 := hJ pre wr w5 Option.none hJr (kp_of_below hb5 (Nat.le_refl _)) (fun r h => by cases h)
      obtain ⟨fn, tmps, assign, body, hy, hR⟩ := hY pre ⟨k, hx⟩ w5 hJ5 (by have := HL.out; have := HK.out; omega)
      dsimp only [ogEnc] at hy
      gi_wp2
      refine hR.mono ?_
      rintro e W3 (⟨rfl, hJ3, hk3⟩ | ⟨rfl, hJx3⟩)
      · gi_wp2
        go_roundw
        case rel =>
          have hk := HK.out
          refine ⟨j + 1, pre ++ [⟨k, hx⟩], ?_, by omega, ?_, ?_, hJ3, (hbel.trans (.of_below hb5 (Nat.le_trans hn0 hbel.size))).trans hk3⟩
          · show Value.int .i64 _ = Value.int .i64 _
            congr 1
            omega
          · rw [List.map_append, HP.out, upn_snoc]
            simp [hk]
          · simp [HL.out]
        case measure => have hk := HK.out; simp [intOf]; omega
      · gi_wp2
        refine bodyPost_ret (results_none rfl _ _ _) rfl ?_
        exact ⟨⟨_, rfl⟩, .inr ⟨_, trivial, hJx3⟩⟩
    · have hlt2 : ¬ ((j : Int) + 1 < (ws.length : Int)) := by omega
      have HP := Lib.hid hpre
      clear hpre hplen
      gi_wp2
      go_end0
      have hfin : pre.map (fun x : Og ws.length => x.1) = upn (ws.length - 1) := by rw [HP.out]; congr 1; omega
      exact ⟨⟨_, rfl⟩, .inl ⟨pre, hfin, hJr⟩⟩
end Go.Proofs.Ytnihkgdkdinliaa
/- best, over openings: the first widest gap of all wings. Own work. -/
namespace Go.Proofs.Ytnihkgdkdinliaa
open Go.RowKit Go.Shelf
attribute [local go_sem] Oper.semAt_some
set_option linter.unusedVariables false
set_option linter.unusedSimpArgs false

/-- Whether one was found, and it: wing, second, gap. -/
abbrev BSt := Bool × Int × Int × Int
def bst (r : Int) (ws : List Wg) (sts : List Int) (s : BSt) (k : Nat) : BSt := if s.1 = false ∨ s.2.2.2 < wpG r ws sts k 0 then (true, (k : Int), wpS r ws sts k 0, wpG r ws sts k 0) else s
def bsts (r : Int) (ws : List Wg) (sts : List Int) (l : List Nat) : BSt := l.foldl (bst r ws sts) (false, 0, 0, 0)
theorem bsts_snoc (r : Int) (ws : List Wg) (sts : List Int) (l : List Nat) (k : Nat) : bsts r ws sts (l ++ [k]) = bst r ws sts (bsts r ws sts l) k := by simp [bsts]
def opCells (s : BSt) : Array Value := #[I s.2.1, I s.2.2.1, I s.2.2.2]
abbrev bestF : Value := .func (.func 103) #[] #[]

set_option maxHeartbeats 1000000 in
theorem better_c (a b g a' b' g' : Int) (w : World) :
    Calls Try.prog 103 #[.agg #[I a, I b, I g], .agg #[I a', I b', I g']] w fun e w' => e = .returned (.bool (decide (g' < g))) ∧ Below w.heap.size w w' := by
  have x0 := (Bx.new w 112 #[I a, I b, I g]).alloc (.cells #[I a', I b', I g'] 112)
  have x1 := Bx.new' (w.alloc (.cells #[I a, I b, I g] 112)) 112 #[I a', I b', I g'] (w.heap.size + 1) (by simp)
  have c0 := x0.cell
  have c1 := x1.cell
  go_enter Try.func103, Try.ntmps103
  go_wp2
  go_ret
  exact ⟨rfl, ((Below.refl _ _).alloc (Nat.le_refl _) _).alloc (by simp) _⟩

/-- What holds between two rounds. -/
def BI (r : Int) (ws : List Wg) (sts : List Int) (w : World) (pre : List (Og ws.length)) (W : World) : Prop :=
  ((Bx W w.heap.size 132 #[bestF] ∧ Bx W (w.heap.size + 1) 112 #[I 0, I 0, I 0]) ∧
   (Bx W (w.heap.size + 1 + 1) 112 (opCells (bsts r ws sts (pre.map fun x : Og ws.length => x.1))) ∧ Bx W (w.heap.size + 1 + 1 + 1) 4 #[.bool (bsts r ws sts (pre.map fun x : Og ws.length => x.1)).1])) ∧ Below w.heap.size w W
theorem BI.own {r : Int} {ws : List Wg} {sts : List Int} {w : World} (B : Nat) (hB : w.heap.size ≤ B) : OwnFrom B (BI r ws sts w) :=
  OwnFrom.and (OwnFrom.and (OwnFrom.and (bx_own _ _ _ _) (bx_own _ _ _ _)) (OwnFrom.and (bx_own _ _ _ _) (bx_own _ _ _ _))) (ownFrom_below (Nat.le_refl _) hB)
theorem BI.alloc {r : Int} {ws : List Wg} {sts : List Int} {w W : World} {pre : List (Og ws.length)} (h : BI r ws sts w pre W) (o : Obj) : BI r ws sts w pre (W.alloc o) :=
  ⟨⟨⟨h.1.1.1.alloc o, h.1.1.2.alloc o⟩, h.1.2.1.alloc o, h.1.2.2.alloc o⟩, h.2.alloc h.2.size o⟩
theorem BI.grow {r : Int} {ws : List Wg} {sts : List Int} {w W W' : World} {pre : List (Og ws.length)} (h : BI r ws sts w pre W) (hb : Below W.heap.size W W') : BI r ws sts w pre W' :=
  ⟨⟨⟨h.1.1.1.below hb h.1.1.1.lt, h.1.1.2.below hb h.1.1.2.lt⟩, h.1.2.1.below hb h.1.2.1.lt, h.1.2.2.below hb h.1.2.2.lt⟩, h.2.trans (hb.mono h.2.size)⟩

set_option maxHeartbeats 4000000 in
set_option maxRecDepth 100000 in
theorem best_c (r : Int) (A B : Option Addr) (c d k1 k2 : Nat) (ws : List Wg) (sts : List Int) (T1 T2 : TypeId) (w : World)
    (h1 : SlW w T1 A ws) (h2 : SlI w T2 B sts) (hv : VSt r ws sts) (hA : ∀ b o, A = some ⟨b, o, none⟩ → b < w.heap.size) (hB : ∀ b o, B = some ⟨b, o, none⟩ → b < w.heap.size)
    (hb1 : Bx w k1 24 #[I r, .slice A ws.length c]) (hb2 : Bx w k2 25 #[.slice B sts.length d]) :
    Calls Try.prog 104 #[.func (.func 111) #[] #[.pointer (some ⟨k1, 0, none⟩), .pointer (some ⟨k2, 0, none⟩)], bestF] w fun e w' => e = .returned (.tuple #[.agg (opCells (bsts r ws sts (upn (ws.length - 1)))), .bool (bsts r ws sts (upn (ws.length - 1))).1]) ∧ Below w.heap.size w w' := by
  refine (callsIn_wide (n := 6)).1 ?_
  refine callsIn_of_wp_marks Try.func104 rfl trivial ?_ rfl
  simp only [Try.ntmps104, List.size_toArray, List.length_cons, List.length_nil, Nat.reduceAdd, Nat.reduceSub, Array.replicate_succ, Array.replicate_zero, List.push_toArray, List.append_toArray, List.nil_append, List.cons_append]
  gi_wp2
  have x0 := (((Bx.new w 132 #[bestF]).alloc (.cells #[I 0, I 0, I 0] 112)).alloc (.cells #[I 0, I 0, I 0] 112)).alloc (.cells #[.bool false] 4)
  have x1 := ((Bx.new' (w.alloc (.cells #[bestF] 132)) 112 #[I 0, I 0, I 0] (w.heap.size + 1) (by simp)).alloc (.cells #[I 0, I 0, I 0] 112)).alloc (.cells #[.bool false] 4)
  have x2 := (Bx.new' ((w.alloc (.cells #[bestF] 132)).alloc (.cells #[I 0, I 0, I 0] 112)) 112 #[I 0, I 0, I 0] (w.heap.size + 1 + 1) (by simp)).alloc (.cells #[.bool false] 4)
  have x3 := Bx.new' (((w.alloc (.cells #[bestF] 132)).alloc (.cells #[I 0, I 0, I 0] 112)).alloc (.cells #[I 0, I 0, I 0] 112)) 4 #[.bool false] (w.heap.size + 1 + 1 + 1) (by simp)
  have hBl := ((((Below.refl w.heap.size w).alloc (Nat.le_refl _) (.cells #[bestF] 132)).alloc (by simp) (.cells #[I 0, I 0, I 0] 112)).alloc (by simp; omega) (.cells #[I 0, I 0, I 0] 112)).alloc (by simp; omega) (.cells #[.bool false] 4)
  have I0 : BI r ws sts w [] _ := ⟨⟨⟨x0, x1⟩, x2, x3⟩, hBl⟩
  have hb1' := hb1.below hBl hb1.lt
  have hb2' := hb2.below hBl hb2.lt
  have h1' := h1.below hBl (Nat.le_refl _)
  have h2' := Sl.below h2 hBl (Nat.le_refl _)
  have hk1 := hb1.lt
  have hk2 := hb2.lt
  clear x0 x1 x2 x3
  have hsz : w.heap.size + 1 + 1 + 1 + 1 = ((((w.alloc (.cells #[bestF] 132)).alloc (.cells #[I 0, I 0, I 0] 112)).alloc (.cells #[I 0, I 0, I 0] 112)).alloc (.cells #[.bool false] 4)).heap.size := by simp
  generalize (((w.alloc (.cells #[bestF] 132)).alloc (.cells #[I 0, I 0, I 0] 112)).alloc (.cells #[I 0, I 0, I 0] 112)).alloc (.cells #[.bool false] 4) = W0 at *
  refine wpIn_rangeFunc_ownH rfl (by decide) (gf := 111) (lb := #[.pointer (some ⟨k1, 0, none⟩), .pointer (some ⟨k2, 0, none⟩)]) rfl trivial (enters_of Try.func111 (by kernel_rfl) rfl)
    (openings1_stops (6 - 1) (by decide) r A B c d k1 k2 ws sts T1 T2 W0 w.heap.size (by omega) h1' h2' hv hA hB hb1' hb2' hk1 hk2)
    KB.trans (fun W l o o' hl hW hc hwk => KB.putObj (by omega) W l o o' hl hW hc hwk) (Below.refl _ _) (fun _ => rfl)
    (BI r ws sts w) (fun _ _ _ => False) (BI.own _ (by omega)) (fun _ _ _ _ _ hs _ _ => hs) I0
    (fun x a' W => ∃ q, w.heap.size + 1 + 1 + 1 < q ∧ Bx W q 112 #[I (x.1 : Int), I (wpS r ws sts x.1 0), I (wpG r ws sts x.1 0)] ∧ a' = { tmps := #[.func (.func 111) #[] #[.pointer (some ⟨k1, 0, none⟩), .pointer (some ⟨k2, 0, none⟩)], bestF, undef, .pointer (some ⟨w.heap.size, 0, none⟩), .pointer (some ⟨w.heap.size + 1, 0, none⟩), .bool false, .pointer (some ⟨w.heap.size + 1 + 1, 0, none⟩), .pointer (some ⟨w.heap.size + 1 + 1 + 1, 0, none⟩), .pointer (some ⟨q, 0, none⟩), .func (.func 111) #[] #[.pointer (some ⟨k1, 0, none⟩), .pointer (some ⟨k2, 0, none⟩)], ogV r ws sts x.1, undef, undef, undef, undef, undef, undef, undef, undef, undef, undef, undef], defers := [] })
    (fun x a' _ X Y row hs hg hr => by obtain ⟨q, e1, e2, e3⟩ := hs; exact ⟨q, e1, e2.grown hg (fun e => by
      obtain ⟨_, o, ho, hc⟩ := hr q e.symm
      unfold Bx at e2
      rw [e2] at ho
      cases ho
      cases hc), e3⟩)
    ?assign ?body ?done ?stop
  case assign =>
    rintro l pre x W K hI hK
    have hq := hI.1.2.2.lt
    gi_wp2
    exact hK _ _ ((KeepsOthers.alloc _ _).from _) (.of_below ((Below.refl _ W).alloc hI.2.size _) (Nat.le_refl _)) (hI.alloc _) ⟨W.heap.size, hq, Bx.new W _ _, rfl⟩
  case body =>
    rintro l pre x a' W hl hloop hI ⟨q, hq, bq, rfl⟩ hlen
    obtain ⟨⟨⟨y0, y1⟩, y2, y3⟩, hbel⟩ := hI
    have EN0 := bsts_snoc r ws sts (pre.map fun x : Og ws.length => x.1) x.1
    have em : (pre ++ [x]).map (fun x : Og ws.length => x.1) = pre.map (fun x : Og ws.length => x.1) ++ [x.1] := by rw [List.map_append]; rfl
    rw [← em] at EN0
    generalize bsts r ws sts (pre.map fun x : Og ws.length => x.1) = s at *
    obtain ⟨fd, sa, sb, sg⟩ := s
    change Bx W _ _ #[I sa, I sb, I sg] at y2
    change Bx W _ _ #[.bool fd] at y3
    have c0 := y0.cell
    have c2 := y2.cell
    have c3 := y3.cell
    have cq := bq.cell
    have f2 := y2.free
    have f3 := y3.free
    generalize hG : wpG r ws sts x.1 0 = gg at *
    generalize hS : wpS r ws sts x.1 0 = ss at *
    have HG := Lib.hid hG
    have HS := Lib.hid hS
    have E0 := Lib.hid EN0
    clear em hG hS EN0
    cases fd with
    | false =>
      have EN := Lib.hid (show bsts r ws sts ((pre ++ [x]).map fun x : Og ws.length => x.1) = (true, (x.1 : Int), ss, gg) by rw [E0.out]; unfold bst; rw [if_pos (.inl rfl), HG.out, HS.out])
      gi_wp2_with fail
      refine ⟨fun f h => (by cases h), ?_⟩
      gi_wp2_with fail
      · refine ⟨((((KeepsOthers.setCell _ _ _).trans (KeepsOthers.setCell _ _ _)).trans (KeepsOthers.setCell _ _ _)).trans (KeepsOthers.setCell _ _ _)).from _, .of_below (((((Below.refl w.heap.size W).setCell (p := ⟨w.heap.size + 1 + 1, 0, none⟩) (by simp only []; omega) _).setCell (p := ⟨w.heap.size + 1 + 1, 1, none⟩) (by simp only []; omega) _).setCell (p := ⟨w.heap.size + 1 + 1, 2, none⟩) (by simp only []; omega) _).setCell (p := ⟨w.heap.size + 1 + 1 + 1, 0, none⟩) (by simp only []; omega) _) (Nat.le_refl _), ?_⟩
        exact ⟨⟨⟨((((y0.far (p := ⟨w.heap.size + 1 + 1, 0, none⟩) (by simp only []; omega) _).far (p := ⟨w.heap.size + 1 + 1, 1, none⟩) (by simp only []; omega) _).far (p := ⟨w.heap.size + 1 + 1, 2, none⟩) (by simp only []; omega) _).far (p := ⟨w.heap.size + 1 + 1 + 1, 0, none⟩) (by simp only []; omega) _), ((((y1.far (p := ⟨w.heap.size + 1 + 1, 0, none⟩) (by simp only []; omega) _).far (p := ⟨w.heap.size + 1 + 1, 1, none⟩) (by simp only []; omega) _).far (p := ⟨w.heap.size + 1 + 1, 2, none⟩) (by simp only []; omega) _).far (p := ⟨w.heap.size + 1 + 1 + 1, 0, none⟩) (by simp only []; omega) _)⟩, (show Bx _ _ _ _ from by rw [EN.out]; exact (((((y2.set_ 0 _).set_ 1 _).set_ 2 _).far (p := ⟨w.heap.size + 1 + 1 + 1, 0, none⟩) (by simp only []; omega) _))), (show Bx _ _ _ _ from by rw [EN.out]; exact ((((y3.far (p := ⟨w.heap.size + 1 + 1, 0, none⟩) (by simp only []; omega) _).far (p := ⟨w.heap.size + 1 + 1, 1, none⟩) (by simp only []; omega) _).far (p := ⟨w.heap.size + 1 + 1, 2, none⟩) (by simp only []; omega) _).set_ 0 _))⟩, ((((hbel.setCell (p := ⟨w.heap.size + 1 + 1, 0, none⟩) (by simp only []; omega) _).setCell (p := ⟨w.heap.size + 1 + 1, 1, none⟩) (by simp only []; omega) _).setCell (p := ⟨w.heap.size + 1 + 1, 2, none⟩) (by simp only []; omega) _).setCell (p := ⟨w.heap.size + 1 + 1 + 1, 0, none⟩) (by simp only []; omega) _)⟩
    | true =>
      gi_wp2_with fail
      refine ⟨trivial, ?_⟩
      gi_at_call 103
      refine (CallsIn.inRound l (callsIn_wide.2 (better_c (x.1 : Int) ss gg sa sb sg W))).mono ?_
      rintro e w5 ⟨rfl, hb5⟩
      have hk5 : KeepsFrom W0.heap.size W w5 := KeepsFrom.of_grownBy (row := Option.none) (kp_of_below hb5 (Nat.le_refl _)) (fun j e => by cases e)
      have u0 := y0.below hb5 y0.lt
      have u1 := y1.below hb5 y1.lt
      have u2 := y2.below hb5 y2.lt
      have u3 := y3.below hb5 y3.lt
      have uq := bq.below hb5 bq.lt
      have hbel5 := hbel.trans (hb5.mono hbel.size)
      clear c0 c2 c3 cq f2 f3
      have c2 := u2.cell
      have c3 := u3.cell
      have cq := uq.cell
      have f2 := u2.free
      have f3 := u3.free
      by_cases hlt2 : sg < gg
      · have EN := Lib.hid (show bsts r ws sts ((pre ++ [x]).map fun x : Og ws.length => x.1) = (true, (x.1 : Int), ss, gg) by rw [E0.out]; unfold bst; rw [HG.out, HS.out, if_pos (.inr hlt2)])
        gi_wp2_with fail
        refine ⟨hk5.trans (((((KeepsOthers.setCell _ _ _).trans (KeepsOthers.setCell _ _ _)).trans (KeepsOthers.setCell _ _ _)).trans (KeepsOthers.setCell _ _ _)).from _), .of_below (((((hb5.mono hbel.size).setCell (p := ⟨w.heap.size + 1 + 1, 0, none⟩) (by simp only []; omega) _).setCell (p := ⟨w.heap.size + 1 + 1, 1, none⟩) (by simp only []; omega) _).setCell (p := ⟨w.heap.size + 1 + 1, 2, none⟩) (by simp only []; omega) _).setCell (p := ⟨w.heap.size + 1 + 1 + 1, 0, none⟩) (by simp only []; omega) _) (Nat.le_refl _), ?_⟩
        exact ⟨⟨⟨((((u0.far (p := ⟨w.heap.size + 1 + 1, 0, none⟩) (by simp only []; omega) _).far (p := ⟨w.heap.size + 1 + 1, 1, none⟩) (by simp only []; omega) _).far (p := ⟨w.heap.size + 1 + 1, 2, none⟩) (by simp only []; omega) _).far (p := ⟨w.heap.size + 1 + 1 + 1, 0, none⟩) (by simp only []; omega) _), ((((u1.far (p := ⟨w.heap.size + 1 + 1, 0, none⟩) (by simp only []; omega) _).far (p := ⟨w.heap.size + 1 + 1, 1, none⟩) (by simp only []; omega) _).far (p := ⟨w.heap.size + 1 + 1, 2, none⟩) (by simp only []; omega) _).far (p := ⟨w.heap.size + 1 + 1 + 1, 0, none⟩) (by simp only []; omega) _)⟩, (show Bx _ _ _ _ from by rw [EN.out]; exact (((((u2.set_ 0 _).set_ 1 _).set_ 2 _).far (p := ⟨w.heap.size + 1 + 1 + 1, 0, none⟩) (by simp only []; omega) _))), (show Bx _ _ _ _ from by rw [EN.out]; exact ((((u3.far (p := ⟨w.heap.size + 1 + 1, 0, none⟩) (by simp only []; omega) _).far (p := ⟨w.heap.size + 1 + 1, 1, none⟩) (by simp only []; omega) _).far (p := ⟨w.heap.size + 1 + 1, 2, none⟩) (by simp only []; omega) _).set_ 0 _))⟩, ((((hbel5.setCell (p := ⟨w.heap.size + 1 + 1, 0, none⟩) (by simp only []; omega) _).setCell (p := ⟨w.heap.size + 1 + 1, 1, none⟩) (by simp only []; omega) _).setCell (p := ⟨w.heap.size + 1 + 1, 2, none⟩) (by simp only []; omega) _).setCell (p := ⟨w.heap.size + 1 + 1 + 1, 0, none⟩) (by simp only []; omega) _)⟩
      · have EN := Lib.hid (show bsts r ws sts ((pre ++ [x]).map fun x : Og ws.length => x.1) = (true, sa, sb, sg) by rw [E0.out]; unfold bst; rw [HG.out, HS.out, if_neg (by simp; omega)])
        gi_wp2_with fail
        exact ⟨hk5, .of_below hb5 hbel.size, ⟨⟨u0, u1⟩, (show Bx _ _ _ _ from by rw [EN.out]; exact u2), (show Bx _ _ _ _ from by rw [EN.out]; exact u3)⟩, hbel5⟩
  case done =>
    rintro D ys W hD hys ⟨⟨⟨y0, y1⟩, y2, y3⟩, hbel⟩ hK
    have e : (ys.map fun x : Og ws.length => x.1) = upn (ws.length - 1) := hys
    rw [e] at y2 y3
    clear e hys
    generalize hs : bsts r ws sts (upn (ws.length - 1)) = s at *
    obtain ⟨fd, sa, sb, sg⟩ := s
    change Bx W _ _ #[I sa, I sb, I sg] at y2
    change Bx W _ _ #[.bool fd] at y3
    have ES := Lib.hid hs
    clear hs
    have c1 := y1.cell
    have c2 := y2.cell
    have c3 := y3.cell
    have f1 := y1.free
    gi_wp2_with fail
    rename_i hKK
    refine wpIn_wide.2 ?_
    refine wp_region_list_s (by kernel_rfl) (R := (fun w' => (∃ a b c : Int, Bx w' (w.heap.size + 1) 112 #[I a, I b, I c]) ∧ Bx w' (w.heap.size + 1 + 1) 112 #[I sa, I sb, I sg] ∧ Bx w' (w.heap.size + 1 + 1 + 1) 4 #[.bool fd] ∧ w'.heap[D]? = some (.deferred (some [])) ∧ Below w.heap.size w w')) (F := (fun wa wb => Bx wa (w.heap.size + 1) 112 #[I sa, I sb, I sg] → Bx wb (w.heap.size + 1) 112 #[I sa, I sb, I sg])) [] [] [(2, 0)]
        [As.is _ _ (.agg #[I sa, I sb, I sg]),
        As.is _ _ (.bool fd),
        (⟨fun _ w' => Bx w' (w.heap.size + 1) 112 #[I sa, I sb, I sg], fun _ _ _ _ _ hF h => hF h⟩ : As _ _),
        As.is _ _ (.bool fd)] 22 (by kernel_rfl) rfl (⟨⟨0, 0, 0, y1⟩, y2, y3, hK, hbel.drew⟩) (by simp) (by simp) ?_ (fun _ => id) ?_ ?_ ?_
    · intro i' hi' o' ho k' b' hg u w' hR hu
      match i', hi', ho with
      | 0, _, ho => cases ho; cases hg
      | 1, _, ho => cases ho; cases hg
      | 2, _, ho => cases ho; cases hg
      | 3, _, ho => cases ho; cases hg
      | n + 4, hi, _ => exact absurd hi (by simp)
    · intro i' hi' hsk; cases hsk
    · intro i' hi' hsk o' ho ev w' hR hc hf hg hs hd
      match i', hi', ho with
      | 0, _, ho =>
        clear hsk
        cases ho
        have e6 : ev (.tmp 6) = .pointer (some ⟨w.heap.size + 1 + 1, 0, none⟩) := hs 6 (by kernel_rfl)
        have m2 := hR.2.1.cell
        go_simp
        first | exact ⟨rfl, hR, id⟩ | exact ⟨⟨rfl, rfl⟩, hR, id⟩ | exact ⟨⟨rfl, fun h => absurd h (by decide)⟩, hR, id⟩ | exact ⟨⟨rfl, rfl, fun h => absurd h (by decide)⟩, hR, id⟩
      | 1, _, ho =>
        clear hsk
        cases ho
        have e7 : ev (.tmp 7) = .pointer (some ⟨w.heap.size + 1 + 1 + 1, 0, none⟩) := hs 7 (by kernel_rfl)
        have m3 := hR.2.2.1.cell
        go_simp
        first | exact ⟨rfl, hR, id⟩ | exact ⟨⟨rfl, rfl⟩, hR, id⟩ | exact ⟨⟨rfl, fun h => absurd h (by decide)⟩, hR, id⟩ | exact ⟨⟨rfl, rfl, fun h => absurd h (by decide)⟩, hR, id⟩
      | 2, _, ho =>
        clear hsk
        cases ho
        have e4 : ev (.tmp 4) = .pointer (some ⟨w.heap.size + 1, 0, none⟩) := hs 4 (by kernel_rfl)
        have e20 : ev (.tmp 20) = .agg #[I sa, I sb, I sg] := hd 0 20 (by kernel_rfl)
        obtain ⟨a, b, c', hbx⟩ := hR.1
        have hcx := hbx.cell
        have hfx := hbx.free
        have hput := ((hbx.set_ 0 (I sa)).set_ 1 (I sb)).set_ 2 (I sg)
        change Bx _ _ _ #[I sa, I sb, I sg] at hput
        go_simp
        first | exact ⟨⟨rfl, fun t ht => hput⟩, ⟨⟨_, _, _, hput⟩, (((hR.2.1.far (p := ⟨w.heap.size + 1, 0, none⟩) (by simp only []; omega) _).far (p := ⟨w.heap.size + 1, 1, none⟩) (by simp only []; omega) _).far (p := ⟨w.heap.size + 1, 2, none⟩) (by simp only []; omega) _), (((hR.2.2.1.far (p := ⟨w.heap.size + 1, 0, none⟩) (by simp only []; omega) _).far (p := ⟨w.heap.size + 1, 1, none⟩) (by simp only []; omega) _).far (p := ⟨w.heap.size + 1, 2, none⟩) (by simp only []; omega) _), (((Below.heap_setCell _ _ _ _ (by simp only []; omega)).trans ((Below.heap_setCell _ _ _ _ (by simp only []; omega)).trans (Below.heap_setCell _ _ _ _ (by simp only []; omega)))).trans hR.2.2.2.1), (((hR.2.2.2.2.setCell (p := ⟨w.heap.size + 1, 0, none⟩) (by simp only []; omega) _).setCell (p := ⟨w.heap.size + 1, 1, none⟩) (by simp only []; omega) _).setCell (p := ⟨w.heap.size + 1, 2, none⟩) (by simp only []; omega) _)⟩, fun _ => hput⟩ | exact ⟨fun t ht => hput, ⟨⟨_, _, _, hput⟩, (((hR.2.1.far (p := ⟨w.heap.size + 1, 0, none⟩) (by simp only []; omega) _).far (p := ⟨w.heap.size + 1, 1, none⟩) (by simp only []; omega) _).far (p := ⟨w.heap.size + 1, 2, none⟩) (by simp only []; omega) _), (((hR.2.2.1.far (p := ⟨w.heap.size + 1, 0, none⟩) (by simp only []; omega) _).far (p := ⟨w.heap.size + 1, 1, none⟩) (by simp only []; omega) _).far (p := ⟨w.heap.size + 1, 2, none⟩) (by simp only []; omega) _), (((Below.heap_setCell _ _ _ _ (by simp only []; omega)).trans ((Below.heap_setCell _ _ _ _ (by simp only []; omega)).trans (Below.heap_setCell _ _ _ _ (by simp only []; omega)))).trans hR.2.2.2.1), (((hR.2.2.2.2.setCell (p := ⟨w.heap.size + 1, 0, none⟩) (by simp only []; omega) _).setCell (p := ⟨w.heap.size + 1, 1, none⟩) (by simp only []; omega) _).setCell (p := ⟨w.heap.size + 1, 2, none⟩) (by simp only []; omega) _)⟩, fun _ => hput⟩ | exact ⟨hput, ⟨⟨_, _, _, hput⟩, (((hR.2.1.far (p := ⟨w.heap.size + 1, 0, none⟩) (by simp only []; omega) _).far (p := ⟨w.heap.size + 1, 1, none⟩) (by simp only []; omega) _).far (p := ⟨w.heap.size + 1, 2, none⟩) (by simp only []; omega) _), (((hR.2.2.1.far (p := ⟨w.heap.size + 1, 0, none⟩) (by simp only []; omega) _).far (p := ⟨w.heap.size + 1, 1, none⟩) (by simp only []; omega) _).far (p := ⟨w.heap.size + 1, 2, none⟩) (by simp only []; omega) _), (((Below.heap_setCell _ _ _ _ (by simp only []; omega)).trans ((Below.heap_setCell _ _ _ _ (by simp only []; omega)).trans (Below.heap_setCell _ _ _ _ (by simp only []; omega)))).trans hR.2.2.2.1), (((hR.2.2.2.2.setCell (p := ⟨w.heap.size + 1, 0, none⟩) (by simp only []; omega) _).setCell (p := ⟨w.heap.size + 1, 1, none⟩) (by simp only []; omega) _).setCell (p := ⟨w.heap.size + 1, 2, none⟩) (by simp only []; omega) _)⟩, fun _ => hput⟩
      | 3, _, ho =>
        clear hsk
        cases ho
        have e21 : ev (.tmp 21) = .bool fd := hd 1 21 (by kernel_rfl)
        go_simp
        first | exact ⟨rfl, hR, id⟩ | exact ⟨⟨rfl, rfl⟩, hR, id⟩ | exact ⟨⟨rfl, fun h => absurd h (by decide)⟩, hR, id⟩ | exact ⟨⟨rfl, rfl, fun h => absurd h (by decide)⟩, hR, id⟩
      | n + 4, hi, _ => exact absurd hi (by simp)
    intro ρ w2 hR hρ hne K hK2
    have f4 : Bx w2 (w.heap.size + 1) 112 #[I sa, I sb, I sg] := hρ 2 (by simp)
    have p3 : ρ 3 = .bool fd := hρ 3 (by simp)
    show K (putAll _ _ ρ 4) _
    simp only [putAll, dOf, List.getElem?_toArray, List.getElem?_cons_zero, List.getElem?_cons_succ, Option.bind_some, Act.put, List.setIfInBounds_toArray, List.set_cons_zero, List.set_cons_succ]
    rw [p3]
    refine hK2 _ _ ?_
    change wpList _ _ _ [] _ _
    obtain ⟨_, _, _, hK2', hbel2⟩ := hR
    clear hK2 K p3 hρ hne c1 c2 c3 f1
    go_wp2
    gi_wp2
    have hbw := belowK_b (n₀ := W0.heap.size) (w := W0) (Nat.le_refl _) w2 D _ (.deferred none) hD hK2' rfl rfl
    have z4 := (f4.below hbw (by omega)).cell
    refine ⟨by simp, .inl ⟨_, _, rfl, run_takeDeferred hK2', ?_⟩⟩
    exact ⟨.tuple #[.agg #[I sa, I sb, I sg], .bool fd], (by simp [results, Try.results104, go_sem, z4]), (by rw [ES.out]; rfl), hbel2.trans (hbw.mono (by omega))⟩
  case stop =>
    rintro D c' pre W hD _ h _
    exact h.elim
end Go.Proofs.Ytnihkgdkdinliaa
/- Widest of the program. Own work. -/
namespace Go.Proofs.Ytnihkgdkdinliaa
open Go.RowKit
set_option linter.unusedVariables false
set_option linter.unusedSimpArgs false

theorem wpG_nn (r : Int) (ws : List Wg) (sts : List Int) (k e : Nat) : 0 ≤ wpG r ws sts k e := by
  unfold wpG pkG
  split
  · omega
  · exact gapF_nn _ _ _ _ _ _
/-- Both ways to look for the widest gap come to the same. -/
theorem bsts_mo (r : Int) (ws : List Wg) (sts : List Int) : ∀ j, (bsts r ws sts (upn j)).2.2.2 = (mo r ws sts j).2.2 ∧ ((bsts r ws sts (upn j)).1 = false → (bsts r ws sts (upn j)).2.2.2 = 0) ∧
    (0 < (mo r ws sts j).2.2 → (bsts r ws sts (upn j)).2 = mo r ws sts j ∧ (bsts r ws sts (upn j)).1 = true) ∧ ((mo r ws sts j).2.2 = 0 → mo r ws sts j = (-1, -1, 0)) := by
  intro j
  induction j with
  | zero => simp [bsts, upn, mo]
  | succ j ih =>
    obtain ⟨i1, i2, i3, i4⟩ := ih
    have hn := mo_nn r ws sts j
    have hg := wpG_nn r ws sts (j + 1) 0
    have em : mo r ws sts (j + 1) = if (mo r ws sts j).2.2 < wpG r ws sts (j + 1) 0 then ((j : Int) + 1, wpS r ws sts (j + 1) 0, wpG r ws sts (j + 1) 0) else mo r ws sts j := rfl
    rw [upn_snoc, bsts_snoc]
    unfold bst
    by_cases c : (mo r ws sts j).2.2 < wpG r ws sts (j + 1) 0
    · rw [em, if_pos c, if_pos (.inr (by omega))]
      refine ⟨rfl, fun h => (by cases h), fun _ => ⟨?_, rfl⟩, fun h => ?_⟩
      · show (((j + 1 : Nat) : Int), _, _) = _
        congr 1
      · exfalso
        have : wpG r ws sts (j + 1) 0 = 0 := h
        omega
    · rw [em, if_neg c]
      by_cases d : (bsts r ws sts (upn j)).1 = false
      · rw [if_pos (.inl d)]
        have h0 := i2 d
        have hz : (mo r ws sts j).2.2 = 0 := by omega
        refine ⟨?_, fun h => (by cases h), fun h => absurd h (by omega), i4⟩
        show wpG r ws sts (j + 1) 0 = _
        omega
      · rw [if_neg (by intro h; rcases h with h | h; exact d h; omega)]
        exact ⟨i1, i2, i3, i4⟩
/-- What widest makes of it. -/
theorem wide_mo (r : Int) (ws : List Wg) (sts : List Int) (j : Nat) : (if (bsts r ws sts (upn j)).1 = false ∨ (bsts r ws sts (upn j)).2.2.2 = 0 then ((-1, -1, 0) : Int × Int × Int) else (bsts r ws sts (upn j)).2) = mo r ws sts j := by
  obtain ⟨i1, i2, i3, i4⟩ := bsts_mo r ws sts j
  have hn := mo_nn r ws sts j
  by_cases c : 0 < (mo r ws sts j).2.2
  · obtain ⟨e1, e2⟩ := i3 c
    rw [if_neg (by intro h; rcases h with h | h; rw [e2] at h; cases h; omega), e1]
  · rw [i4 (by omega)]
    by_cases d : (bsts r ws sts (upn j)).1 = false
    · rw [if_pos (.inl d)]
    · rw [if_pos (.inr (by omega))]

set_option maxRecDepth 100000 in
set_option maxHeartbeats 2000000 in
theorem widestP_c (r : Int) (A B : Option Addr) (c d : Nat) (ws : List Wg) (sts : List Int) (T1 T2 : TypeId) (w : World) (h1 : SlW w T1 A ws) (h2 : SlI w T2 B sts) (hv : VSt r ws sts) :
    Calls Try.prog 90 #[.agg #[I r, .slice A ws.length c], .slice B sts.length d] w fun e w' => e = .returned (.agg #[I (mo r ws sts (ws.length - 1)).1, I (mo r ws sts (ws.length - 1)).2.1, I (mo r ws sts (ws.length - 1)).2.2]) ∧ Below w.heap.size w w' := by
  have hn1 := hv.n1
  obtain ⟨b1, o1, rfl, hb1⟩ := SlW.some_ h1 (show 0 < ws.length by omega)
  obtain ⟨b2, o2, rfl, hb2⟩ := SlI.some_ h2 (show 0 < sts.length by have := hv.len; omega)
  have x0 := (Bx.new w 24 #[I r, .slice (some ⟨b1, o1, none⟩) ws.length c]).alloc (.cells #[I 0, I 0, I 0] 112)
  have y0 := Bx.new' (w.alloc (.cells #[I r, .slice (some ⟨b1, o1, none⟩) ws.length c] 24)) 112 #[I 0, I 0, I 0] (w.heap.size + 1) (by simp)
  have hB := ((Below.refl w.heap.size w).alloc (Nat.le_refl _) (.cells #[I r, .slice (some ⟨b1, o1, none⟩) ws.length c] 24)).alloc (by simp) (.cells #[I 0, I 0, I 0] 112)
  have hc0 := x0.cell
  have EM := Lib.hid (wide_mo r ws sts (ws.length - 1))
  go_enter Try.func90, Try.ntmps90
  go_wp2_with fail
  refine (openings_c r _ _ _ c _ d _).mono ?_
  rintro e w1 ⟨rfl, rfl⟩
  clear hc0
  generalize (w.alloc (.cells #[I r, .slice (some ⟨b1, o1, none⟩) ws.length c] 24)).alloc (.cells #[I 0, I 0, I 0] 112) = W at *
  have k1 := (Bx.new W 24 #[I r, .slice (some ⟨b1, o1, none⟩) ws.length c]).alloc (.cells #[.slice (some ⟨b2, o2, none⟩) sts.length d] 25)
  have k2 := Bx.new' (W.alloc (.cells #[I r, .slice (some ⟨b1, o1, none⟩) ws.length c] 24)) 25 #[.slice (some ⟨b2, o2, none⟩) sts.length d] (W.heap.size + 1) (by simp)
  have hBW := ((Below.refl W.heap.size W).alloc (Nat.le_refl _) (.cells #[I r, .slice (some ⟨b1, o1, none⟩) ws.length c] 24)).alloc (by simp) (.cells #[.slice (some ⟨b2, o2, none⟩) sts.length d] 25)
  have hB2 := hB.trans (hBW.mono hB.size)
  have y2 := y0.below hBW y0.lt
  clear x0 y0 hB
  go_wp2_with fail
  refine (best_c r (some ⟨b1, o1, none⟩) (some ⟨b2, o2, none⟩) c d _ _ ws sts T1 T2 _ (h1.below hB2 (Nat.le_refl _)) (Sl.below h2 hB2 (Nat.le_refl _)) hv (fun b o e => by injection e with e; injection e with e; subst e; exact Nat.lt_of_lt_of_le hb1 hB2.size) (fun b o e => by injection e with e; injection e with e; subst e; exact Nat.lt_of_lt_of_le hb2 hB2.size) k1 k2).mono ?_
  rintro e w2 ⟨rfl, hb⟩
  have y3 := y2.below hb y2.lt
  have hB3 := hB2.trans (hb.mono hB2.size)
  clear k1 k2 hBW hB2 y2 hb
  generalize hs : bsts r ws sts (upn (ws.length - 1)) = s at *
  have HS := Lib.hid hs
  clear hs
  obtain ⟨fd, sa, sb, sg⟩ := s
  unfold opCells
  dsimp only []
  have q6 := Bx.new w2 112 #[I sa, I sb, I sg]
  have c6 := q6.cell
  have y4 := y3.alloc (.cells #[I sa, I sb, I sg] 112)
  have c4 := y4.cell
  have f4 := y4.free
  have hB4 := hB3.alloc hB3.size (.cells #[I sa, I sb, I sg] 112)
  by_cases hc : fd = false ∨ sg = 0
  · have EV := Lib.hid (show mo r ws sts (ws.length - 1) = (-1, -1, 0) by rw [← EM.out]; exact if_pos hc)
    have z := ((y4.set_ 0 (I (-1))).set_ 1 (I (-1))).set_ 2 (I 0)
    have cz := z.cell
    have hfin : Below w.heap.size w ((((w2.alloc (.cells #[I sa, I sb, I sg] 112)).setCell ⟨w.heap.size + 1, 0, none⟩ (I (-1))).setCell ⟨w.heap.size + 1, 1, none⟩ (I (-1))).setCell ⟨w.heap.size + 1, 2, none⟩ (I 0)) := ((hB4.setCell (p := ⟨w.heap.size + 1, 0, none⟩) (by simp only []; omega) _).setCell (p := ⟨w.heap.size + 1, 1, none⟩) (by simp only []; omega) _).setCell (p := ⟨w.heap.size + 1, 2, none⟩) (by simp only []; omega) _
    cases fd with
    | false =>
      go_wp2_with fail
      exact bodyPost_ret (v := .agg #[I (-1), I (-1), I 0]) (by simp [results, Try.results90, go_sem, cz]) rfl ⟨by rw [EV.out], hfin⟩
    | true =>
      obtain rfl : sg = 0 := by simpa using hc
      go_wp2_with fail
      exact bodyPost_ret (v := .agg #[I (-1), I (-1), I 0]) (by simp [results, Try.results90, go_sem, cz]) rfl ⟨by rw [EV.out], hfin⟩
  · have EV := Lib.hid (show mo r ws sts (ws.length - 1) = (sa, sb, sg) by rw [← EM.out]; exact if_neg hc)
    obtain ⟨hfd, hsg⟩ : fd = true ∧ ¬ sg = 0 := by
      constructor
      · cases fd with
        | true => rfl
        | false => exact absurd (.inl rfl) hc
      · exact fun h => hc (.inr h)
    subst hfd
    have hzz : (sg == 0) = false := beq_eq_false_iff_ne.2 hsg
    have z := ((y4.set_ 0 (I sa)).set_ 1 (I sb)).set_ 2 (I sg)
    have cz := z.cell
    have hfin : Below w.heap.size w ((((w2.alloc (.cells #[I sa, I sb, I sg] 112)).setCell ⟨w.heap.size + 1, 0, none⟩ (I sa)).setCell ⟨w.heap.size + 1, 1, none⟩ (I sb)).setCell ⟨w.heap.size + 1, 2, none⟩ (I sg)) := ((hB4.setCell (p := ⟨w.heap.size + 1, 0, none⟩) (by simp only []; omega) _).setCell (p := ⟨w.heap.size + 1, 1, none⟩) (by simp only []; omega) _).setCell (p := ⟨w.heap.size + 1, 2, none⟩) (by simp only []; omega) _
    go_wp2_with fail
    exact bodyPost_ret (v := .agg #[I sa, I sb, I sg]) (by simp [results, Try.results90, go_sem, cz]) rfl ⟨by rw [EV.out], hfin⟩

section
variable (r : Int) (A B : Option Addr) (c d : Nat) (ws : List Wg) (sts : List Int) (T1 T2 : TypeId) (w : World) (h1 : SlW w T1 A ws) (h2 : SlI w T2 B sts) (hf : Fit ws) (hl1 : ws.length ≤ maxLen) (hc : ws.length ≤ c) (hl2 : sts.length ≤ maxLen) (hd : sts.length ≤ d)
include h1 h2 hf hl1 hc hl2 hd
set_option maxRecDepth 100000 in
set_option maxHeartbeats 1000000 in
theorem widestPP_c :
    Calls Try.prog 44 #[.agg #[I r, .slice A ws.length c], .slice B sts.length d] w fun e w' => e = .returned (.tuple #[I (wiE r ws sts).1, I (wiE r ws sts).2.1, I (wiE r ws sts).2.2, I (cst r ws sts)]) ∧ Below w.heap.size w w' := by
  have x0 := Bx.new w 24 #[I r, .slice A ws.length c]
  have hW0 := (Below.refl w.heap.size w).alloc (Nat.le_refl _) (.cells #[I r, .slice A ws.length c] 24)
  have hc0 := x0.cell
  go_enter Try.func44, Try.ntmps44
  go_wp2_with fail
  refine (checkStarts_c r _ B c d ws sts T1 T2 _ (h1.below hW0 (Nat.le_refl _)) (h2.below hW0 (Nat.le_refl _)) hf hl1 hc hl2 hd).mono ?_
  rintro e w1 ⟨rfl, hbw1⟩
  have hWb := hW0.trans (hbw1.mono hW0.size)
  have x1 := x0.below hbw1 x0.lt
  clear hc0 x0
  have hc1 := x1.cell
  by_cases a1 : cst r ws sts = 0
  · have hz : (cst r ws sts != 0) = false := by simp [a1]
    have hval := cst_val a1
    have EW := Lib.hid (show wiE r ws sts = mo r ws sts (ws.length - 1) by unfold wiE; rw [if_pos a1])
    have A1 := Lib.hid a1
    clear a1
    go_wp2_with fail
    refine (widestP_c r A B c d ws sts T1 T2 _ (h1.below hWb (Nat.le_refl _)) (h2.below hWb (Nat.le_refl _)) hval).mono ?_
    rintro e w2 ⟨rfl, hb2⟩
    have hW2 := hWb.trans (hb2.mono hWb.size)
    generalize hm : mo r ws sts (ws.length - 1) = m at *
    obtain ⟨sa, sb, sg⟩ := m
    dsimp only []
    clear hc1 hm
    have q0 := Bx.new w2 112 #[I sa, I sb, I sg]
    have hW3 := hW2.alloc hW2.size (.cells #[I sa, I sb, I sg] 112)
    go_wp2_with fail
    generalize w2.heap.size = q9 at *
    refine wp_region_list_s (by kernel_rfl) (R := (fun w' => Bx w' q9 112 #[I sa, I sb, I sg] ∧ Below w.heap.size w w')) (F := FB) [] [] []
        [As.is _ _ (.pointer (some ⟨q9, 0, none⟩)),
        As.is _ _ (I sa),
        As.is _ _ (.pointer (some ⟨q9, 1, none⟩)),
        As.is _ _ (I sb),
        As.is _ _ (.pointer (some ⟨q9, 2, none⟩)),
        As.is _ _ (I sg),
        As.is _ _ (I sa),
        As.is _ _ (I sb),
        As.is _ _ (I sg),
        As.is _ _ (I 0)] 25 (by kernel_rfl) rfl (⟨q0.below (Below.refl _ _).drew q0.lt, hW3.drew⟩) (by simp) (by simp) ?_ (fun _ => Below.refl _ _) ?_ ?_ ?_
    · intro i' hi' o' ho k' b' hg u w' hR hu
      match i', hi', ho with
      | 0, _, ho => cases ho; cases hg
      | 1, _, ho => cases ho; cases hg
      | 2, _, ho => cases ho; cases hg
      | 3, _, ho => cases ho; cases hg
      | 4, _, ho => cases ho; cases hg
      | 5, _, ho => cases ho; cases hg
      | 6, _, ho => cases ho; cases hg
      | 7, _, ho => cases ho; cases hg
      | 8, _, ho => cases ho; cases hg
      | 9, _, ho => cases ho; cases hg
      | n + 10, hi, _ => exact absurd hi (by simp)
    · intro i' hi' hsk; cases hsk
    · intro i' hi' hsk o' ho ev w' hR hc hf hg hs hd
      match i', hi', ho with
      | 0, _, ho =>
        clear hsk
        cases ho
        have e9 : ev (.tmp 9) = .pointer (some ⟨q9, 0, none⟩) := hs 9 (by kernel_rfl)
        go_simp
        first | exact ⟨rfl, hR, Below.refl _ _⟩ | exact ⟨⟨rfl, rfl⟩, hR, Below.refl _ _⟩ | exact ⟨⟨rfl, fun h => absurd h (by decide)⟩, hR, Below.refl _ _⟩ | exact ⟨⟨rfl, rfl, fun h => absurd h (by decide)⟩, hR, Below.refl _ _⟩
      | 1, _, ho =>
        clear hsk
        cases ho
        have e19 : ev (.tmp 19) = .pointer (some ⟨q9, 0, none⟩) := hd 0 19 (by kernel_rfl)
        have m9 := hR.1.cell
        go_simp
        first | exact ⟨rfl, hR, Below.refl _ _⟩ | exact ⟨⟨rfl, rfl⟩, hR, Below.refl _ _⟩ | exact ⟨⟨rfl, fun h => absurd h (by decide)⟩, hR, Below.refl _ _⟩ | exact ⟨⟨rfl, rfl, fun h => absurd h (by decide)⟩, hR, Below.refl _ _⟩
      | 2, _, ho =>
        clear hsk
        cases ho
        have e9 : ev (.tmp 9) = .pointer (some ⟨q9, 0, none⟩) := hs 9 (by kernel_rfl)
        go_simp
        first | exact ⟨rfl, hR, Below.refl _ _⟩ | exact ⟨⟨rfl, rfl⟩, hR, Below.refl _ _⟩ | exact ⟨⟨rfl, fun h => absurd h (by decide)⟩, hR, Below.refl _ _⟩ | exact ⟨⟨rfl, rfl, fun h => absurd h (by decide)⟩, hR, Below.refl _ _⟩
      | 3, _, ho =>
        clear hsk
        cases ho
        have e21 : ev (.tmp 21) = .pointer (some ⟨q9, 1, none⟩) := hd 2 21 (by kernel_rfl)
        have m9 := hR.1.cell
        go_simp
        first | exact ⟨rfl, hR, Below.refl _ _⟩ | exact ⟨⟨rfl, rfl⟩, hR, Below.refl _ _⟩ | exact ⟨⟨rfl, fun h => absurd h (by decide)⟩, hR, Below.refl _ _⟩ | exact ⟨⟨rfl, rfl, fun h => absurd h (by decide)⟩, hR, Below.refl _ _⟩
      | 4, _, ho =>
        clear hsk
        cases ho
        have e9 : ev (.tmp 9) = .pointer (some ⟨q9, 0, none⟩) := hs 9 (by kernel_rfl)
        go_simp
        first | exact ⟨rfl, hR, Below.refl _ _⟩ | exact ⟨⟨rfl, rfl⟩, hR, Below.refl _ _⟩ | exact ⟨⟨rfl, fun h => absurd h (by decide)⟩, hR, Below.refl _ _⟩ | exact ⟨⟨rfl, rfl, fun h => absurd h (by decide)⟩, hR, Below.refl _ _⟩
      | 5, _, ho =>
        clear hsk
        cases ho
        have e23 : ev (.tmp 23) = .pointer (some ⟨q9, 2, none⟩) := hd 4 23 (by kernel_rfl)
        have m9 := hR.1.cell
        go_simp
        first | exact ⟨rfl, hR, Below.refl _ _⟩ | exact ⟨⟨rfl, rfl⟩, hR, Below.refl _ _⟩ | exact ⟨⟨rfl, fun h => absurd h (by decide)⟩, hR, Below.refl _ _⟩ | exact ⟨⟨rfl, rfl, fun h => absurd h (by decide)⟩, hR, Below.refl _ _⟩
      | 6, _, ho =>
        clear hsk
        cases ho
        have e20 : ev (.tmp 20) = I sa := hd 1 20 (by kernel_rfl)
        go_simp
        first | exact ⟨rfl, hR, Below.refl _ _⟩ | exact ⟨⟨rfl, rfl⟩, hR, Below.refl _ _⟩ | exact ⟨⟨rfl, fun h => absurd h (by decide)⟩, hR, Below.refl _ _⟩ | exact ⟨⟨rfl, rfl, fun h => absurd h (by decide)⟩, hR, Below.refl _ _⟩
      | 7, _, ho =>
        clear hsk
        cases ho
        have e22 : ev (.tmp 22) = I sb := hd 3 22 (by kernel_rfl)
        go_simp
        first | exact ⟨rfl, hR, Below.refl _ _⟩ | exact ⟨⟨rfl, rfl⟩, hR, Below.refl _ _⟩ | exact ⟨⟨rfl, fun h => absurd h (by decide)⟩, hR, Below.refl _ _⟩ | exact ⟨⟨rfl, rfl, fun h => absurd h (by decide)⟩, hR, Below.refl _ _⟩
      | 8, _, ho =>
        clear hsk
        cases ho
        have e24 : ev (.tmp 24) = I sg := hd 5 24 (by kernel_rfl)
        go_simp
        first | exact ⟨rfl, hR, Below.refl _ _⟩ | exact ⟨⟨rfl, rfl⟩, hR, Below.refl _ _⟩ | exact ⟨⟨rfl, fun h => absurd h (by decide)⟩, hR, Below.refl _ _⟩ | exact ⟨⟨rfl, rfl, fun h => absurd h (by decide)⟩, hR, Below.refl _ _⟩
      | 9, _, ho =>
        clear hsk
        cases ho
        go_simp
        first | exact ⟨rfl, hR, Below.refl _ _⟩ | exact ⟨⟨rfl, rfl⟩, hR, Below.refl _ _⟩ | exact ⟨⟨rfl, fun h => absurd h (by decide)⟩, hR, Below.refl _ _⟩ | exact ⟨⟨rfl, rfl, fun h => absurd h (by decide)⟩, hR, Below.refl _ _⟩
      | n + 10, hi, _ => exact absurd hi (by simp)
    intro ρ w3 hR hρ hne K hK
    have p6 : ρ 6 = I sa := hρ 6 (by simp)
    have p7 : ρ 7 = I sb := hρ 7 (by simp)
    have p8 : ρ 8 = I sg := hρ 8 (by simp)
    have p9 : ρ 9 = I 0 := hρ 9 (by simp)
    show K (putAll _ _ ρ 10) _
    simp only [putAll, dOf, List.getElem?_toArray, List.getElem?_cons_zero, List.getElem?_cons_succ, Option.bind_some, Act.put, List.setIfInBounds_toArray, List.set_cons_zero, List.set_cons_succ]
    rw [p6, p7, p8, p9]
    refine hK _ _ ?_
    change wpList _ _ _ [] _ _
    obtain ⟨_, hW4⟩ := hR
    clear hK K p6 p7 p8 p9 hρ hne q0
    go_wp2
    exact bodyPost_ret (v := .tuple #[I sa, I sb, I sg, I 0]) (by simp [results, Try.results44, go_sem]) rfl ⟨by rw [EW.out, A1.out], hW4⟩
  · have hz : (cst r ws sts != 0) = true := by simp [a1]
    have EW := Lib.hid (show wiE r ws sts = (0, 0, 0) by unfold wiE; rw [if_neg a1])
    have A1 := Lib.hid a1
    clear a1
    go_wp2_with fail
    exact bodyPost_ret (v := .tuple #[I 0, I 0, I 0, I (cst r ws sts)]) (by simp [results, Try.results44, go_sem]) rfl ⟨by rw [EW.out], hWb⟩
end
end Go.Proofs.Ytnihkgdkdinliaa
