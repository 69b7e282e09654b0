/- parade.between, and the errors of a moment. Own work; imports no translation. -/
import Derived.Test.YtnihkgdkdinliaaStarts
namespace Go.Proofs.Ytnihkgdkdinliaa
open Go.RowKit
set_option linter.unusedVariables false
set_option linter.unusedSimpArgs false

/-- A span as a value. -/
abbrev Sp (a b : Int) : Value := .agg #[I a, I b]

section
variable (A B : Option Addr) (c d : Nat) (p0 p1 p2 p3 p4 p5 p6 p7 q0 q1 q2 q3 q4 q5 q6 q7 : Int) (ws : List Wg) (sts : List Int) (wing : Nat) (t : Int) (T1 T2 : TypeId) (w : World)

set_option maxRecDepth 100000 in
set_option maxHeartbeats 1000000 in
theorem betweenFront_c (h1 : SlW w T1 A ws) (h2 : SlI w T2 B sts) (hs1 : Sm ws sts [p0, p1, p2, p3, p4, p5, p6, p7] wing) (hs2 : Sm ws sts [q0, q1, q2, q3, q4, q5, q6, q7] wing) (hp1 : -1000000 ≤ t) (hp2 : t ≤ 1000000) (hl1 : ws.length ≤ 1000000) (hl2 : sts.length ≤ maxLen) :
    Calls Try.prog 72 #[.func (.func 73) #[tv A ws.length c B sts.length d p0 p1 p2 p3 p4 p5 p6 p7] #[], .func (.func 73) #[tv A ws.length c B sts.length d q0 q1 q2 q3 q4 q5 q6 q7] #[], I wing, I t] w
      fun e w' => e = .returned (Sp (front ws sts [p0, p1, p2, p3, p4, p5, p6, p7] t wing) (front ws sts [q0, q1, q2, q3, q4, q5, q6, q7] t wing)) ∧ Below w.heap.size w w' := by
  have hb0 := Bx.new w 27 #[I 0, I 0]
  have hW : Below w.heap.size w (w.alloc (.cells #[I 0, I 0] 27)) := (Below.refl _ _).alloc (Nat.le_refl _) _
  go_enter Try.func72, Try.ntmps72
  go_wp2_with fail
  refine (frontT_c _ B c d p0 p1 p2 p3 p4 p5 p6 p7 ws sts wing t T1 T2 _ (h1.below hW (Nat.le_refl _)) (h2.below hW (Nat.le_refl _)) hs1 hp1 hp2 hl1 hl2).mono ?_
  rintro e w1 ⟨rfl, hbw1⟩
  have hb1 := hb0.below hbw1 (by simp)
  have hW1 := hW.trans (hbw1.mono hW.size)
  go_wp2_with fail
  refine (frontT_c _ B c d q0 q1 q2 q3 q4 q5 q6 q7 ws sts wing t T1 T2 _ (h1.below hW1 (Nat.le_refl _)) (h2.below hW1 (Nat.le_refl _)) hs2 hp1 hp2 hl1 hl2).mono ?_
  rintro e w2 ⟨rfl, hbw2⟩
  have hb2 := hb1.below hbw2 hb1.lt
  have hf := hb2.free
  have hc := hb2.cell
  have hb3 := (hb2.set_ 0 (I (front ws sts [p0, p1, p2, p3, p4, p5, p6, p7] t wing))).set_ 1 (I (front ws sts [q0, q1, q2, q3, q4, q5, q6, q7] t wing))
  have hc3 := hb3.cell
  go_wp2
  refine bodyPost_ret (v := Sp (front ws sts [p0, p1, p2, p3, p4, p5, p6, p7] t wing) (front ws sts [q0, q1, q2, q3, q4, q5, q6, q7] t wing)) (by simp [results, Try.results72, go_sem, hc3]) rfl ⟨rfl, ?_⟩
  repeat (refine Below.setCell ?_ (by simp only []; omega) _)
  exact hW1.trans (hbw2.mono hW1.size)

set_option maxRecDepth 100000 in
set_option maxHeartbeats 1000000 in
theorem betweenPasses_c (h1 : SlW w T1 A ws) (h2 : SlI w T2 B sts) (hs1 : Sm ws sts [p0, p1, p2, p3, p4, p5, p6, p7] wing) (hs2 : Sm ws sts [q0, q1, q2, q3, q4, q5, q6, q7] wing) (hp1 : 0 ≤ t) (hp2 : t ≤ 900000000) (hl1 : ws.length ≤ 1000000) (hl2 : sts.length ≤ maxLen) :
    Calls Try.prog 72 #[.func (.func 76) #[tv A ws.length c B sts.length d p0 p1 p2 p3 p4 p5 p6 p7] #[], .func (.func 76) #[tv A ws.length c B sts.length d q0 q1 q2 q3 q4 q5 q6 q7] #[], I wing, I t] w
      fun e w' => e = .returned (Sp (passed ws sts [p0, p1, p2, p3, p4, p5, p6, p7] wing t) (passed ws sts [q0, q1, q2, q3, q4, q5, q6, q7] wing t)) ∧ Below w.heap.size w w' := by
  have hb0 := Bx.new w 27 #[I 0, I 0]
  have hW : Below w.heap.size w (w.alloc (.cells #[I 0, I 0] 27)) := (Below.refl _ _).alloc (Nat.le_refl _) _
  go_enter Try.func72, Try.ntmps72
  go_wp2_with fail
  refine (passes_c _ B c d p0 p1 p2 p3 p4 p5 p6 p7 ws sts wing t T1 T2 _ (h1.below hW (Nat.le_refl _)) (h2.below hW (Nat.le_refl _)) hs1 hp1 hp2 hl1 hl2).mono ?_
  rintro e w1 ⟨rfl, hbw1⟩
  have hb1 := hb0.below hbw1 (by simp)
  have hW1 := hW.trans (hbw1.mono hW.size)
  go_wp2_with fail
  refine (passes_c _ B c d q0 q1 q2 q3 q4 q5 q6 q7 ws sts wing t T1 T2 _ (h1.below hW1 (Nat.le_refl _)) (h2.below hW1 (Nat.le_refl _)) hs2 hp1 hp2 hl1 hl2).mono ?_
  rintro e w2 ⟨rfl, hbw2⟩
  have hb2 := hb1.below hbw2 hb1.lt
  have hf := hb2.free
  have hc := hb2.cell
  have hb3 := (hb2.set_ 0 (I (passed ws sts [p0, p1, p2, p3, p4, p5, p6, p7] wing t))).set_ 1 (I (passed ws sts [q0, q1, q2, q3, q4, q5, q6, q7] wing t))
  have hc3 := hb3.cell
  go_wp2
  refine bodyPost_ret (v := Sp (passed ws sts [p0, p1, p2, p3, p4, p5, p6, p7] wing t) (passed ws sts [q0, q1, q2, q3, q4, q5, q6, q7] wing t)) (by simp [results, Try.results72, go_sem, hc3]) rfl ⟨rfl, ?_⟩
  repeat (refine Below.setCell ?_ (by simp only []; omega) _)
  exact hW1.trans (hbw2.mono hW1.size)

set_option maxRecDepth 100000 in
set_option maxHeartbeats 1000000 in
theorem betweenLeaves_c (h1 : SlW w T1 A ws) (h2 : SlI w T2 B sts) (hs1 : Sm ws sts [p0, p1, p2, p3, p4, p5, p6, p7] wing) (hs2 : Sm ws sts [q0, q1, q2, q3, q4, q5, q6, q7] wing) (hp1 : 0 ≤ t) (hp2 : t ≤ 800000000) (hl1 : ws.length ≤ 1000000) (hl2 : sts.length ≤ maxLen) :
    Calls Try.prog 72 #[.func (.func 95) #[tv A ws.length c B sts.length d p0 p1 p2 p3 p4 p5 p6 p7] #[], .func (.func 95) #[tv A ws.length c B sts.length d q0 q1 q2 q3 q4 q5 q6 q7] #[], I wing, I t] w
      fun e w' => e = .returned (Sp (passed ws sts [p0, p1, p2, p3, p4, p5, p6, p7] wing (t + (gW ws wing).len)) (passed ws sts [q0, q1, q2, q3, q4, q5, q6, q7] wing (t + (gW ws wing).len))) ∧ Below w.heap.size w w' := by
  have hb0 := Bx.new w 27 #[I 0, I 0]
  have hW : Below w.heap.size w (w.alloc (.cells #[I 0, I 0] 27)) := (Below.refl _ _).alloc (Nat.le_refl _) _
  go_enter Try.func72, Try.ntmps72
  go_wp2_with fail
  refine (leaves_c _ B c d p0 p1 p2 p3 p4 p5 p6 p7 ws sts wing T1 T2 _ (h1.below hW (Nat.le_refl _)) (h2.below hW (Nat.le_refl _)) hs1 hl1 hl2 t hp1 hp2).mono ?_
  rintro e w1 ⟨rfl, hbw1⟩
  have hb1 := hb0.below hbw1 (by simp)
  have hW1 := hW.trans (hbw1.mono hW.size)
  go_wp2_with fail
  refine (leaves_c _ B c d q0 q1 q2 q3 q4 q5 q6 q7 ws sts wing T1 T2 _ (h1.below hW1 (Nat.le_refl _)) (h2.below hW1 (Nat.le_refl _)) hs2 hl1 hl2 t hp1 hp2).mono ?_
  rintro e w2 ⟨rfl, hbw2⟩
  have hb2 := hb1.below hbw2 hb1.lt
  have hf := hb2.free
  have hc := hb2.cell
  have hb3 := (hb2.set_ 0 (I (passed ws sts [p0, p1, p2, p3, p4, p5, p6, p7] wing (t + (gW ws wing).len)))).set_ 1 (I (passed ws sts [q0, q1, q2, q3, q4, q5, q6, q7] wing (t + (gW ws wing).len)))
  have hc3 := hb3.cell
  go_wp2
  refine bodyPost_ret (v := Sp (passed ws sts [p0, p1, p2, p3, p4, p5, p6, p7] wing (t + (gW ws wing).len)) (passed ws sts [q0, q1, q2, q3, q4, q5, q6, q7] wing (t + (gW ws wing).len))) (by simp [results, Try.results72, go_sem, hc3]) rfl ⟨rfl, ?_⟩
  repeat (refine Below.setCell ?_ (by simp only []; omega) _)
  exact hW1.trans (hbw2.mono hW1.size)

set_option maxRecDepth 100000 in
set_option maxHeartbeats 1000000 in
theorem betweenGap_c (h1 : SlW w T1 A ws) (h2 : SlI w T2 B sts) (i : Nat) (hwi : wing = i + 1) (hs1 : Sm ws sts [p0, p1, p2, p3, p4, p5, p6, p7] wing) (hs2 : Sm ws sts [q0, q1, q2, q3, q4, q5, q6, q7] wing) (hp1 : -1000000 ≤ t) (hp2 : t ≤ 1000000) (hl1 : ws.length ≤ 1000000) (hl2 : sts.length ≤ maxLen) :
    Calls Try.prog 72 #[.func (.func 86) #[tv A ws.length c B sts.length d p0 p1 p2 p3 p4 p5 p6 p7] #[], .func (.func 86) #[tv A ws.length c B sts.length d q0 q1 q2 q3 q4 q5 q6 q7] #[], I wing, I t] w
      fun e w' => e = .returned (Sp (front ws sts [p0, p1, p2, p3, p4, p5, p6, p7] t i - (gW ws i).len - front ws sts [p0, p1, p2, p3, p4, p5, p6, p7] t wing) (front ws sts [q0, q1, q2, q3, q4, q5, q6, q7] t i - (gW ws i).len - front ws sts [q0, q1, q2, q3, q4, q5, q6, q7] t wing)) ∧ Below w.heap.size w w' := by
  have Hwi := Lib.hid hwi
  clear hwi
  have hb0 := Bx.new w 27 #[I 0, I 0]
  have hW : Below w.heap.size w (w.alloc (.cells #[I 0, I 0] 27)) := (Below.refl _ _).alloc (Nat.le_refl _) _
  go_enter Try.func72, Try.ntmps72
  go_wp2_with fail
  refine (gapT_c _ B c d p0 p1 p2 p3 p4 p5 p6 p7 ws sts wing T1 T2 _ (h1.below hW (Nat.le_refl _)) (h2.below hW (Nat.le_refl _)) hl1 hl2 i Hwi.out hs1 t hp1 hp2).mono ?_
  rintro e w1 ⟨rfl, hbw1⟩
  have hb1 := hb0.below hbw1 (by simp)
  have hW1 := hW.trans (hbw1.mono hW.size)
  go_wp2_with fail
  refine (gapT_c _ B c d q0 q1 q2 q3 q4 q5 q6 q7 ws sts wing T1 T2 _ (h1.below hW1 (Nat.le_refl _)) (h2.below hW1 (Nat.le_refl _)) hl1 hl2 i Hwi.out hs2 t hp1 hp2).mono ?_
  rintro e w2 ⟨rfl, hbw2⟩
  have hb2 := hb1.below hbw2 hb1.lt
  have hf := hb2.free
  have hc := hb2.cell
  have hb3 := (hb2.set_ 0 (I (front ws sts [p0, p1, p2, p3, p4, p5, p6, p7] t i - (gW ws i).len - front ws sts [p0, p1, p2, p3, p4, p5, p6, p7] t wing))).set_ 1 (I (front ws sts [q0, q1, q2, q3, q4, q5, q6, q7] t i - (gW ws i).len - front ws sts [q0, q1, q2, q3, q4, q5, q6, q7] t wing))
  have hc3 := hb3.cell
  go_wp2
  refine bodyPost_ret (v := Sp (front ws sts [p0, p1, p2, p3, p4, p5, p6, p7] t i - (gW ws i).len - front ws sts [p0, p1, p2, p3, p4, p5, p6, p7] t wing) (front ws sts [q0, q1, q2, q3, q4, q5, q6, q7] t i - (gW ws i).len - front ws sts [q0, q1, q2, q3, q4, q5, q6, q7] t wing)) (by simp [results, Try.results72, go_sem, hc3]) rfl ⟨rfl, ?_⟩
  repeat (refine Below.setCell ?_ (by simp only []; omega) _)
  exact hW1.trans (hbw2.mono hW1.size)
end
end Go.Proofs.Ytnihkgdkdinliaa
