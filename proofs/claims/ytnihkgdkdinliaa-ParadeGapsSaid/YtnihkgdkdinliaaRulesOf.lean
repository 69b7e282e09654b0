/- RulesOf; rules that came in. Own work. -/
import Derived.Test.YtnihkgdkdinliaaLawKitC
import Derived.Test.YtnihkgdkdinliaaOpen
namespace Go.Proofs.Ytnihkgdkdinliaa
open Go.RowKit Go.ChangeShapes Go.WideShapes Go.ChangeAt Go.Joins
set_option linter.unusedVariables false
set_option linter.unusedSimpArgs false
set_option linter.constructorNameAsVariable false

def RulesPost (d : Nat) (w : World) (e : Ending) (w' : World) : Prop :=
  ∃ a b g : Int, e = .returned (.agg #[I a, I b, I g]) ∧ 0 ≤ a ∧ a ≤ 399 ∧ a ≤ b ∧ b ≤ a + 1999 ∧ 0 ≤ g ∧ g ≤ 299 ∧ Dr w' d ∧ w.grownBy w' (some d)

/-- One of three numbers. -/
theorem any3_c (d : Nat) (x y hi : Int) (w : World) (hd : Dr w d) (h1 : 0 ≤ x) (h2 : x ≤ hi) (h3 : 0 ≤ y) (h4 : y ≤ hi) :
    Calls Try.prog 37 #[.pointer (some ⟨d, 0, none⟩), .slice (some ⟨w.heap.size, 0, none⟩) 3 3] (w.alloc (.cells #[I 0, I x, I y] 3)) (Rolled 0 hi d (w.alloc (.cells #[I 0, I x, I y] 3))) :=
  any_c d _ 3 3 [0, x, y] 0 hi _ (hd.alloc _) (Sl.ofBx (Bx.new w 3 #[I 0, I x, I y])) (by decide) (by simp) (by simp) (by simp; omega)

set_option maxRecDepth 100000 in
set_option maxHeartbeats 1000000 in
theorem rulesOf_c (d : Nat) (w : World) (hd : Dr w d) :
    Calls Try.prog 34 #[.pointer (some ⟨d, 0, none⟩)] w (RulesPost d w) := by
  have hlt := hd.lt
  have x0 := Bx.new w 54 #[I 0, I 0, I 0]
  have hne : w.heap.size ≠ d := by omega
  go_enter Try.func34, Try.ntmps34
  go_wp2_with fail
  refine (roll_c d 60 59 _ (hd.alloc _) (by omega) (by omega) (by omega) (by omega)).mono ?_
  rintro e w1 ⟨x, rfl, hx1, hx2, hdw1, hkw1⟩
  have xw1 := x0.kp hkw1 hne
  have gw1 := kp_trans (World.grownBy_alloc w _ _) hkw1
  go_wp2_with fail
  refine (roll_c d 400 399 _ hdw1 (by omega) (by omega) (by omega) (by omega)).mono ?_
  rintro e w2 ⟨y, rfl, hy1, hy2, hdw2, hkw2⟩
  have xw2 := xw1.kp hkw2 hne
  have gw2 := kp_trans gw1 hkw2
  go_wp2_with fail
  refine (any3_c d x y 399 w2 hdw2 (by omega) (by omega) (by omega) (by omega)).mono ?_
  rintro e w3 ⟨a, rfl, ha1, ha2, hdw3, hkw3⟩
  have xw3 := (xw2.alloc (.cells #[I 0, I x, I y] 3)).kp hkw3 hne
  have gw3 := kp_trans (kp_alloc gw2 (.cells #[I 0, I x, I y] 3)) hkw3
  have ha3 : a ≤ 399 := by omega
  clear hx1 hx2 hy1 hy2 hkw1 hkw2 hkw3 xw1 xw2 gw1 gw2 hdw1 hdw2
  go_wp2_with fail
  refine (roll_c d 40 39 _ hdw3 (by omega) (by omega) (by omega) (by omega)).mono ?_
  rintro e w4 ⟨x2, rfl, hx21, hx22, hdw4, hkw4⟩
  have xw4 := xw3.kp hkw4 hne
  have gw4 := kp_trans gw3 hkw4
  go_wp2_with fail
  refine (roll_c d 2000 1999 _ hdw4 (by omega) (by omega) (by omega) (by omega)).mono ?_
  rintro e w5 ⟨y2, rfl, hy21, hy22, hdw5, hkw5⟩
  have xw5 := xw4.kp hkw5 hne
  have gw5 := kp_trans gw4 hkw5
  go_wp2_with fail
  refine (any3_c d x2 y2 1999 w5 hdw5 (by omega) (by omega) (by omega) (by omega)).mono ?_
  rintro e w6 ⟨b, rfl, hb1, hb2, hdw6, hkw6⟩
  have xw6 := (xw5.alloc (.cells #[I 0, I x2, I y2] 3)).kp hkw6 hne
  have gw6 := kp_trans (kp_alloc gw5 (.cells #[I 0, I x2, I y2] 3)) hkw6
  clear hx21 hx22 hy21 hy22 hkw4 hkw5 hkw6 xw3 xw4 xw5 gw3 gw4 gw5 hdw3 hdw4 hdw5
  go_wp2_with fail
  refine (roll_c d 20 19 _ hdw6 (by omega) (by omega) (by omega) (by omega)).mono ?_
  rintro e w7 ⟨x3, rfl, hx31, hx32, hdw7, hkw7⟩
  have xw7 := xw6.kp hkw7 hne
  have gw7 := kp_trans gw6 hkw7
  go_wp2_with fail
  refine (roll_c d 300 299 _ hdw7 (by omega) (by omega) (by omega) (by omega)).mono ?_
  rintro e w8 ⟨y3, rfl, hy31, hy32, hdw8, hkw8⟩
  have xw8 := xw7.kp hkw8 hne
  have gw8 := kp_trans gw7 hkw8
  go_wp2_with fail
  refine (any3_c d x3 y3 299 w8 hdw8 (by omega) (by omega) (by omega) (by omega)).mono ?_
  rintro e w9 ⟨g, rfl, hg1, hg2, hdw9, hkw9⟩
  have xw9 := (xw8.alloc (.cells #[I 0, I x3, I y3] 3)).kp hkw9 hne
  have gw9 := kp_trans (kp_alloc gw8 (.cells #[I 0, I x3, I y3] 3)) hkw9
  clear hx31 hx32 hy31 hy32 hkw7 hkw8 hkw9 xw6 xw7 xw8 gw6 gw7 gw8 hdw6 hdw7 hdw8
  have hc9 := xw9.cell
  have hf9 := xw9.free
  go_wp2
  have xe := ((xw9.set_ 0 (I a)).set_ 1 (I (a + b))).set_ 2 (I g)
  have hce := xe.cell
  refine bodyPost_ret (v := .agg #[I a, I (a + b), I g]) (by simp [results, Try.results34, go_sem, hce]) rfl ⟨a, a + b, g, rfl, ha1, ha3, by omega, by omega, hg1, hg2, ?_, ?_⟩
  · exact ((hdw9.far (p := ⟨w.heap.size, 0, none⟩) (by simp only []; omega) _).far (p := ⟨w.heap.size, 1, none⟩) (by simp only []; omega) _).far (p := ⟨w.heap.size, 2, none⟩) (by simp only []; omega) _
  · exact kp_setNew (kp_setNew (kp_setNew gw9 (Nat.le_refl _) _) (Nat.le_refl _) _) (Nat.le_refl _) _

set_option maxRecDepth 100000 in
/-- Rules that came in. -/
theorem rules_sl {H : Type} {enc : TypeId × Value → H} {W : World} {r0 : Reach} {b0 base : Nat} {held : Bool} {v : Value} {d : DataW H} {p : List MemPlace} (hv : Value.okWide Try.prog W r0 b0 54 v) (h : DataW.Trod enc Try.prog W base (fun _ => true) held 54 v d p) :
    ∃ a b g : Int, v = .agg #[I a, I b, I g] := by
  obtain ⟨v0, v1, v2, y0, y1, y2, n, rfl, _, _, h0, h1, h2⟩ := open_agg3 Try.underlying54 (by kernel_rfl) (by kernel_rfl) hv h
  obtain ⟨a, ha, _⟩ := DataW.trod_int Try.underlying3 h0
  obtain ⟨b, hb, _⟩ := DataW.trod_int Try.underlying3 h1
  obtain ⟨g, hg, _⟩ := DataW.trod_int Try.underlying3 h2
  simp at ha hb hg
  exact ⟨a, b, g, by rw [ha, hb, hg]⟩
end Go.Proofs.Ytnihkgdkdinliaa
