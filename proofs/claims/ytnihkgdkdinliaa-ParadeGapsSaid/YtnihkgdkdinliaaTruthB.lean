/- A truth's tail and gap; the truths at the ends of the paces. -/
import Derived.Test.YtnihkgdkdinliaaTruth
import Derived.Deep.RegionHeld3
namespace Go.Proofs.Ytnihkgdkdinliaa
open Go.RowKit
set_option linter.unusedVariables false

section
variable (A B : Option Addr) (c d : Nat) (p0 p1 p2 p3 p4 p5 p6 p7 : Int) (ws : List Wg) (sts : List Int) (wing : Nat) (T1 T2 : TypeId) (w : World)
    (h1 : SlW w T1 A ws) (h2 : SlI w T2 B sts) (hs : Sm ws sts [p0, p1, p2, p3, p4, p5, p6, p7] wing)
    (hl1 : ws.length ≤ 1000000) (hl2 : sts.length ≤ maxLen)
include h1 h2 hs hl1 hl2

set_option maxHeartbeats 2000000 in
theorem leaves_c (place : Int) (hp1 : 0 ≤ place) (hp2 : place ≤ 800000000) :
    Calls Try.prog 95 #[tv A ws.length c B sts.length d p0 p1 p2 p3 p4 p5 p6 p7, I wing, I place] w fun e w' => e = .returned (I (passed ws sts [p0, p1, p2, p3, p4, p5, p6, p7] wing (place + (gW ws wing).len))) ∧ Below w.heap.size w w' := by
  have hs0 := hs
  obtain ⟨hw1, hw2, hw3, hw4, hk⟩ := hs
  have hkw := hk wing (Nat.le_refl _)
  obtain ⟨b1, o1, rfl, hb1⟩ := SlW.some_ h1 hw1
  unfold tv
  have hB := Bx.new w 97 #[.slice (some ⟨b1, o1, none⟩) ws.length c, .slice B sts.length d, I p0, I p1, I p2, I p3, I p4, I p5, I p6, I p7]
  have hcb := hB.cell
  generalize hW : w.alloc (.cells #[.slice (some ⟨b1, o1, none⟩) ws.length c, .slice B sts.length d, I p0, I p1, I p2, I p3, I p4, I p5, I p6, I p7] 97) = W at hcb
  have hW0 : Below w.heap.size w W := by rw [← hW]; exact (Below.refl _ _).alloc (Nat.le_refl _) _
  have hWs : W.heap.size = w.heap.size + 1 := by rw [← hW]; simp
  have hc1 := (SlW.cellG (h1.below hW0 (Nat.le_refl _)) hw1).2.1
  have hiw : (wing : Int) < ws.length := by omega
  have e1 : IntKind.i64.wrap (place + (gW ws wing).len) = place + (gW ws wing).len := IntWalk.i64_in _ (by omega)
  go_enter Try.func95, Try.ntmps95
  go_wp2
  go_region_held3 (fun w' => (∀ j, w'.cell? ⟨w.heap.size, j, none⟩ = (#[.slice (some ⟨b1, o1, none⟩) ws.length c, .slice B sts.length d, I p0, I p1, I p2, I p3, I p4, I p5, I p6, I p7] : Array Value)[j]?) ∧ w'.cell? ⟨b1, o1 + wing * 4 + 1, none⟩ = some (I (gW ws wing).len))
    (first
      | exact ⟨hcb, hc1⟩
      | exact ⟨fun j => (hbw1.cell (by have := hWs; simp only [World.size_drew]; omega)).trans (hcb j), (hbw1.cell (by have := hWs; simp only [World.size_drew]; omega)).trans hc1⟩)
    ((go_at_call 76; refine (passes_c _ B c d p0 p1 p2 p3 p4 p5 p6 p7 ws sts wing _ T1 T2 _ (h1.below hW0.drew (Nat.le_refl _)) (h2.below hW0.drew (Nat.le_refl _)) hs0 (by omega) (by omega) hl1 hl2).mono ?_; rintro e w1 ⟨rfl, hbw1⟩))
  go_wp2
  go_ret
  exact ⟨rfl, hW0.drew.trans (hbw1.mono hW0.drew.size)⟩

omit hs in
set_option maxHeartbeats 2000000 in
theorem gapT_c (i : Nat) (hwi : wing = i + 1) (hs : Sm ws sts [p0, p1, p2, p3, p4, p5, p6, p7] wing) (t : Int) (hp1 : -1000000 ≤ t) (hp2 : t ≤ 1000000) :
    Calls Try.prog 86 #[tv A ws.length c B sts.length d p0 p1 p2 p3 p4 p5 p6 p7, I wing, I t] w fun e w' => e = .returned (I (front ws sts [p0, p1, p2, p3, p4, p5, p6, p7] t i - (gW ws i).len - front ws sts [p0, p1, p2, p3, p4, p5, p6, p7] t wing)) ∧ Below w.heap.size w w' := by
  subst hwi
  have hs0 := hs
  have hs1 := hs.less (k := i) (by omega)
  have hf0 := front_bd hs0 hp1 hp2 (i + 1) (Nat.le_refl _)
  have hf1 := front_bd hs0 hp1 hp2 i (by omega)
  obtain ⟨hw1, hw2, hw3, hw4, hk⟩ := hs
  have hkw := hk i (by omega)
  have hw1' : i < ws.length := by omega
  obtain ⟨b1, o1, rfl, hb1⟩ := SlW.some_ h1 hw1
  unfold tv
  have hB := Bx.new w 97 #[.slice (some ⟨b1, o1, none⟩) ws.length c, .slice B sts.length d, I p0, I p1, I p2, I p3, I p4, I p5, I p6, I p7]
  have hcb := hB.cell
  generalize hW : w.alloc (.cells #[.slice (some ⟨b1, o1, none⟩) ws.length c, .slice B sts.length d, I p0, I p1, I p2, I p3, I p4, I p5, I p6, I p7] 97) = W at hB hcb
  have hW0 : Below w.heap.size w W := by rw [← hW]; exact (Below.refl _ _).alloc (Nat.le_refl _) _
  have hWs : W.heap.size = w.heap.size + 1 := by rw [← hW]; simp
  have hc1 := (SlW.cellG (h1.below hW0 (Nat.le_refl _)) hw1').2.1
  have hiw : (i : Int) < ws.length := by omega
  have hi0 : (0 : Int) ≤ i := by omega
  have e1 : IntKind.i64.wrap (i : Int) = (i : Int) := IntWalk.i64_in _ (by omega)
  have e2 : IntKind.i64.wrap (front ws sts [p0, p1, p2, p3, p4, p5, p6, p7] t i - (gW ws i).len) = front ws sts [p0, p1, p2, p3, p4, p5, p6, p7] t i - (gW ws i).len := IntWalk.i64_in _ (by omega)
  rw [show ((i + 1 : Nat) : Int) = (i : Int) + 1 from rfl]
  go_enter Try.func86, Try.ntmps86
  go_wp2
  clear hB
  go_region_held3 (fun w' => (∀ j, w'.cell? ⟨w.heap.size, j, none⟩ = (#[.slice (some ⟨b1, o1, none⟩) ws.length c, .slice B sts.length d, I p0, I p1, I p2, I p3, I p4, I p5, I p6, I p7] : Array Value)[j]?) ∧ w'.cell? ⟨b1, o1 + i * 4 + 1, none⟩ = some (I (gW ws i).len))
    (first
      | exact ⟨hcb, hc1⟩
      | exact ⟨fun j => (hbw1.cell (by simp only [World.size_drew]; omega)).trans (hcb j), (hbw1.cell (by simp only [World.size_drew]; omega)).trans hc1⟩)
    ((go_at_call 73; refine (frontT_c _ B c d p0 p1 p2 p3 p4 p5 p6 p7 ws sts i _ T1 T2 _ (h1.below hW0.drew (Nat.le_refl _)) (h2.below hW0.drew (Nat.le_refl _)) hs1 hp1 hp2 hl1 hl2).mono ?_; rintro e w1 ⟨rfl, hbw1⟩))
  have hcb1 : ∀ j, w1.cell? ⟨w.heap.size, j, none⟩ = (#[.slice (some ⟨b1, o1, none⟩) ws.length c, .slice B sts.length d, I p0, I p1, I p2, I p3, I p4, I p5, I p6, I p7] : Array Value)[j]? := fun j => (hbw1.cell (by simp only [World.size_drew]; omega)).trans (hcb j)
  have hW1 : Below w.heap.size w w1 := hW0.drew.trans (hbw1.mono hW0.drew.size)
  clear e2 e1 hbw1 hW
  go_wp2_with fail
  rw [show (i : Int) + 1 = ((i + 1 : Nat) : Int) from rfl]
  refine (frontT_c _ B c d p0 p1 p2 p3 p4 p5 p6 p7 ws sts (i + 1) _ T1 T2 _ (h1.below hW1 (Nat.le_refl _)) (h2.below hW1 (Nat.le_refl _)) hs0 hp1 hp2 hl1 hl2).mono ?_
  rintro e w2 ⟨rfl, hbw2⟩
  go_wp2
  go_ret
  exact ⟨rfl, hW1.trans (hbw2.mono hW1.size)⟩
end

set_option maxHeartbeats 400000 in
theorem endsOf_c (lo hi : Int) (w : World) :
    Calls Try.prog 97 #[.agg #[I lo, I hi]] w fun e w' => e = .returned (.agg #[I lo, I hi]) ∧ Below w.heap.size w w' := by
  go_enter Try.func97, Try.ntmps97
  go_wp2
  refine bodyPost_ret (v := .agg #[I lo, I hi]) (by simp [results, Try.results97, go_sem]) rfl ⟨rfl, ?_⟩
  exact ((Below.refl _ _).alloc (Nat.le_refl _) _).alloc (by simp) _

theorem index_lo (lo hi : Int) (w : World) : (Instr.index 124 (.agg #[I lo, I hi]) (I 0)).run Try.prog w = .ok (I lo) w := by kernel_rfl
theorem index_hi (lo hi : Int) (w : World) : (Instr.index 124 (.agg #[I lo, I hi]) (I 1)).run Try.prog w = .ok (I hi) w := by kernel_rfl
theorem index_end (ws : List Wg) (e k : Nat) (he : e = 0 ∨ e = 1) (hk : k < ws.length) (w : World) : (Instr.index 124 (.agg #[I (gW ws k).lo, I (gW ws k).hi]) (I e)).run Try.prog w = .ok (I (endp ws e k)) w := by
  unfold endp
  rw [if_pos hk]
  rcases he with rfl | rfl
  · exact index_lo _ _ _
  · exact index_hi _ _ _

set_option maxRecDepth 100000 in
set_option maxHeartbeats 2000000 in
theorem allAt_c (r : Int) (A B : Option Addr) (c d : Nat) (ws : List Wg) (m : Nat) (e : Nat) (T1 : TypeId) (w : World) (he : e = 0 ∨ e = 1) (h1 : SlW w T1 A ws) (hl1 : ws.length ≤ 8) :
    Calls Try.prog 71 #[.agg #[I r, .slice A ws.length c], .slice B m d, I e] w fun e' w' => e' = .returned (tv A ws.length c B m d (endp ws e 0) (endp ws e 1) (endp ws e 2) (endp ws e 3) (endp ws e 4) (endp ws e 5) (endp ws e 6) (endp ws e 7)) ∧ Below w.heap.size w w' := by
  have hb3 : Bx (((w.alloc (.cells #[I r, .slice A ws.length c] 24)).alloc (.cells #[.slice none 0 0, .slice none 0 0, I 0, I 0, I 0, I 0, I 0, I 0, I 0, I 0] 97)).alloc (.cells #[.slice A ws.length c, .slice B m d, I 0, I 0, I 0, I 0, I 0, I 0, I 0, I 0] 97)) (w.heap.size + 1) 97 #[.slice none 0 0, .slice none 0 0, I 0, I 0, I 0, I 0, I 0, I 0, I 0, I 0] := (Bx.new' _ _ _ _ (by simp)).alloc _
  have hb7 : Bx (((w.alloc (.cells #[I r, .slice A ws.length c] 24)).alloc (.cells #[.slice none 0 0, .slice none 0 0, I 0, I 0, I 0, I 0, I 0, I 0, I 0, I 0] 97)).alloc (.cells #[.slice A ws.length c, .slice B m d, I 0, I 0, I 0, I 0, I 0, I 0, I 0, I 0] 97)) (w.heap.size + 1 + 1) 97 #[.slice A ws.length c, .slice B m d, I 0, I 0, I 0, I 0, I 0, I 0, I 0, I 0] := Bx.new' _ _ _ _ (by simp)
  go_enter Try.func71, Try.ntmps71
  go_wp2
  go_loopw [17] (fun i wr => ∃ k : Nat, i = I k ∧ k ≤ ws.length ∧ Bx wr (w.heap.size + 1) 97 #[.slice none 0 0, .slice none 0 0, I 0, I 0, I 0, I 0, I 0, I 0, I 0, I 0] ∧ Bx wr (w.heap.size + 1 + 1) 97 (parr (.slice A ws.length c) (.slice B m d) ws e k) ∧ Below w.heap.size w wr)
    (fun i _ => ws.length - (intOf i).toNat)
  case atStart => exact ⟨0, rfl, Nat.zero_le _, hb3, by rw [parr_none]; exact hb7, (((Below.refl _ _).alloc (Nat.le_refl _) _).alloc (by simp) _).alloc (by simp; omega) _⟩
  case round =>
    obtain ⟨k, rfl, hk, hx6, hx7, hbel⟩ := hrel
    clear hb3 hb7
    have hsz := hx7.lt
    by_cases hlt : k < ws.length
    · obtain ⟨b1, o1, rfl, hb1⟩ := SlW.some_ h1 hlt
      obtain ⟨c1, c2, c3, c4⟩ := SlW.cellG (h1.below hbel (Nat.le_refl _)) hlt
      have hk8 : (k : Int) < 8 := by omega
      have hix := fun W => index_end ws e k he hlt W
      have hbn := Bx.new wr 29 #[.string (gW ws k).name, I (gW ws k).len, I (gW ws k).lo, I (gW ws k).hi]
      have hcn := hbn.cell
      go_wp2_with fail
      refine (endsOf_c _ _ _).mono ?_
      rintro e1 w1 ⟨rfl, hbw1⟩
      have hx71 := (hx7.alloc (.cells #[.string (gW ws k).name, I (gW ws k).len, I (gW ws k).lo, I (gW ws k).hi] 29)).below hbw1 (by simp; omega)
      have hc7 := (hx71.cell (2 + k)).trans (parr_at _ _ ws e k (by omega))
      have hf7 := hx71.free (2 + k)
      clear hcn c1 c2 c3 c4 hx7 hbn h1
      go_wp2
      have hbel1 : Below w.heap.size w w1 := (hbel.alloc hbel.size (.cells #[.string (gW ws k).name, I (gW ws k).len, I (gW ws k).lo, I (gW ws k).hi] 29)).trans (hbw1.mono (by simp; have := hbel.size; omega))
      have hx61 := (hx6.alloc (.cells #[.string (gW ws k).name, I (gW ws k).len, I (gW ws k).lo, I (gW ws k).hi] 29)).below hbw1 (by simp; omega)
      go_roundw
      case rel => exact ⟨k + 1, by go_num, by omega, hx61.far (p := ⟨w.heap.size + 1 + 1, 2 + k, none⟩) (by simp) _, by rw [← parr_set _ _ ws e k (by omega)]; exact hx71.set_ _ _, hbel1.setCell (p := ⟨w.heap.size + 1 + 1, 2 + k, none⟩) (by simp only []; omega) _⟩
      case measure => simp [intOf]; omega
    · have hkk : k = ws.length := by omega
      subst hkk
      rw [parr_all] at hx7
      have hc7 := hx7.cell
      have hf6 := hx6.free
      have hc6 := hx6.cell
      go_wp2
      refine bodyPost_ret (v := tv A ws.length c B m d (endp ws e 0) (endp ws e 1) (endp ws e 2) (endp ws e 3) (endp ws e 4) (endp ws e 5) (endp ws e 6) (endp ws e 7)) (by simp [tv, results, Try.results71, go_sem, hc6]) rfl ⟨rfl, ?_⟩
      repeat (refine Below.setCell ?_ (by simp) _)
      exact hbel

set_option maxRecDepth 100000 in
set_option maxHeartbeats 2000000 in
theorem apart_c (r : Int) (A B : Option Addr) (c d : Nat) (ws : List Wg) (m : Nat) (k e : Nat) (T1 : TypeId) (w : World) (he : e = 0 ∨ e = 1) (h1 : SlW w T1 A ws) (hl1 : ws.length ≤ 8) (hk : k < ws.length) :
    Calls Try.prog 85 #[.agg #[I r, .slice A ws.length c], .slice B m d, I k, I e] w fun e' w' => e' = .returned (tv A ws.length c B m d (apl ws k e 0) (apl ws k e 1) (apl ws k e 2) (apl ws k e 3) (apl ws k e 4) (apl ws k e 5) (apl ws k e 6) (apl ws k e 7)) ∧ Below w.heap.size w w' := by
  have he' : 1 - e = 0 ∨ 1 - e = 1 := by omega
  have e1 : IntKind.i64.wrap (1 - (e : Int)) = ((1 - e : Nat) : Int) := by rw [IntWalk.i64_in _ (by omega)]; omega
  have e2 : (1 : Int) - (e : Int) = ((1 - e : Nat) : Int) := by omega
  obtain ⟨b1, o1, rfl, hb1⟩ := SlW.some_ h1 hk
  have hk8 : (k : Int) < 8 := by omega
  have hb0 := Bx.new w 24 #[I r, .slice (some ⟨b1, o1, none⟩) ws.length c]
  have hb8 : Bx ((w.alloc (.cells #[I r, .slice (some ⟨b1, o1, none⟩) ws.length c] 24)).alloc (.cells #[.slice none 0 0, .slice none 0 0, I 0, I 0, I 0, I 0, I 0, I 0, I 0, I 0] 97)) (w.heap.size + 1) 97 #[.slice none 0 0, .slice none 0 0, I 0, I 0, I 0, I 0, I 0, I 0, I 0, I 0] := Bx.new' _ _ _ _ (by simp)
  have hW0 : Below w.heap.size w ((w.alloc (.cells #[I r, .slice (some ⟨b1, o1, none⟩) ws.length c] 24)).alloc (.cells #[.slice none 0 0, .slice none 0 0, I 0, I 0, I 0, I 0, I 0, I 0, I 0, I 0] 97)) := ((Below.refl _ _).alloc (Nat.le_refl _) _).alloc (by simp) _
  have hcb := hb0.cell
  go_enter Try.func85, Try.ntmps85
  go_wp2_with fail
  refine (allAt_c r _ B c d ws m (1 - e) T1 _ he' (h1.below hW0 (Nat.le_refl _)) hl1).mono ?_
  rintro e0 w1 ⟨rfl, hbw1⟩
  have hW1 := hW0.trans (hbw1.mono hW0.size)
  have hsz1 := hbw1.size
  simp only [World.size_alloc] at hsz1
  have hb01 := (hb0.alloc (.cells #[.slice none 0 0, .slice none 0 0, I 0, I 0, I 0, I 0, I 0, I 0, I 0, I 0] 97)).below hbw1 (by simp; omega)
  have hb81 := hb8.below hbw1 (by simp)
  have hW1a : Below w.heap.size w (w1.alloc (.cells #[.slice (some ⟨b1, o1, none⟩) ws.length c, .slice B m d, I (endp ws (1 - e) 0), I (endp ws (1 - e) 1), I (endp ws (1 - e) 2), I (endp ws (1 - e) 3), I (endp ws (1 - e) 4), I (endp ws (1 - e) 5), I (endp ws (1 - e) 6), I (endp ws (1 - e) 7)] 97)) := hW1.alloc hW1.size _
  have hc01 := (hb01.alloc (.cells #[.slice (some ⟨b1, o1, none⟩) ws.length c, .slice B m d, I (endp ws (1 - e) 0), I (endp ws (1 - e) 1), I (endp ws (1 - e) 2), I (endp ws (1 - e) 3), I (endp ws (1 - e) 4), I (endp ws (1 - e) 5), I (endp ws (1 - e) 6), I (endp ws (1 - e) 7)] 97)).cell
  obtain ⟨c1, c2, c3, c4⟩ := SlW.cellG (h1.below hW1a (Nat.le_refl _)) hk
  have hb9 := Bx.new w1 97 #[.slice (some ⟨b1, o1, none⟩) ws.length c, .slice B m d, I (endp ws (1 - e) 0), I (endp ws (1 - e) 1), I (endp ws (1 - e) 2), I (endp ws (1 - e) 3), I (endp ws (1 - e) 4), I (endp ws (1 - e) 5), I (endp ws (1 - e) 6), I (endp ws (1 - e) 7)]
  clear e1 e2 hcb
  unfold tv
  go_wp2_with fail
  refine (endsOf_c _ _ _).mono ?_
  rintro e0 w2 ⟨rfl, hbw2⟩
  have hsz2 := hbw2.size
  simp only [World.size_alloc] at hsz2
  have hW2 : Below w.heap.size w w2 := (hW1.alloc hW1.size (.cells #[.slice (some ⟨b1, o1, none⟩) ws.length c, .slice B m d, I (endp ws (1 - e) 0), I (endp ws (1 - e) 1), I (endp ws (1 - e) 2), I (endp ws (1 - e) 3), I (endp ws (1 - e) 4), I (endp ws (1 - e) 5), I (endp ws (1 - e) 6), I (endp ws (1 - e) 7)] 97)).trans (hbw2.mono (by simp; omega))
  have hb82 := (hb81.alloc (.cells #[.slice (some ⟨b1, o1, none⟩) ws.length c, .slice B m d, I (endp ws (1 - e) 0), I (endp ws (1 - e) 1), I (endp ws (1 - e) 2), I (endp ws (1 - e) 3), I (endp ws (1 - e) 4), I (endp ws (1 - e) 5), I (endp ws (1 - e) 6), I (endp ws (1 - e) 7)] 97)).below hbw2 (by simp; omega)
  have hb92 := hb9.below hbw2 (by simp)
  have hc9 := (hb92.cell (2 + k)).trans (pget _ _ (endp ws (1 - e)) k (by omega))
  have hf9 := hb92.free (2 + k)
  have hix := fun W => index_end ws e k he hk W
  have hb93 := hb92.set_ (2 + k) (I (endp ws e k))
  rw [pset _ _ (endp ws (1 - e)) (endp ws e k) k (by omega)] at hb93
  change Bx _ _ _ #[.slice (some ⟨b1, o1, none⟩) ws.length c, .slice B m d, I (apl ws k e 0), I (apl ws k e 1), I (apl ws k e 2), I (apl ws k e 3), I (apl ws k e 4), I (apl ws k e 5), I (apl ws k e 6), I (apl ws k e 7)] at hb93
  have hc93 := hb93.cell
  have hc82 := hb82.cell
  have hf82 := hb82.free
  clear c1 c2 c3 c4 hc01
  generalize hk9 : w1.heap.size = k9 at *
  go_wp2
  refine bodyPost_ret (v := tv (some ⟨b1, o1, none⟩) ws.length c B m d (apl ws k e 0) (apl ws k e 1) (apl ws k e 2) (apl ws k e 3) (apl ws k e 4) (apl ws k e 5) (apl ws k e 6) (apl ws k e 7)) (by simp [tv, results, Try.results85, go_sem, hc82]) rfl ⟨rfl, ?_⟩
  repeat (refine Below.setCell ?_ (by simp only []; omega) _)
  exact hW2

theorem eps_los (ws : List Wg) (h : ws.length ≤ 8) : ∀ k, k < ws.length → gI (eps ws 0) k = gI (los ws) k := fun k hk => by
  rw [gI_eps _ _ _ (by omega), gI_los _ _ hk]
  unfold endp
  rw [if_pos hk]
  rfl
theorem eps_his (ws : List Wg) (h : ws.length ≤ 8) : ∀ k, k < ws.length → gI (eps ws 1) k = gI (his ws) k := fun k hk => by
  rw [gI_eps _ _ _ (by omega), gI_his _ _ hk]
  unfold endp
  rw [if_pos hk]
  rfl

set_option maxHeartbeats 1000000 in
theorem leastStart_c (r : Int) (A B : Option Addr) (c d : Nat) (ws : List Wg) (sts : List Int) (T1 T2 : TypeId) (w : World) (h1 : SlW w T1 A ws) (h2 : SlI w T2 B sts) (hs : ∀ i, sts.length = i + 1 → Sm ws sts (los ws) i) (hl1 : ws.length ≤ 8) :
    Calls Try.prog 65 #[.agg #[I r, .slice A ws.length c], .slice B sts.length d] w fun e w' => e = .returned (I (leastOf ws sts sts.length)) ∧ Below w.heap.size w w' := by
  have hW0 : Below w.heap.size w (w.alloc (.cells #[I r, .slice A ws.length c] 24)) := (Below.refl _ _).alloc (Nat.le_refl _) _
  rcases hn : sts.length with _ | i
  · have hz : (((0 : Nat) : Int) == 0) = true := rfl
    clear hn
    go_enter Try.func65, Try.ntmps65
    go_wp2
    go_ret
    exact ⟨rfl, hW0⟩
  · have hsm := hs i hn
    have hsm' := hsm
    obtain ⟨hw1, hw2, hw3, hw4, hk⟩ := hsm'
    have hki := hk i (Nat.le_refl _)
    have hsm2 : Sm ws sts (eps ws 0) i := hsm.congr (by simp [eps]; omega) (fun k hk => (eps_los ws hl1 k (by omega)).symm)
    have hb0 := Bx.new w 24 #[I r, .slice A ws.length c]
    have hcb := hb0.cell
    rw [← hn]
    have hz : ((sts.length : Int) == 0) = false := beq_eq_false_iff_ne.2 (by omega)
    have hlen : (sts.length : Int) - 1 = (i : Int) := by omega
    have e1 : IntKind.i64.wrap (i : Int) = i := IntWalk.i64_in _ (by omega)
    have hn' := Lib.hid hn
    clear hn
    go_enter Try.func65, Try.ntmps65
    go_wp2_with fail
    refine (allAt_c r _ B c d ws _ 0 T1 _ (.inl rfl) (h1.below hW0 (Nat.le_refl _)) hl1).mono ?_
    rintro e0 w1 ⟨rfl, hbw1⟩
    have hW1 := hW0.trans (hbw1.mono hW0.size)
    go_wp2_with fail
    refine (leaves_c _ B c d (endp ws 0 0) (endp ws 0 1) (endp ws 0 2) (endp ws 0 3) (endp ws 0 4) (endp ws 0 5) (endp ws 0 6) (endp ws 0 7) ws sts i T1 T2 _ (h1.below hW1 (Nat.le_refl _)) (h2.below hW1 (Nat.le_refl _)) hsm2 (by omega) (by unfold maxLen; have := hn'.out; omega) 0 (by omega) (by omega)).mono ?_
    rintro e0 w2 ⟨rfl, hbw2⟩
    go_wp2
    go_ret
    refine ⟨?_, hW1.trans (hbw2.mono hW1.size)⟩
    rw [hn'.out]
    refine ret_int ?_
    exact passed_congr _ fun k hk => eps_los ws hl1 k (by omega)
end Go.Proofs.Ytnihkgdkdinliaa
