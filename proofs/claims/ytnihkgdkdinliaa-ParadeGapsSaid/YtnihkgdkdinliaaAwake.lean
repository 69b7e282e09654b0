/- awake: the examples of the chapter that every statement checks. Own work. -/
import Derived.Test.YtnihkgdkdinliaaLasts
import Derived.Test.YtnihkgdkdinliaaLeast
import Derived.Test.YtnihkgdkdinliaaKitA
import Derived.Test.YtnihkgdkdinliaaRegionC
namespace Go.Proofs.Ytnihkgdkdinliaa
open Go.RowKit
set_option linter.unusedVariables false
set_option linter.unusedSimpArgs false

set_option maxHeartbeats 400000 in
theorem span_c (a b : Int) (w : World) :
    Calls Try.prog 61 #[I a, I b] w fun e w' => e = .returned (Sp a b) ∧ Below w.heap.size w w' := by
  go_enter Try.func61, Try.ntmps61
  go_wp2
  refine bodyPost_ret (v := Sp a b) (by simp [results, Try.results61, go_sem]) rfl ⟨rfl, ?_⟩
  exact (Below.refl _ _).alloc (Nat.le_refl _) _

set_option maxHeartbeats 400000 in
theorem rules_c (w : World) :
    Calls Try.prog 60 #[] w fun e w' => e = .returned (.agg #[I 30, I 60, I 150]) ∧ Below w.heap.size w w' := by
  go_enter Try.func60, Try.ntmps60
  go_wp2
  refine bodyPost_ret (v := .agg #[I 30, I 60, I 150]) (by simp [results, Try.results60, go_sem]) rfl ⟨rfl, ?_⟩
  exact (Below.refl _ _).alloc (Nat.le_refl _) _

def sambaW : List Wg := [⟨⟨#[102, 114, 111, 110, 116]⟩, 100, 40, 50⟩, ⟨⟨#[100, 114, 117, 109, 115]⟩, 200, 50, 60⟩, ⟨⟨#[98, 97, 99, 107]⟩, 100, 30, 50⟩]

set_option maxHeartbeats 400000 in
theorem samba_c (w : World) :
    Calls Try.prog 59 #[] w fun e w' => ∃ A, e = .returned (.agg #[I 1000, .slice A 3 3]) ∧ SlW w' 29 A sambaW ∧ Below w.heap.size w w' := by
  have hb0 := Bx.new w 24 #[I 0, .slice none 0 0]
  have hW0 : Below w.heap.size w (w.alloc (.cells #[I 0, .slice none 0 0] 24)) := (Below.refl _ _).alloc (Nat.le_refl _) _
  go_enter Try.func59, Try.ntmps59
  go_wp2_with fail
  refine (span_c 40 50 _).mono ?_
  rintro e w1 ⟨rfl, hb1⟩
  have hB1 := hW0.trans (hb1.mono hW0.size)
  have hx1 := hb0.below hb1 hb0.lt
  clear hb1 hb0 hW0
  go_wp2_with fail
  refine (span_c 50 60 _).mono ?_
  rintro e w2 ⟨rfl, hb2⟩
  have hB2 := hB1.trans (hb2.mono hB1.size)
  have hx2 := hx1.below hb2 hx1.lt
  clear hb2 hx1 hB1
  go_wp2_with fail
  refine (span_c 30 50 _).mono ?_
  rintro e w3 ⟨rfl, hb3⟩
  have hB3 := hB2.trans (hb3.mono hB2.size)
  have hx3 := hx2.below hb3 hx2.lt
  clear hb3 hx2 hB2
  have hc3 := hx3.cell
  have hf3 := hx3.free
  have hlt3 := hx3.lt
  go_wp2
  have hx4 := (hx3.set_ 0 (I 1000)).set_ 1 (.slice (some ⟨w3.heap.size, 0, none⟩) 3 3)
  refine bodyPost_ret (v := .agg #[I 1000, .slice (some ⟨w3.heap.size, 0, none⟩) 3 3]) (by simp [results, Try.results59, go_sem, hlt3, hc3]) rfl ⟨_, rfl, ?_, ?_⟩
  · exact Sl.ofBx (Bx.new' _ 29 (sambaW.flatMap Wg.cells).toArray _ (by simp))
  · exact ((hB3.setCell (p := ⟨w.heap.size, 0, none⟩) (Nat.le_refl _) _).setCell (p := ⟨w.heap.size, 1, none⟩) (Nat.le_refl _) _).alloc (by simp; exact hB3.size) _

theorem chk_samba : chk 1000 sambaW = 0 := by decide +kernel
theorem lst_samba : lstF sambaW sambaW.length [] = some [0, 3, 8] := by decide +kernel
theorem mom_samba : mom 1000 sambaW [0, 3, 8] 1 10 = 0 := by decide +kernel
theorem wlo_samba : whLo 1000 sambaW [0, 3, 8] 1 10 = 300 := by decide +kernel
theorem whi_samba : whHi 1000 sambaW [0, 3, 8] 1 10 = 400 := by decide +kernel
theorem lae_samba : laE 1000 sambaW [0, 3, 8] 30 60 150 = 0 := by decide +kernel
theorem lav_samba : laV 1000 sambaW [0, 3, 8] 30 60 150 = 1 := by decide +kernel
theorem lal_samba : laLo 1000 sambaW [0, 3, 8] 30 60 150 = 30 := by decide +kernel
theorem lah_samba : laHi 1000 sambaW [0, 3, 8] 30 60 150 = 45 := by decide +kernel
theorem fit_samba : Fit sambaW := by
  intro g hg
  simp only [sambaW, List.mem_cons, List.not_mem_nil, or_false] at hg
  rcases hg with rfl | rfl | rfl <;> decide

theorem least_samba {w w' : World} {e : Ending} (h : LeastPost 1000 sambaW w e w') : ∃ B d, e = .returned (.tuple #[.slice B 3 d, I 0]) ∧ SlI w' 3 B [0, 3, 8] ∧ Below w.heap.size w w' := by
  obtain ⟨h1, h2⟩ := h
  rw [if_neg (by rw [chk_samba]; simp), lst_samba] at h2
  obtain ⟨B, d, rfl, hs⟩ := h2
  exact ⟨B, d, rfl, hs, h1⟩

set_option maxRecDepth 100000 in
set_option maxHeartbeats 1000000 in
theorem awake_c (w : World) :
    Calls Try.prog 14 #[] w fun e w' => e = .returned (.bool true) ∧ Below w.heap.size w w' := by
  go_enter Try.func14, Try.ntmps14
  go_wp2_with fail
  refine (samba_c _).mono ?_
  rintro e w1 ⟨A1, rfl, hs1, hb1⟩
  go_wp2_with fail
  refine (least_c 1000 A1 3 sambaW 29 _ hs1 fit_samba (by decide) (by decide)).mono ?_
  intro e w2 hp2
  obtain ⟨B1, c1, rfl, hl2, hb2⟩ := least_samba hp2
  have hB2 := hb1.trans (hb2.mono hb1.size)
  clear hp2 hb1 hb2 hs1
  go_wp2_with fail
  refine (samba_c _).mono ?_
  rintro e w3 ⟨A2, rfl, hs3, hb3⟩
  have hB3 := hB2.trans (hb3.mono hB2.size)
  have hl3 := hl2.below hb3 (Nat.le_refl _)
  clear hB2 hb3 hl2
  go_wp2_with fail
  have hal := (Below.refl w3.heap.size w3).alloc (Nat.le_refl _) (.cells #[I 0, I 3, I 8] 3)
  refine (where_c 1000 A2 _ 3 3 sambaW [0, 3, 8] 29 3 _ (hs3.alloc _) (Sl.ofBx (Bx.new w3 3 #[I 0, I 3, I 8])) fit_samba (by decide) (by decide) (by decide) (by decide) 1 10).mono ?_
  rintro e w4 ⟨rfl, hb4⟩
  have hB4 := (hB3.trans (hal.mono hB3.size)).trans (hb4.mono (by have := hB3.size; simp; omega))
  have hl4 := (hl3.alloc (.cells #[I 0, I 3, I 8] 3)).below hb4 (Nat.le_refl _)
  clear hB3 hal hb4 hl3 hs3
  rw [mom_samba, wlo_samba, whi_samba]
  go_wp2_with fail
  refine (samba_c _).mono ?_
  rintro e w5 ⟨A3, rfl, hs5, hb5⟩
  have hx3 := (Bx.new w4 27 #[I 300, I 400])
  have hx5 := hx3.below hb5 hx3.lt
  have hB5 := (hB4.alloc hB4.size (.cells #[I 300, I 400] 27)).trans (hb5.mono (by have := hB4.size; simp; omega))
  have hl5 := (hl4.alloc (.cells #[I 300, I 400] 27)).below hb5 (Nat.le_refl _)
  clear hx3 hb5 hB4 hl4
  generalize w4.heap.size = k3 at *
  go_wp2_with fail
  refine (rules_c _).mono ?_
  rintro e w6 ⟨rfl, hb6⟩
  have hal := ((Below.refl w5.heap.size w5).alloc (Nat.le_refl _) (.cells #[I 0, I 3, I 8] 3)).trans (hb6.mono (by simp))
  have hs6 := hs5.below hal (Nat.le_refl _)
  have ha6 := (Sl.ofBx (Bx.new w5 3 #[I 0, I 3, I 8])).below hb6 (Nat.le_refl _)
  have hx6 := hx5.below hal hx5.lt
  have hl6 := hl5.below hal (Nat.le_refl _)
  have hB6 := hB5.trans (hal.mono hB5.size)
  clear hb6 hal hs5 hx5 hl5 hB5
  go_wp2_with fail
  refine (lastsP_c 1000 A3 _ 3 3 sambaW [0, 3, 8] 29 3 _ hs6 ha6 fit_samba (by decide) (by decide) (by decide) (by decide) 30 60 150).mono ?_
  rintro e w7 ⟨rfl, hb7⟩
  have hx7 := hx6.below hb7 hx6.lt
  have hl7 := hl6.below hb7 (Nat.le_refl _)
  have hB7 := hB6.trans (hb7.mono hB6.size)
  clear hb7 hs6 ha6 hx6 hl6 hB6
  rw [lae_samba, lav_samba, lal_samba, lah_samba]
  go_wp2_with fail
  have hb3 : Bx (w7.alloc (.cells #[I 30, I 45] 27)) k3 27 #[I 300, I 400] := hx7.alloc _
  have hb6 := Bx.new w7 27 #[I 30, I 45]
  have hs1 := hl7.alloc (.cells #[I 30, I 45] 27)
  have hB9 := hB7.alloc hB7.size (.cells #[I 30, I 45] 27)
  clear hx7 hl7 hB7
  generalize w7.heap.size = k6 at *
  generalize w7.alloc (.cells #[I 30, I 45] 27) = w9 at *
  refine wp_region_list_g (by kernel_rfl) (R := RB (w9.heap.size) w9) (F := FB) [] []
      [As.is _ _ (I 0),
      As.is _ _ (.bool true),
      As.is _ _ (.bool true),
      As.is _ _ (I 0),
      As.is _ _ (.bool true),
      As.is _ _ (.bool true),
      As.is _ _ (.bool true),
      As.is _ _ (I 0),
      As.is _ _ (.bool true),
      As.is _ _ (.bool true),
      As.is _ _ (.bool true),
      As.is _ _ (.slice B1 3 c1),
      As.sli _ _ 3 [0, 3, 8],
      As.is _ _ (.bool true),
      As.is _ _ (.bool true),
      As.is _ _ (.bool true),
      As.is _ _ (Sp 300 400),
      As.is _ _ (Sp 300 400),
      As.is _ _ (.bool true),
      As.is _ _ (.bool true),
      As.is _ _ (.bool true),
      As.is _ _ (I 1),
      As.is _ _ (.bool true),
      As.is _ _ (.bool true),
      As.is _ _ (.bool true),
      As.is _ _ (Sp 30 45),
      As.is _ _ (Sp 30 45),
      As.is _ _ (.bool true),
      As.is _ _ (.bool true)] 56 (by kernel_rfl) rfl ((Below.refl _ _).drew) (by simp) ?_ (fun _ => Below.refl _ _) ?_ ?_ ?_
  · intro i hi o ho k b hg u w' hR hu
    match i, hi, ho with
    | 0, _, ho => cases ho; cases hg
    | 1, _, ho => cases ho; cases hg
    | 2, _, ho => cases ho; cases hg
    | 3, _, ho => cases ho; cases hg; exact hu.trans (by simp)
    | 4, _, ho => cases ho; cases hg; exact hu.trans (by simp)
    | 5, _, ho => cases ho; cases hg
    | 6, _, ho => cases ho; cases hg
    | 7, _, ho => cases ho; cases hg; exact hu.trans (by simp)
    | 8, _, ho => cases ho; cases hg; exact hu.trans (by simp)
    | 9, _, ho => cases ho; cases hg
    | 10, _, ho => cases ho; cases hg
    | 11, _, ho => cases ho; cases hg; exact hu.trans (by simp)
    | 12, _, ho => cases ho; cases hg; exact hu.trans (by simp)
    | 13, _, ho => cases ho; cases hg; exact hu.trans (by simp)
    | 14, _, ho => cases ho; cases hg
    | 15, _, ho => cases ho; cases hg
    | 16, _, ho => cases ho; cases hg; exact hu.trans (by simp)
    | 17, _, ho => cases ho; cases hg; exact hu.trans (by simp)
    | 18, _, ho => cases ho; cases hg; exact hu.trans (by simp)
    | 19, _, ho => cases ho; cases hg
    | 20, _, ho => cases ho; cases hg
    | 21, _, ho => cases ho; cases hg; exact hu.trans (by simp)
    | 22, _, ho => cases ho; cases hg; exact hu.trans (by simp)
    | 23, _, ho => cases ho; cases hg
    | 24, _, ho => cases ho; cases hg
    | 25, _, ho => cases ho; cases hg; exact hu.trans (by simp)
    | 26, _, ho => cases ho; cases hg; exact hu.trans (by simp)
    | 27, _, ho => cases ho; cases hg; exact hu.trans (by simp)
    | 28, _, ho => cases ho; cases hg
    | n + 29, hi, _ => exact absurd hi (by simp)
  · intro i hi hsk; cases hsk
  · intro i hi hsk o ho ev w' hR hc hf hg hs hd
    match i, hi, ho with
    | 0, _, ho =>
      clear hsk
      cases ho
      have e2 : ev (.tmp 2) = I 0 := hs 2 (by kernel_rfl)
      go_simp
      first | exact ⟨rfl, hR, Below.refl _ _⟩ | exact ⟨⟨rfl, fun h => absurd h (by decide)⟩, hR, Below.refl _ _⟩
    | 1, _, ho =>
      clear hsk
      cases ho
      have e27 : ev (.tmp 27) = I 0 := hd 0 27 (by kernel_rfl)
      go_simp
      first | exact ⟨rfl, hR, Below.refl _ _⟩ | exact ⟨⟨rfl, fun h => absurd h (by decide)⟩, hR, Below.refl _ _⟩
    | 2, _, ho =>
      clear hsk
      cases ho
      have e28 : ev (.tmp 28) = .bool true := hd 1 28 (by kernel_rfl)
      go_simp
      first | exact ⟨rfl, hR, Below.refl _ _⟩ | exact ⟨⟨rfl, fun h => absurd h (by decide)⟩, hR, Below.refl _ _⟩
    | 3, _, ho =>
      clear hsk
      cases ho
      have e4 : ev (.tmp 4) = I 0 := hs 4 (by kernel_rfl)
      go_simp
      first | exact ⟨rfl, hR, Below.refl _ _⟩ | exact ⟨⟨rfl, fun h => absurd h (by decide)⟩, hR, Below.refl _ _⟩
    | 4, _, ho =>
      clear hsk
      cases ho
      have e30 : ev (.tmp 30) = I 0 := hd 3 30 (by kernel_rfl)
      go_simp
      first | exact ⟨rfl, hR, Below.refl _ _⟩ | exact ⟨⟨rfl, fun h => absurd h (by decide)⟩, hR, Below.refl _ _⟩
    | 5, _, ho =>
      clear hsk
      cases ho
      have e29 : ev (.tmp 29) = .bool true := hd 2 29 (by kernel_rfl)
      have e31 : ev (.tmp 31) = .bool true := hd 4 31 (by kernel_rfl)
      go_simp
      first | exact ⟨rfl, hR, Below.refl _ _⟩ | exact ⟨⟨rfl, fun h => absurd h (by decide)⟩, hR, Below.refl _ _⟩
    | 6, _, ho =>
      clear hsk
      cases ho
      have e32 : ev (.tmp 32) = .bool true := hd 5 32 (by kernel_rfl)
      go_simp
      first | exact ⟨rfl, hR, Below.refl _ _⟩ | exact ⟨⟨rfl, fun h => absurd h (by decide)⟩, hR, Below.refl _ _⟩
    | 7, _, ho =>
      clear hsk
      cases ho
      have e7 : ev (.tmp 7) = I 0 := hs 7 (by kernel_rfl)
      go_simp
      first | exact ⟨rfl, hR, Below.refl _ _⟩ | exact ⟨⟨rfl, fun h => absurd h (by decide)⟩, hR, Below.refl _ _⟩
    | 8, _, ho =>
      clear hsk
      cases ho
      have e34 : ev (.tmp 34) = I 0 := hd 7 34 (by kernel_rfl)
      go_simp
      first | exact ⟨rfl, hR, Below.refl _ _⟩ | exact ⟨⟨rfl, fun h => absurd h (by decide)⟩, hR, Below.refl _ _⟩
    | 9, _, ho =>
      clear hsk
      cases ho
      have e33 : ev (.tmp 33) = .bool true := hd 6 33 (by kernel_rfl)
      have e35 : ev (.tmp 35) = .bool true := hd 8 35 (by kernel_rfl)
      go_simp
      first | exact ⟨rfl, hR, Below.refl _ _⟩ | exact ⟨⟨rfl, fun h => absurd h (by decide)⟩, hR, Below.refl _ _⟩
    | 10, _, ho =>
      clear hsk
      cases ho
      have e36 : ev (.tmp 36) = .bool true := hd 9 36 (by kernel_rfl)
      go_simp
      first | exact ⟨rfl, hR, Below.refl _ _⟩ | exact ⟨⟨rfl, fun h => absurd h (by decide)⟩, hR, Below.refl _ _⟩
    | 11, _, ho =>
      clear hsk
      cases ho
      have e1 : ev (.tmp 1) = .slice B1 3 c1 := hs 1 (by kernel_rfl)
      go_simp
      first | exact ⟨rfl, hR, Below.refl _ _⟩ | exact ⟨⟨rfl, fun h => absurd h (by decide)⟩, hR, Below.refl _ _⟩
    | 12, _, ho =>
      clear hsk
      cases ho
      go_simp
      exact ⟨⟨_, _, rfl, Sl.ofBx (Bx.new w' 3 #[I 0, I 3, I 8])⟩, hR.alloc hR.size _, (Below.refl _ _).alloc (Nat.le_refl _) _⟩
    | 13, _, ho =>
      clear hsk
      cases ho
      have e38 : ev (.tmp 38) = .slice B1 3 c1 := hd 11 38 (by kernel_rfl)
      obtain ⟨A39, c39, e39, s39⟩ : ∃ A c, ev (.tmp 39) = .slice A 3 c ∧ SlI w' 3 A [0, 3, 8] := hd 12 39 (by kernel_rfl)
      go_simp
      refine (eqInts_c B1 A39 c1 c39 [0, 3, 8] [0, 3, 8] 3 3 _ (hs1.below hR (Nat.le_refl _)) s39 (by decide) (by decide)).mono ?_
      rintro e wz ⟨rfl, hwz⟩
      first | exact ⟨rfl, hR.trans (hwz.mono hR.size), hwz⟩ | exact ⟨⟨rfl, fun h => absurd h (by decide)⟩, hR.trans (hwz.mono hR.size), hwz⟩
    | 14, _, ho =>
      clear hsk
      cases ho
      have e37 : ev (.tmp 37) = .bool true := hd 10 37 (by kernel_rfl)
      have e40 : ev (.tmp 40) = .bool true := hd 13 40 (by kernel_rfl)
      go_simp
      first | exact ⟨rfl, hR, Below.refl _ _⟩ | exact ⟨⟨rfl, fun h => absurd h (by decide)⟩, hR, Below.refl _ _⟩
    | 15, _, ho =>
      clear hsk
      cases ho
      have e41 : ev (.tmp 41) = .bool true := hd 14 41 (by kernel_rfl)
      go_simp
      first | exact ⟨rfl, hR, Below.refl _ _⟩ | exact ⟨⟨rfl, fun h => absurd h (by decide)⟩, hR, Below.refl _ _⟩
    | 16, _, ho =>
      clear hsk
      cases ho
      have e3 : ev (.tmp 3) = .pointer (some ⟨k3, 0, none⟩) := hs 3 (by kernel_rfl)
      have m3 := (hb3.below hR hb3.lt).cell
      go_simp
      first | exact ⟨rfl, hR, Below.refl _ _⟩ | exact ⟨⟨rfl, fun h => absurd h (by decide)⟩, hR, Below.refl _ _⟩
    | 17, _, ho =>
      clear hsk
      cases ho
      go_simp
      refine (span_c 300 400 _).mono ?_
      rintro e wz ⟨rfl, hwz⟩
      first | exact ⟨rfl, hR.trans (hwz.mono hR.size), hwz⟩ | exact ⟨⟨rfl, fun h => absurd h (by decide)⟩, hR.trans (hwz.mono hR.size), hwz⟩
    | 18, _, ho =>
      clear hsk
      cases ho
      have e43 : ev (.tmp 43) = Sp 300 400 := hd 16 43 (by kernel_rfl)
      have e44 : ev (.tmp 44) = Sp 300 400 := hd 17 44 (by kernel_rfl)
      go_simp
      first | exact ⟨rfl, hR, Below.refl _ _⟩ | exact ⟨⟨rfl, fun h => absurd h (by decide)⟩, hR, Below.refl _ _⟩
    | 19, _, ho =>
      clear hsk
      cases ho
      have e42 : ev (.tmp 42) = .bool true := hd 15 42 (by kernel_rfl)
      have e45 : ev (.tmp 45) = .bool true := hd 18 45 (by kernel_rfl)
      go_simp
      first | exact ⟨rfl, hR, Below.refl _ _⟩ | exact ⟨⟨rfl, fun h => absurd h (by decide)⟩, hR, Below.refl _ _⟩
    | 20, _, ho =>
      clear hsk
      cases ho
      have e46 : ev (.tmp 46) = .bool true := hd 19 46 (by kernel_rfl)
      go_simp
      first | exact ⟨rfl, hR, Below.refl _ _⟩ | exact ⟨⟨rfl, fun h => absurd h (by decide)⟩, hR, Below.refl _ _⟩
    | 21, _, ho =>
      clear hsk
      cases ho
      have e5 : ev (.tmp 5) = I 1 := hs 5 (by kernel_rfl)
      go_simp
      first | exact ⟨rfl, hR, Below.refl _ _⟩ | exact ⟨⟨rfl, fun h => absurd h (by decide)⟩, hR, Below.refl _ _⟩
    | 22, _, ho =>
      clear hsk
      cases ho
      have e48 : ev (.tmp 48) = I 1 := hd 21 48 (by kernel_rfl)
      go_simp
      first | exact ⟨rfl, hR, Below.refl _ _⟩ | exact ⟨⟨rfl, fun h => absurd h (by decide)⟩, hR, Below.refl _ _⟩
    | 23, _, ho =>
      clear hsk
      cases ho
      have e47 : ev (.tmp 47) = .bool true := hd 20 47 (by kernel_rfl)
      have e49 : ev (.tmp 49) = .bool true := hd 22 49 (by kernel_rfl)
      go_simp
      first | exact ⟨rfl, hR, Below.refl _ _⟩ | exact ⟨⟨rfl, fun h => absurd h (by decide)⟩, hR, Below.refl _ _⟩
    | 24, _, ho =>
      clear hsk
      cases ho
      have e50 : ev (.tmp 50) = .bool true := hd 23 50 (by kernel_rfl)
      go_simp
      first | exact ⟨rfl, hR, Below.refl _ _⟩ | exact ⟨⟨rfl, fun h => absurd h (by decide)⟩, hR, Below.refl _ _⟩
    | 25, _, ho =>
      clear hsk
      cases ho
      have e6 : ev (.tmp 6) = .pointer (some ⟨k6, 0, none⟩) := hs 6 (by kernel_rfl)
      have m6 := (hb6.below hR hb6.lt).cell
      go_simp
      first | exact ⟨rfl, hR, Below.refl _ _⟩ | exact ⟨⟨rfl, fun h => absurd h (by decide)⟩, hR, Below.refl _ _⟩
    | 26, _, ho =>
      clear hsk
      cases ho
      go_simp
      refine (span_c 30 45 _).mono ?_
      rintro e wz ⟨rfl, hwz⟩
      first | exact ⟨rfl, hR.trans (hwz.mono hR.size), hwz⟩ | exact ⟨⟨rfl, fun h => absurd h (by decide)⟩, hR.trans (hwz.mono hR.size), hwz⟩
    | 27, _, ho =>
      clear hsk
      cases ho
      have e52 : ev (.tmp 52) = Sp 30 45 := hd 25 52 (by kernel_rfl)
      have e53 : ev (.tmp 53) = Sp 30 45 := hd 26 53 (by kernel_rfl)
      go_simp
      first | exact ⟨rfl, hR, Below.refl _ _⟩ | exact ⟨⟨rfl, fun h => absurd h (by decide)⟩, hR, Below.refl _ _⟩
    | 28, _, ho =>
      clear hsk
      cases ho
      have e51 : ev (.tmp 51) = .bool true := hd 24 51 (by kernel_rfl)
      have e54 : ev (.tmp 54) = .bool true := hd 27 54 (by kernel_rfl)
      go_simp
      first | exact ⟨rfl, hR, Below.refl _ _⟩ | exact ⟨⟨rfl, fun h => absurd h (by decide)⟩, hR, Below.refl _ _⟩
    | n + 29, hi, _ => exact absurd hi (by simp)
  · intro ρ wE hR hρ hne K hK
    have p28 : ρ 28 = .bool true := hρ 28 (by simp)
    clear hρ hne
    show K (putAll _ _ ρ 29) _
    simp only [putAll, dOf, List.getElem?_toArray, List.getElem?_cons_zero, List.getElem?_cons_succ, Option.bind_some, Act.put, List.setIfInBounds_toArray, List.set_cons_zero, List.set_cons_succ]
    rw [p28]
    refine hK _ _ ?_
    change wpList _ _ _ [_] _ _
    clear hK K p28
    go_wp2
    go_ret
    exact ⟨rfl, hB9.trans (hR.mono hB9.size)⟩
end Go.Proofs.Ytnihkgdkdinliaa
