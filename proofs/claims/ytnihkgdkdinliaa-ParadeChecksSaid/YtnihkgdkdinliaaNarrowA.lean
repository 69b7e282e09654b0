/- Copies of schools; narrower paces of a drum. Own work. -/
import Derived.Test.YtnihkgdkdinliaaNarrowM
namespace Go.Proofs.Ytnihkgdkdinliaa
open Go.RowKit
set_option linter.unusedVariables false
set_option linter.unusedSimpArgs false

/-- A block of wings that reads so. -/
def WB (w : World) (b : Nat) (us : List Wg) : Prop := ∃ cs fz, w.heap[b]? = some (.cells cs 29 fz) ∧ fz = (0, 0) ∧ ∀ (j : Nat) (u : Value), (us.flatMap Wg.cells)[j]? = some u → cs[j]? = some u
theorem WB.lt {w : World} {b : Nat} {us : List Wg} (h : WB w b us) : b < w.heap.size := by obtain ⟨_, _, h, _⟩ := h; exact lt_of_heap h
theorem WB.sl {w : World} {b : Nat} {us : List Wg} (h : WB w b us) : SlW w 29 (some ⟨b, 0, none⟩) us := by
  obtain ⟨cs, fz, h1, _, h2⟩ := h
  exact .inr ⟨b, 0, cs, fz, rfl, h1, fun j u hu => by simpa using h2 j u hu⟩
theorem WB.free {w : World} {b : Nat} {us : List Wg} (h : WB w b us) : ∀ j, w.frozen? ⟨b, j, none⟩ = false := by
  obtain ⟨cs, fz, h1, rfl, h2⟩ := h
  intro j; simp [World.frozen?, h1]
theorem WB.same {w w' : World} {b : Nat} {us : List Wg} (h : WB w b us) (e : w'.heap[b]? = w.heap[b]?) : WB w' b us := by
  obtain ⟨cs, fz, h1, h2, h3⟩ := h; exact ⟨cs, fz, e.trans h1, h2, h3⟩
theorem WB.below {w w' : World} {b : Nat} {us : List Wg} (h : WB w b us) (hb : Below w.heap.size w w') : WB w' b us := h.same (hb.block b h.lt)
theorem WB.kp {w w' : World} {b d : Nat} {us : List Wg} (h : WB w b us) (hk : w.grownBy w' (some d)) (hne : b ≠ d) : WB w' b us := h.same (hk.block b h.lt (fun e => hne (by injection e)))
theorem WB.put {w : World} {b : Nat} {us : List Wg} (h : WB w b us) {i : Nat} (hi : i < us.length) (x y : Int) :
    WB ((w.setCell ⟨b, i * 4 + 2, none⟩ (I x)).setCell ⟨b, i * 4 + 3, none⟩ (I y)) b (us.set i ⟨(gW us i).name, (gW us i).len, x, y⟩) := by
  obtain ⟨cs, fz, h1, h2, h3⟩ := h
  obtain ⟨cs', e1, e2⟩ := SlW.pace h1 h3 hi x y
  exact ⟨cs', fz, e1, h2, e2⟩

set_option maxRecDepth 100000 in
set_option maxHeartbeats 1000000 in
theorem ownSchool_c (r : Int) (A : Option Addr) (c : Nat) (ws : List Wg) (w : World) (h1 : SlW w 29 A ws) (hn : 1 ≤ ws.length) (h8 : ws.length ≤ 8) :
    Calls Try.prog 18 #[.agg #[I r, .slice A ws.length c]] w fun e w' => ∃ q c', e = .returned (.agg #[I r, .slice (some ⟨q, 0, none⟩) ws.length c']) ∧ w.heap.size ≤ q ∧ WB w' q ws ∧ ws.length ≤ c' ∧ Below w.heap.size w w' := by
  obtain ⟨b1, o1, rfl, hb1⟩ := SlW.some_ h1 (show 0 < ws.length by omega)
  have x1 := (Bx.new w 24 #[I r, .slice (some ⟨b1, o1, none⟩) ws.length c]).alloc (.cells #[I 0, .slice none 0 0] 24)
  have x2 := Bx.new' (w.alloc (.cells #[I r, .slice (some ⟨b1, o1, none⟩) ws.length c] 24)) 24 #[I 0, .slice none 0 0] (w.heap.size + 1) (by simp)
  have hW := ((Below.refl w.heap.size w).alloc (Nat.le_refl _) (.cells #[I r, .slice (some ⟨b1, o1, none⟩) ws.length c] 24)).alloc (by simp) (.cells #[I 0, .slice none 0 0] 24)
  have hc1 := x1.cell
  go_enter Try.func18, Try.ntmps18
  obtain ⟨i0, hi0, hz0, hz1, hz2⟩ := info_parts infoWing
  have hsz : ((w.alloc (.cells #[I r, .slice (some ⟨b1, o1, none⟩) ws.length c] 24)).alloc (.cells #[I 0, .slice none 0 0] 24)).heap.size = w.heap.size + 2 := by simp
  have hnews : ∀ j u, (ws.flatMap Wg.cells)[j]? = some u → (((w.alloc (.cells #[I r, .slice (some ⟨b1, o1, none⟩) ws.length c] 24)).alloc (.cells #[I 0, .slice none 0 0] 24)).alloc (.cells #[] 29)).cell? ((⟨b1, o1, none⟩ : Addr).add j) = some u := fun j u hu => by
    have h3 : SlW (((w.alloc (.cells #[I r, .slice (some ⟨b1, o1, none⟩) ws.length c] 24)).alloc (.cells #[I 0, .slice none 0 0] 24)).alloc (.cells #[] 29)) 29 (some ⟨b1, o1, none⟩) ws := ((h1.alloc _).alloc _).alloc _
    have e : (⟨b1, o1, none⟩ : Addr).add j = ⟨b1, o1 + j, none⟩ := by unfold Addr.add; split <;> simp_all
    rw [e]
    exact Sl.cells h3 hu
  have hown : (((w.alloc (.cells #[I r, .slice (some ⟨b1, o1, none⟩) ws.length c] 24)).alloc (.cells #[I 0, .slice none 0 0] 24)).alloc (.cells #[] 29)).ownsRow (w.heap.size + 2) 29 4 (.slice (some ⟨w.heap.size + 2, 0, none⟩) 0 0) 0 [] := by
    have := World.ownsRow_made (base := w.heap.size + 2) (e := 29) (size := 4) ((w.alloc (.cells #[I r, .slice (some ⟨b1, o1, none⟩) ws.length c] 24)).alloc (.cells #[I 0, .slice none 0 0] 24)) #[] 0 (by simp) (by decide) rfl
    rwa [hsz] at this
  go_wp2_with (at_builtin; refine wpList_append_own _ rfl _ _ 22 rfl (w.heap.size + 2) 29 i0 _ 4 40 Try.underlying22 hi0 hz0 hz1 hz2 rfl (by decide) _ _ _ rfl hown ⟨b1, o1, none⟩ ws.length c (ws.flatMap Wg.cells) rfl ?c1 ?c2 ?c3 ?c4 ?c5 ?c6 ?_)
  case c1 => rw [length_wings]; omega
  case c2 => exact hnews
  case c3 => intro u hu; obtain ⟨g, _, hg⟩ := List.mem_flatMap.1 hu; simp [Wg.cells] at hg; rcases hg with rfl | rfl | rfl | rfl <;> rfl
  case c4 => unfold maxLen; omega
  case c5 => omega
  case c6 => simp
  intro V' w7 hown7 hgr7 hnil
  have hB7 := below_own (hW.alloc (by simp; omega) (.cells #[] 29)) hown (by omega) (by simp; omega) hgr7
  have y1 := (x1.alloc (.cells #[] 29)).grown hgr7 (by simp [Value.ownBlock])
  have y2 := (x2.alloc (.cells #[] 29)).grown hgr7 (by simp [Value.ownBlock])
  obtain ⟨g, cap, cur, rfl, hg1, hg2, hg3, _, _, hg4⟩ : ∃ g cap cur, V' = .slice (some ⟨g, 0, none⟩) ws.length cap ∧ w.heap.size + 2 ≤ g ∧ w7.heap[g]? = some (.cells cur 29 (0, 0)) ∧ ws.length ≤ cap ∧ cap ≤ maxLen ∧ cur.size = cap * 4 ∧ cur.toList.take (ws.length * 4) = ws.flatMap Wg.cells := by
    rcases hown7.2 with ⟨_, h0⟩ | h
    · omega
    · simpa using h
  have hwb : WB w7 g ws := ⟨cur, (0, 0), hg2, rfl, fun j u hu => by
    rw [← hg4, List.getElem?_take] at hu
    split at hu
    · simpa using hu
    · cases hu⟩
  clear hown hown7 hgr7 hnews hW hc1 hnil x1 x2 hsz
  have hc1 := y1.cell
  have hf1 := y1.free
  have hc2 := y2.cell
  have hf2 := y2.free
  have y3 := (y2.far (p := ⟨w.heap.size, 1, none⟩) (by simp only []; omega) (.slice (some ⟨g, 0, none⟩) ws.length cap))
  have y4 := (y3.set_ 0 (I r)).set_ 1 (.slice (some ⟨g, 0, none⟩) ws.length cap)
  have hce := y4.cell
  go_wp2
  refine bodyPost_ret (v := .agg #[I r, .slice (some ⟨g, 0, none⟩) ws.length cap]) (by simp [results, Try.results18, go_sem, hce]) rfl ⟨g, cap, rfl, by omega, ?_, hg3, ?_⟩
  · refine hwb.same ?_
    rw [Below.heap_setCell _ _ _ _ (by simp only []; omega), Below.heap_setCell _ _ _ _ (by simp only []; omega), Below.heap_setCell _ _ _ _ (by simp only []; omega)]
  · exact ((hB7.setCell (p := ⟨w.heap.size, 1, none⟩) (Nat.le_refl _) _).setCell (p := ⟨w.heap.size + 1, 0, none⟩) (by simp only []; omega) _).setCell (p := ⟨w.heap.size + 1, 1, none⟩) (by simp only []; omega) _

/-- A narrower span came back. -/
def LessPost (d : Nat) (a b : Int) (w : World) (e : Ending) (w' : World) : Prop := ∃ x y : Int, e = .returned (Sp x y) ∧ a ≤ x ∧ x ≤ y ∧ y ≤ b ∧ Dr w' d ∧ w.grownBy w' (some d)

set_option maxRecDepth 100000 in
set_option maxHeartbeats 1000000 in
theorem less_c (d : Nat) (a b : Int) (w : World) (hd : Dr w d) (h1 : 0 ≤ a) (h2 : a ≤ b) (h3 : b ≤ 1000000) :
    Calls Try.prog 57 #[.pointer (some ⟨d, 0, none⟩), Sp a b] w (LessPost d a b w) := by
  have hlt := hd.lt
  have x3 := (Bx.new w 27 #[I a, I b]).alloc (.cells #[I 0, I 0] 27)
  have x4 := Bx.new' (w.alloc (.cells #[I a, I b] 27)) 27 #[I 0, I 0] (w.heap.size + 1) (by simp)
  have hd0 := (hd.alloc (.cells #[I a, I b] 27)).alloc (.cells #[I 0, I 0] 27)
  have g0 : w.grownBy ((w.alloc (.cells #[I a, I b] 27)).alloc (.cells #[I 0, I 0] 27)) (some d) := kp_alloc (World.grownBy_alloc _ _ _) _
  go_enter Try.func57, Try.ntmps57
  go_wp2_with fail
  refine wp_region_list_s (by kernel_rfl) (R := (fun w' => Dr w' d ∧ Bx w' w.heap.size 27 #[I a, I b] ∧ Bx w' (w.heap.size + 1) 27 #[I 0, I 0] ∧ w.grownBy w' (some d))) (F := DF d) [] [] []
      [As.is _ _ (.pointer (some ⟨d, 0, none⟩)),
      As.is _ _ (Sp a b),
      asInt _ _ a b,
      As.is _ _ (.pointer (some ⟨d, 0, none⟩)),
      As.is _ _ (Sp a b),
      asInt _ _ a b,
      asInt _ _ a b,
      asInt _ _ a b] 20 (by kernel_rfl) rfl (⟨hd0, x3, x4, kp_drew g0⟩) (by simp) (by simp) ?_ (fun _ => World.grownBy.refl _ _) ?_ ?_ ?_
  · intro i' hi' o' ho k' b' hg u w' hR hu
    match i', hi', ho with
    | 0, _, ho => cases ho; cases hg
    | 1, _, ho => cases ho; cases hg
    | 2, _, ho => cases ho; cases hg
    | 3, _, ho => cases ho; cases hg
    | 4, _, ho => cases ho; cases hg
    | 5, _, ho => cases ho; cases hg
    | 6, _, ho => cases ho; cases hg
    | 7, _, ho => cases ho; cases hg
    | n + 8, hi, _ => exact absurd hi (by simp)
  · intro i' hi' hsk; cases hsk
  · intro i' hi' hsk o' ho ev w' hR hc hf hg hs hd
    match i', hi', ho with
    | 0, _, ho =>
      clear hsk
      cases ho
      have e0 : ev (.tmp 0) = .pointer (some ⟨d, 0, none⟩) := hs 0 (by kernel_rfl)
      go_simp
      first | exact ⟨rfl, hR, World.grownBy.refl _ _⟩ | exact ⟨⟨rfl, rfl⟩, hR, World.grownBy.refl _ _⟩ | exact ⟨⟨rfl, fun h => absurd h (by decide)⟩, hR, World.grownBy.refl _ _⟩ | exact ⟨⟨rfl, rfl, fun h => absurd h (by decide)⟩, hR, World.grownBy.refl _ _⟩
    | 1, _, ho =>
      clear hsk
      cases ho
      have e3 : ev (.tmp 3) = .pointer (some ⟨w.heap.size, 0, none⟩) := hs 3 (by kernel_rfl)
      have m4 := hR.2.1.cell
      go_simp
      first | exact ⟨rfl, hR, World.grownBy.refl _ _⟩ | exact ⟨⟨rfl, rfl⟩, hR, World.grownBy.refl _ _⟩ | exact ⟨⟨rfl, fun h => absurd h (by decide)⟩, hR, World.grownBy.refl _ _⟩ | exact ⟨⟨rfl, rfl, fun h => absurd h (by decide)⟩, hR, World.grownBy.refl _ _⟩
    | 2, _, ho =>
      clear hsk
      cases ho
      have e7 : ev (.tmp 7) = .pointer (some ⟨d, 0, none⟩) := hd 0 7 (by kernel_rfl)
      have e8 : ev (.tmp 8) = Sp a b := hd 1 8 (by kernel_rfl)
      go_simp
      refine (of_c d a b _ hR.1 h1 h2 (by omega)).mono ?_
      rintro e w1 ⟨z, rfl, hz1, hz2, hd1, hk1⟩
      first | exact ⟨⟨z, rfl, hz1, hz2⟩, ⟨hd1, hR.2.1.kp hk1 (by omega), hR.2.2.1.kp hk1 (by omega), kp_trans hR.2.2.2 hk1⟩, hk1⟩ | exact ⟨⟨rfl, ⟨z, rfl, hz1, hz2⟩⟩, ⟨hd1, hR.2.1.kp hk1 (by omega), hR.2.2.1.kp hk1 (by omega), kp_trans hR.2.2.2 hk1⟩, hk1⟩ | exact ⟨⟨⟨z, rfl, hz1, hz2⟩, fun h => absurd h (by decide)⟩, ⟨hd1, hR.2.1.kp hk1 (by omega), hR.2.2.1.kp hk1 (by omega), kp_trans hR.2.2.2 hk1⟩, hk1⟩ | exact ⟨⟨rfl, ⟨z, rfl, hz1, hz2⟩, fun h => absurd h (by decide)⟩, ⟨hd1, hR.2.1.kp hk1 (by omega), hR.2.2.1.kp hk1 (by omega), kp_trans hR.2.2.2 hk1⟩, hk1⟩
    | 3, _, ho =>
      clear hsk
      cases ho
      have e0 : ev (.tmp 0) = .pointer (some ⟨d, 0, none⟩) := hs 0 (by kernel_rfl)
      go_simp
      first | exact ⟨rfl, hR, World.grownBy.refl _ _⟩ | exact ⟨⟨rfl, rfl⟩, hR, World.grownBy.refl _ _⟩ | exact ⟨⟨rfl, fun h => absurd h (by decide)⟩, hR, World.grownBy.refl _ _⟩ | exact ⟨⟨rfl, rfl, fun h => absurd h (by decide)⟩, hR, World.grownBy.refl _ _⟩
    | 4, _, ho =>
      clear hsk
      cases ho
      have e3 : ev (.tmp 3) = .pointer (some ⟨w.heap.size, 0, none⟩) := hs 3 (by kernel_rfl)
      have m4 := hR.2.1.cell
      go_simp
      first | exact ⟨rfl, hR, World.grownBy.refl _ _⟩ | exact ⟨⟨rfl, rfl⟩, hR, World.grownBy.refl _ _⟩ | exact ⟨⟨rfl, fun h => absurd h (by decide)⟩, hR, World.grownBy.refl _ _⟩ | exact ⟨⟨rfl, rfl, fun h => absurd h (by decide)⟩, hR, World.grownBy.refl _ _⟩
    | 5, _, ho =>
      clear hsk
      cases ho
      have e10 : ev (.tmp 10) = .pointer (some ⟨d, 0, none⟩) := hd 3 10 (by kernel_rfl)
      have e11 : ev (.tmp 11) = Sp a b := hd 4 11 (by kernel_rfl)
      go_simp
      refine (of_c d a b _ hR.1 h1 h2 (by omega)).mono ?_
      rintro e w1 ⟨z, rfl, hz1, hz2, hd1, hk1⟩
      first | exact ⟨⟨z, rfl, hz1, hz2⟩, ⟨hd1, hR.2.1.kp hk1 (by omega), hR.2.2.1.kp hk1 (by omega), kp_trans hR.2.2.2 hk1⟩, hk1⟩ | exact ⟨⟨rfl, ⟨z, rfl, hz1, hz2⟩⟩, ⟨hd1, hR.2.1.kp hk1 (by omega), hR.2.2.1.kp hk1 (by omega), kp_trans hR.2.2.2 hk1⟩, hk1⟩ | exact ⟨⟨⟨z, rfl, hz1, hz2⟩, fun h => absurd h (by decide)⟩, ⟨hd1, hR.2.1.kp hk1 (by omega), hR.2.2.1.kp hk1 (by omega), kp_trans hR.2.2.2 hk1⟩, hk1⟩ | exact ⟨⟨rfl, ⟨z, rfl, hz1, hz2⟩, fun h => absurd h (by decide)⟩, ⟨hd1, hR.2.1.kp hk1 (by omega), hR.2.2.1.kp hk1 (by omega), kp_trans hR.2.2.2 hk1⟩, hk1⟩
    | 6, _, ho =>
      clear hsk
      cases ho
      obtain ⟨z9, e9, hz91, hz92⟩ : ∃ r' : Int, ev (.tmp 9) = I r' ∧ a ≤ r' ∧ r' ≤ b := hd 2 9 (by kernel_rfl)
      go_simp
      first | exact ⟨⟨z9, rfl, hz91, hz92⟩, hR, World.grownBy.refl _ _⟩ | exact ⟨⟨rfl, ⟨z9, rfl, hz91, hz92⟩⟩, hR, World.grownBy.refl _ _⟩ | exact ⟨⟨⟨z9, rfl, hz91, hz92⟩, fun h => absurd h (by decide)⟩, hR, World.grownBy.refl _ _⟩ | exact ⟨⟨rfl, ⟨z9, rfl, hz91, hz92⟩, fun h => absurd h (by decide)⟩, hR, World.grownBy.refl _ _⟩
    | 7, _, ho =>
      clear hsk
      cases ho
      obtain ⟨z12, e12, hz121, hz122⟩ : ∃ r' : Int, ev (.tmp 12) = I r' ∧ a ≤ r' ∧ r' ≤ b := hd 5 12 (by kernel_rfl)
      go_simp
      first | exact ⟨⟨z12, rfl, hz121, hz122⟩, hR, World.grownBy.refl _ _⟩ | exact ⟨⟨rfl, ⟨z12, rfl, hz121, hz122⟩⟩, hR, World.grownBy.refl _ _⟩ | exact ⟨⟨⟨z12, rfl, hz121, hz122⟩, fun h => absurd h (by decide)⟩, hR, World.grownBy.refl _ _⟩ | exact ⟨⟨rfl, ⟨z12, rfl, hz121, hz122⟩, fun h => absurd h (by decide)⟩, hR, World.grownBy.refl _ _⟩
    | n + 8, hi, _ => exact absurd hi (by simp)
  intro ρ wE hR hρ hne K hK
  obtain ⟨x, p6, hx1, hx2⟩ : ∃ r' : Int, ρ 6 = I r' ∧ a ≤ r' ∧ r' ≤ b := hρ 6 (by simp)
  obtain ⟨y, p7, hy1, hy2⟩ : ∃ r' : Int, ρ 7 = I r' ∧ a ≤ r' ∧ r' ≤ b := hρ 7 (by simp)
  show K (putAll _ _ ρ 8) _
  simp only [putAll, dOf, List.getElem?_toArray, List.getElem?_cons_zero, List.getElem?_cons_succ, Option.bind_some, Act.put, List.setIfInBounds_toArray, List.set_cons_zero, List.set_cons_succ]
  rw [p6, p7]
  refine hK _ _ ?_
  change wpList _ _ _ [] _ _
  clear hK K p6 p7 hρ hne
  obtain ⟨hdE, x3E, x4E, gE⟩ := hR
  have hc4 := x4E.cell
  have hf4 := x4E.free
  have hend : ∀ lo hi : Int, a ≤ lo → lo ≤ hi → hi ≤ b → ∀ W, W = (wE.setCell ⟨w.heap.size + 1, 0, none⟩ (I lo)).setCell ⟨w.heap.size + 1, 1, none⟩ (I hi) → LessPost d a b w (.returned (Sp lo hi)) W ∧ ∀ j, W.cell? ⟨w.heap.size + 1, j, none⟩ = (#[I lo, I hi] : Array Value)[j]? := by
    intro lo hi e1 e2 e3 W hW
    subst hW
    exact ⟨⟨lo, hi, rfl, e1, e2, e3, (hdE.far (p := ⟨w.heap.size + 1, 0, none⟩) (by simp only []; omega) _).far (p := ⟨w.heap.size + 1, 1, none⟩) (by simp only []; omega) _, kp_setNew (kp_setNew gE (by simp only []; omega) _) (by simp only []; omega) _⟩, ((x4E.set_ 0 (I lo)).set_ 1 (I hi)).cell⟩
  rcases Int.lt_trichotomy x y with h | h | h
  · have n1 : ¬ y < x := by omega
    have hh := hend x y (by omega) (by omega) (by omega) _ rfl
    clear hend
    go_wp2
    exact bodyPost_ret (v := Sp x y) (by simp [results, Try.results57, go_sem, hh.2]) rfl hh.1
  · subst h
    have n1 : ¬ x < x := by omega
    have hh := hend x x (by omega) (by omega) (by omega) _ rfl
    clear hend
    go_wp2
    exact bodyPost_ret (v := Sp x x) (by simp [results, Try.results57, go_sem, hh.2]) rfl hh.1
  · have n1 : ¬ x < y := by omega
    have hh := hend y x (by omega) (by omega) (by omega) _ rfl
    clear hend
    go_wp2
    exact bodyPost_ret (v := Sp y x) (by simp [results, Try.results57, go_sem, hh.2]) rfl hh.1

set_option maxHeartbeats 400000 in
theorem inside_c (a b c d : Int) (w : World) (h1 : c ≤ a) (h2 : b ≤ d) :
    Calls Try.prog 58 #[Sp a b, Sp c d] w fun e w' => e = .returned (.bool true) ∧ Below w.heap.size w w' := by
  have x3 := (Bx.new w 27 #[I a, I b]).alloc (.cells #[I c, I d] 27)
  have hc3 := x3.cell
  go_enter Try.func58, Try.ntmps58
  go_wp2
  go_ret
  exact ⟨rfl, ((Below.refl _ _).alloc (Nat.le_refl _) _).alloc (by simp) _⟩
end Go.Proofs.Ytnihkgdkdinliaa
