/- walk: all fronts, second by second. Own work. -/
import Derived.Test.YtnihkgdkdinliaaLawKitC
import Derived.Test.YtnihkgdkdinliaaPacesOf
namespace Go.Proofs.Ytnihkgdkdinliaa
open Go.RowKit
set_option linter.unusedVariables false
set_option linter.unusedSimpArgs false

/-- Where a front is; -1 before its start. -/
def rv (ws : List Wg) (sts ps : List Int) (t : Int) (k : Nat) : Int := if gI sts k ≤ t then front ws sts ps t k else -1
/-- The first k fronts. -/
def rowF (ws : List Wg) (sts ps : List Int) (t : Int) (k : Nat) : List Int := (List.range k).map (rv ws sts ps t)
theorem rowF_length (ws : List Wg) (sts ps : List Int) (t : Int) (k : Nat) : (rowF ws sts ps t k).length = k := by simp [rowF]
theorem rowF_snoc (ws : List Wg) (sts ps : List Int) (t : Int) (k : Nat) : rowF ws sts ps t (k + 1) = rowF ws sts ps t k ++ [rv ws sts ps t k] := by simp [rowF, List.range_succ]
theorem gI_rowF {ws : List Wg} {sts ps : List Int} {t : Int} {k j : Nat} (h : j < k) : gI (rowF ws sts ps t k) j = rv ws sts ps t j := by simp [gI, rowF, h]

/-- Rows of fronts, each where it lies. -/
def RowsOK (ws : List Wg) (sts ps : List Int) (n : Nat) (w : World) (xs : List Value) : Prop := ∀ j, j < xs.length → ∃ B c, xs[j]? = some (.slice B n c) ∧ SlI w 3 B (rowF ws sts ps (j : Int) n)
theorem RowsOK.grow {ws : List Wg} {sts ps : List Int} {n : Nat} {w w' : World} {xs : List Value} (h : RowsOK ws sts ps n w xs) (hb : Below w.heap.size w w') : RowsOK ws sts ps n w' xs := fun j hj => by
  obtain ⟨B, c, h1, h2⟩ := h j hj
  exact ⟨B, c, h1, Sl.below h2 hb (Nat.le_refl _)⟩

/-- What walk hands out. -/
def WalkPost (ws : List Wg) (sts ps : List Int) (L : Nat) (w : World) (e : Ending) (w' : World) : Prop :=
  ∃ (xs : List Value) (V : Value), e = .returned V ∧ w'.ownsRow w.heap.size 25 1 V (L + 1) xs ∧ xs.length = L + 1 ∧ RowsOK ws sts ps ws.length w' xs ∧ Below w.heap.size w w'

theorem infoInts : (Try.prog.info? 25).map (fun i => (i.zero, i.size, i.bytes)) = some (some (.slice none 0 0), 1, 24) := by kernel_rfl

theorem own_below {w w' : World} {base : Nat} {e : TypeId} {size n : Nat} {v : Value} {xs : List Value} (h : w.ownsRow base e size v n xs) (hb : Below w.heap.size w w') : w'.ownsRow base e size v n xs :=
  h.kept (row := none) (kp_of_below hb (Nat.le_refl _)) (by cases hv : v.ownBlock <;> simp)

set_option maxRecDepth 100000 in
set_option maxHeartbeats 4000000 in
theorem walk_c (r : Int) (A B C : Option Addr) (c cb cc : Nat) (ws : List Wg) (sts ps : List Int) (T1 T2 T3 : TypeId) (L : Nat) (w : World) (h1 : SlW w T1 A ws) (h2 : SlI w T2 B sts) (h3 : SlI w T3 C ps) (hn1 : 1 ≤ ws.length) (hn8 : ws.length ≤ 8) (hl2 : sts.length = ws.length) (hl3 : ps.length = ws.length)
    (hsm : Sm ws sts ps (ws.length - 1)) (hso : ∀ j k, j ≤ k → k < ws.length → gI sts j ≤ gI sts k) (hL : L ≤ 200000) :
    Calls Try.prog 51 #[.agg #[I r, .slice A ws.length c], .slice B sts.length cb, .slice C ps.length cc, I (L : Int)] w (WalkPost ws sts ps L w) := by
  have xb := Bx.new w 24 #[I r, .slice A ws.length c]
  have hW0 : Below w.heap.size w (w.alloc (.cells #[I r, .slice A ws.length c] 24)) := (Below.refl _ _).alloc (Nat.le_refl _) _
  obtain ⟨b1, o1, rfl, _⟩ := SlW.some_ h1 (show 0 < ws.length by omega)
  obtain ⟨b2, o2, rfl, _⟩ := SlI.some_ h2 (show 0 < sts.length by omega)
  obtain ⟨b3, o3, rfl, _⟩ := SlI.some_ h3 (show 0 < ps.length by omega)
  have H2 := Lib.hid hl2
  have H3 := Lib.hid hl3
  clear hl2 hl3
  go_enter Try.func51, Try.ntmps51
  go_wp2_with fail
  go_loopw [9, 10] (fun v i wr => ∃ (s : Nat) (xs : List Value), i = .int .i64 s ∧ s ≤ L + 1 ∧ xs.length = s ∧ wr.ownsRow w.heap.size 25 1 v s xs ∧ RowsOK ws sts ps ws.length wr xs ∧ Bx wr w.heap.size 24 #[I r, .slice (some ⟨b1, o1, none⟩) ws.length c] ∧ Below w.heap.size w wr) (fun _ i _ => L + 1 - (intOf i).toNat)
  case atStart => exact ⟨0, [], rfl, Nat.zero_le _, rfl, World.ownsRow_nil _ _ _ _, fun j hj => absurd hj (by simp), xb, hW0⟩
  case round =>
    obtain ⟨s, xs, rfl, hs, hxl, hown, hrows, hbx, hbel⟩ := hrel
    obtain ⟨wo, rfl⟩ : ∃ wo : World, wo = wr := ⟨_, rfl⟩
    obtain ⟨B9, c9, rfl, _, _⟩ := Sl.ofOwn2 hown
    have HX := Lib.hid hxl
    clear hxl
    by_cases hlt : s ≤ L
    · have hlt' : (s : Int) ≤ (L : Int) := by omega
      go_wp2_with fail
      go_loopw [11, 12] (fun v i wr => ∃ k : Nat, i = .int .i64 k ∧ k ≤ ws.length ∧ wr.ownsRow wo.heap.size 3 1 v k ((rowF ws sts ps (s : Int) k).map I) ∧ Below wo.heap.size wo wr) (fun _ i _ => ws.length - (intOf i).toNat)
      case atStart => exact ⟨0, rfl, Nat.zero_le _, by simpa [rowF] using World.ownsRow_nil _ _ _ _, Below.refl _ _⟩
      case round =>
        obtain ⟨k, rfl, hk, hr11, hbw⟩ := hrel
        obtain ⟨B11, c11, rfl, hs11, _⟩ := Sl.ofOwn2 hr11
        have hbx' := hbx.below hbw hbx.lt
        have hcb := hbx'.cell
        have hBW := hbel.trans (hbw.mono hbel.size)
        by_cases hkn : k < ws.length
        · have hk2 : k < sts.length := by have := H2.out; omega
          have hk3 : k < ps.length := by have := H3.out; omega
          have hki : (k : Int) < ws.length := by omega
          have hki2 : (k : Int) < sts.length := by omega
          have hki3 : (k : Int) < ps.length := by omega
          have c2 := SlI.cellG (Sl.below h2 hBW (Nat.le_refl _)) hk2
          have c3 := SlI.cellG (Sl.below h3 hBW (Nat.le_refl _)) hk3
          obtain ⟨q1, q2, q3, q4, q5, q6⟩ := hsm.2.2.2.2 k (by omega)
          have hprod := prod_bd (t := (s : Int)) hsm (show k ≤ ws.length - 1 by omega) (by omega) (by omega)
          have lt2 : b2 < wr.heap.size := by
            cases hh : wr.heap[b2]? with
            | none => simp [World.cell?, hh] at c2
            | some o => exact lt_of_heap hh
          have lt3 : b3 < wr.heap.size := by
            cases hh : wr.heap[b3]? with
            | none => simp [World.cell?, hh] at c3
            | some o => exact lt_of_heap hh
          by_cases hst : gI sts k ≤ (s : Int)
          · go_wp2_with fail
            refine wp_region_list_s (by kernel_rfl) (R := RB wr.heap.size wr) (F := FB) [] [] []
                [As.is _ _ (.slice (some ⟨b3, o3, none⟩) ps.length cc),
                As.is _ _ (I (k : Int)),
                As.is _ _ (.pointer (some ⟨b3, o3 + k, none⟩)),
                As.is _ _ (I (gI ps k)),
                As.is _ _ (I (s : Int)),
                As.is _ _ (.slice (some ⟨b2, o2, none⟩) sts.length cb),
                As.is _ _ (I (k : Int)),
                As.is _ _ (.pointer (some ⟨b2, o2 + k, none⟩)),
                As.is _ _ (I (gI sts k)),
                As.is _ _ (I ((s : Int) - gI sts k)),
                As.is _ _ (I (gI ps k * ((s : Int) - gI sts k))),
                As.is _ _ (I (gI ps k * ((s : Int) - gI sts k)))] 69 (by kernel_rfl) rfl ((Below.refl _ _).drew) (by simp) (by simp) ?_ (fun _ => Below.refl _ _) ?_ ?_ ?_
            · intro i' hi' o' ho k' b' hg u w' hR hu
              match i', hi', ho with
              | 0, _, ho => cases ho; cases hg
              | 1, _, ho => cases ho; cases hg
              | 2, _, ho => cases ho; cases hg
              | 3, _, ho => cases ho; cases hg
              | 4, _, ho => cases ho; cases hg
              | 5, _, ho => cases ho; cases hg
              | 6, _, ho => cases ho; cases hg
              | 7, _, ho => cases ho; cases hg
              | 8, _, ho => cases ho; cases hg
              | 9, _, ho => cases ho; cases hg
              | 10, _, ho => cases ho; cases hg
              | 11, _, ho => cases ho; cases hg
              | n + 12, hi, _ => exact absurd hi (by simp)
            · intro i' hi' hsk; cases hsk
            · intro i' hi' hsk o' ho ev w' hR hc hf hg hs hd
              match i', hi', ho with
              | 0, _, ho =>
                clear hsk
                cases ho
                have e2 : ev (.tmp 2) = .slice (some ⟨b3, o3, none⟩) ps.length cc := hs 2 (by kernel_rfl)
                go_simp
                first | exact ⟨rfl, hR, Below.refl _ _⟩ | exact ⟨⟨rfl, rfl⟩, hR, Below.refl _ _⟩ | exact ⟨⟨rfl, fun h => absurd h (by decide)⟩, hR, Below.refl _ _⟩ | exact ⟨⟨rfl, rfl, fun h => absurd h (by decide)⟩, hR, Below.refl _ _⟩
              | 1, _, ho =>
                clear hsk
                cases ho
                have e12 : ev (.tmp 12) = I (k : Int) := hs 12 (by kernel_rfl)
                go_simp
                first | exact ⟨rfl, hR, Below.refl _ _⟩ | exact ⟨⟨rfl, rfl⟩, hR, Below.refl _ _⟩ | exact ⟨⟨rfl, fun h => absurd h (by decide)⟩, hR, Below.refl _ _⟩ | exact ⟨⟨rfl, rfl, fun h => absurd h (by decide)⟩, hR, Below.refl _ _⟩
              | 2, _, ho =>
                clear hsk
                cases ho
                have e32 : ev (.tmp 32) = .slice (some ⟨b3, o3, none⟩) ps.length cc := hd 0 32 (by kernel_rfl)
                have e33 : ev (.tmp 33) = I (k : Int) := hd 1 33 (by kernel_rfl)
                go_simp
                first | exact ⟨rfl, hR, Below.refl _ _⟩ | exact ⟨⟨rfl, rfl⟩, hR, Below.refl _ _⟩ | exact ⟨⟨rfl, fun h => absurd h (by decide)⟩, hR, Below.refl _ _⟩ | exact ⟨⟨rfl, rfl, fun h => absurd h (by decide)⟩, hR, Below.refl _ _⟩
              | 3, _, ho =>
                clear hsk
                cases ho
                have e34 : ev (.tmp 34) = .pointer (some ⟨b3, o3 + k, none⟩) := hd 2 34 (by kernel_rfl)
                have m3 := (hR.cell (p := ⟨b3, o3 + k, none⟩) lt3).trans c3
                go_simp
                first | exact ⟨rfl, hR, Below.refl _ _⟩ | exact ⟨⟨rfl, rfl⟩, hR, Below.refl _ _⟩ | exact ⟨⟨rfl, fun h => absurd h (by decide)⟩, hR, Below.refl _ _⟩ | exact ⟨⟨rfl, rfl, fun h => absurd h (by decide)⟩, hR, Below.refl _ _⟩
              | 4, _, ho =>
                clear hsk
                cases ho
                have e10 : ev (.tmp 10) = I (s : Int) := hs 10 (by kernel_rfl)
                go_simp
                first | exact ⟨rfl, hR, Below.refl _ _⟩ | exact ⟨⟨rfl, rfl⟩, hR, Below.refl _ _⟩ | exact ⟨⟨rfl, fun h => absurd h (by decide)⟩, hR, Below.refl _ _⟩ | exact ⟨⟨rfl, rfl, fun h => absurd h (by decide)⟩, hR, Below.refl _ _⟩
              | 5, _, ho =>
                clear hsk
                cases ho
                have e1 : ev (.tmp 1) = .slice (some ⟨b2, o2, none⟩) sts.length cb := hs 1 (by kernel_rfl)
                go_simp
                first | exact ⟨rfl, hR, Below.refl _ _⟩ | exact ⟨⟨rfl, rfl⟩, hR, Below.refl _ _⟩ | exact ⟨⟨rfl, fun h => absurd h (by decide)⟩, hR, Below.refl _ _⟩ | exact ⟨⟨rfl, rfl, fun h => absurd h (by decide)⟩, hR, Below.refl _ _⟩
              | 6, _, ho =>
                clear hsk
                cases ho
                have e12 : ev (.tmp 12) = I (k : Int) := hs 12 (by kernel_rfl)
                go_simp
                first | exact ⟨rfl, hR, Below.refl _ _⟩ | exact ⟨⟨rfl, rfl⟩, hR, Below.refl _ _⟩ | exact ⟨⟨rfl, fun h => absurd h (by decide)⟩, hR, Below.refl _ _⟩ | exact ⟨⟨rfl, rfl, fun h => absurd h (by decide)⟩, hR, Below.refl _ _⟩
              | 7, _, ho =>
                clear hsk
                cases ho
                have e37 : ev (.tmp 37) = .slice (some ⟨b2, o2, none⟩) sts.length cb := hd 5 37 (by kernel_rfl)
                have e38 : ev (.tmp 38) = I (k : Int) := hd 6 38 (by kernel_rfl)
                go_simp
                first | exact ⟨rfl, hR, Below.refl _ _⟩ | exact ⟨⟨rfl, rfl⟩, hR, Below.refl _ _⟩ | exact ⟨⟨rfl, fun h => absurd h (by decide)⟩, hR, Below.refl _ _⟩ | exact ⟨⟨rfl, rfl, fun h => absurd h (by decide)⟩, hR, Below.refl _ _⟩
              | 8, _, ho =>
                clear hsk
                cases ho
                have e39 : ev (.tmp 39) = .pointer (some ⟨b2, o2 + k, none⟩) := hd 7 39 (by kernel_rfl)
                have m2 := (hR.cell (p := ⟨b2, o2 + k, none⟩) lt2).trans c2
                go_simp
                first | exact ⟨rfl, hR, Below.refl _ _⟩ | exact ⟨⟨rfl, rfl⟩, hR, Below.refl _ _⟩ | exact ⟨⟨rfl, fun h => absurd h (by decide)⟩, hR, Below.refl _ _⟩ | exact ⟨⟨rfl, rfl, fun h => absurd h (by decide)⟩, hR, Below.refl _ _⟩
              | 9, _, ho =>
                clear hsk
                cases ho
                have e36 : ev (.tmp 36) = I (s : Int) := hd 4 36 (by kernel_rfl)
                have e40 : ev (.tmp 40) = I (gI sts k) := hd 8 40 (by kernel_rfl)
                have ew : IntKind.i64.wrap ((s : Int) - gI sts k) = (s : Int) - gI sts k := IntWalk.i64_in _ (by omega)
                go_simp
                first | exact ⟨rfl, hR, Below.refl _ _⟩ | exact ⟨⟨rfl, rfl⟩, hR, Below.refl _ _⟩ | exact ⟨⟨rfl, fun h => absurd h (by decide)⟩, hR, Below.refl _ _⟩ | exact ⟨⟨rfl, rfl, fun h => absurd h (by decide)⟩, hR, Below.refl _ _⟩
              | 10, _, ho =>
                clear hsk
                cases ho
                have e35 : ev (.tmp 35) = I (gI ps k) := hd 3 35 (by kernel_rfl)
                have e41 : ev (.tmp 41) = I ((s : Int) - gI sts k) := hd 9 41 (by kernel_rfl)
                have ew : IntKind.i64.wrap (gI ps k * ((s : Int) - gI sts k)) = gI ps k * ((s : Int) - gI sts k) := IntWalk.i64_in _ (by omega)
                go_simp
                first | exact ⟨rfl, hR, Below.refl _ _⟩ | exact ⟨⟨rfl, rfl⟩, hR, Below.refl _ _⟩ | exact ⟨⟨rfl, fun h => absurd h (by decide)⟩, hR, Below.refl _ _⟩ | exact ⟨⟨rfl, rfl, fun h => absurd h (by decide)⟩, hR, Below.refl _ _⟩
              | 11, _, ho =>
                clear hsk
                cases ho
                have e42 : ev (.tmp 42) = I (gI ps k * ((s : Int) - gI sts k)) := hd 10 42 (by kernel_rfl)
                go_simp
                first | exact ⟨rfl, hR, Below.refl _ _⟩ | exact ⟨⟨rfl, rfl⟩, hR, Below.refl _ _⟩ | exact ⟨⟨rfl, fun h => absurd h (by decide)⟩, hR, Below.refl _ _⟩ | exact ⟨⟨rfl, rfl, fun h => absurd h (by decide)⟩, hR, Below.refl _ _⟩
              | n + 12, hi, _ => exact absurd hi (by simp)
            intro ρ wE hR hρ hne K hK
            have p11 : ρ 11 = I (gI ps k * ((s : Int) - gI sts k)) := hρ 11 (by simp)
            show K (putAll _ _ ρ 12) _
            simp only [putAll, dOf, List.getElem?_toArray, List.getElem?_cons_zero, List.getElem?_cons_succ, Option.bind_some, Act.put, List.setIfInBounds_toArray, List.set_cons_zero, List.set_cons_succ]
            rw [p11]
            refine hK _ _ ?_
            change wpList _ _ _ [] _ _
            clear hK K p11 hρ hne
            have hrE := own_below hr11 hR
            have hbE := hbw.trans (hR.mono hbw.size)
            have hbxE := hbx'.below hR hbx'.lt
            have hBE := hBW.trans (hR.mono hBW.size)
            have hcE := hbxE.cell
            have hsE := Sl.below hs11 hR (Nat.le_refl _)
            clear hR c2 c3 lt2 lt3 hcb
            by_cases hk0 : k = 0
            · have hX : gI ps k * ((s : Int) - gI sts k) = rv ws sts ps (s : Int) k := by subst hk0; unfold rv; rw [if_pos hst]; rfl
              have HX2 := Lib.hid hX
              have hk00 : ¬ (0 < (k : Int)) := by omega
              clear hX hk0
              generalize gI ps k * ((s : Int) - gI sts k) = P at *
              obtain ⟨i0, hi0, hz0, hz1, hz2⟩ := info_parts infoInt
              have hn1' := (Bx.new wE 3 #[I (P)]).news (cs := [I (P)])
              have hn2' : ∀ u ∈ [I (P)], u.oneCell' = true := by simp [Value.oneCell']
              have hn3' : k + 1 ≤ maxLen := by unfold maxLen; omega
              have hn4' : (k + 1) * 8 ≤ 140737488355328 := by omega
              have hn5' : wo.heap.size ≤ (wE.alloc (.cells #[I (P)] 3)).heap.size := by have := hbE.size; simp; omega
              have hn6' := hrE.alloc (.cells #[I (P)] 3)
              go_wp2_with (at_builtin; refine wpList_append_own _ rfl _ _ 25 rfl wo.heap.size 3 i0 _ 1 8 Try.underlying25 hi0 hz0 hz1 hz2 rfl (by decide) _ _ _ rfl hn6' ⟨wE.heap.size, 0, none⟩ 1 1 [I (P)] rfl rfl hn1' hn2' hn3' hn4' hn5' ?_)
              clear hn1' hn2' hn3' hn4' hn5' hn6'
              intro V' w8 hown8 hgr8 _
              have hb8 := below_own (hbE.alloc hbE.size (.cells #[I (P)] 3)) (hrE.alloc (.cells #[I (P)] 3)) (Nat.le_refl _) (by have := hbE.size; simp; omega) hgr8
              obtain ⟨B', cb', rfl, _, _⟩ := Sl.ofOwn2 hown8
              clear hgr8
              go_wp2
              go_roundw
              case rel => exact ⟨k + 1, by go_num, by omega, by rw [rowF_snoc, flat_snoc, ← HX2.out]; exact hown8, hb8⟩
              case measure => simp [intOf]; omega
            · have hk00 : 0 < (k : Int) := by omega
              obtain ⟨bg, og, rfl, _⟩ := SlI.some_ hs11 (show 0 < (rowF ws sts ps (s : Int) k).length by rw [rowF_length]; omega)
              have cg := SlI.cellG (zs := rowF ws sts ps (s : Int) k) hsE (show k - 1 < _ by rw [rowF_length]; omega)
              have c1 := (SlW.cellG (h1.below hBE (Nat.le_refl _)) (show k - 1 < ws.length by omega)).2.1
              rw [gI_rowF (show k - 1 < k by omega)] at cg
              have hsp := hso (k - 1) k (by omega) hkn
              have hq : rv ws sts ps (s : Int) (k - 1) = front ws sts ps (s : Int) (k - 1) := by unfold rv; rw [if_pos (by omega)]
              have hfb := front_bd (t := (s : Int)) hsm (by omega) (by omega) (k - 1) (by omega)
              have hlb := hsm.2.2.2.2 (k - 1) (by omega)
              have hX : min (gI ps k * ((s : Int) - gI sts k)) (rv ws sts ps (s : Int) (k - 1) - (gW ws (k - 1)).len) = rv ws sts ps (s : Int) k := by
                rw [hq]
                unfold rv
                rw [if_pos hst]
                obtain ⟨m, rfl⟩ : ∃ m, k = m + 1 := ⟨k - 1, by omega⟩
                rw [front_succ]
                rfl
              have HX2 := Lib.hid hX
              rw [← hq] at hfb
              clear hX hq
              have ltg : bg < wE.heap.size := by
                cases hh : wE.heap[bg]? with
                | none => simp [World.cell?, hh] at cg
                | some o => exact lt_of_heap hh
              have lt1 : b1 < wE.heap.size := by
                cases hh : wE.heap[b1]? with
                | none => simp [World.cell?, hh] at c1
                | some o => exact lt_of_heap hh
              generalize gI ps k * ((s : Int) - gI sts k) = P at *
              generalize rv ws sts ps (s : Int) (k - 1) = q at *
              generalize hln : (gW ws (k - 1)).len = ln at *
              clear hln
              go_wp2_with fail
              refine wp_region_list_s (by kernel_rfl) (R := RB wE.heap.size wE) (F := FB) [] [] []
                  [As.is _ _ (I P),
                  As.is _ _ (.slice (some ⟨bg, og, none⟩) k c11),
                  As.is _ _ (I (k : Int)),
                  As.is _ _ (I ((k : Int) - 1)),
                  As.is _ _ (.pointer (some ⟨bg, og + (k - 1), none⟩)),
                  As.is _ _ (I q),
                  As.is _ _ (.pointer (some ⟨w.heap.size, 1, none⟩)),
                  As.is _ _ (.slice (some ⟨b1, o1, none⟩) ws.length c),
                  As.is _ _ (I (k : Int)),
                  As.is _ _ (I ((k : Int) - 1)),
                  As.is _ _ (.pointer (some ⟨b1, o1 + (k - 1) * 4, none⟩)),
                  As.is _ _ (.pointer (some ⟨b1, o1 + (k - 1) * 4 + 1, none⟩)),
                  As.is _ _ (I ln),
                  As.is _ _ (I (q - ln)),
                  As.pure _ _ fun v => ∃ y : Int, v = I y ∧ y ≤ P ∧ y ≤ q - ln ∧ (y = P ∨ y = q - ln)] 69 (by kernel_rfl) rfl ((Below.refl _ _).drew) (by simp) (by simp) ?_ (fun _ => Below.refl _ _) ?_ ?_ ?_
              · intro i' hi' o' ho k' b' hg u w' hR hu
                match i', hi', ho with
                | 0, _, ho => cases ho; cases hg
                | 1, _, ho => cases ho; cases hg
                | 2, _, ho => cases ho; cases hg
                | 3, _, ho => cases ho; cases hg
                | 4, _, ho => cases ho; cases hg
                | 5, _, ho => cases ho; cases hg
                | 6, _, ho => cases ho; cases hg
                | 7, _, ho => cases ho; cases hg
                | 8, _, ho => cases ho; cases hg
                | 9, _, ho => cases ho; cases hg
                | 10, _, ho => cases ho; cases hg
                | 11, _, ho => cases ho; cases hg
                | 12, _, ho => cases ho; cases hg
                | 13, _, ho => cases ho; cases hg
                | 14, _, ho => cases ho; cases hg
                | n + 15, hi, _ => exact absurd hi (by simp)
              · intro i' hi' hsk; cases hsk
              · intro i' hi' hsk o' ho ev w' hR hc hf hg hs hd
                match i', hi', ho with
                | 0, _, ho =>
                  clear hsk
                  cases ho
                  have e13 : ev (.tmp 13) = I P := hs 13 (by kernel_rfl)
                  go_simp
                  first | exact ⟨rfl, hR, Below.refl _ _⟩ | exact ⟨⟨rfl, rfl⟩, hR, Below.refl _ _⟩ | exact ⟨⟨rfl, fun h => absurd h (by decide)⟩, hR, Below.refl _ _⟩ | exact ⟨⟨rfl, rfl, fun h => absurd h (by decide)⟩, hR, Below.refl _ _⟩
                | 1, _, ho =>
                  clear hsk
                  cases ho
                  have e11 : ev (.tmp 11) = .slice (some ⟨bg, og, none⟩) k c11 := hs 11 (by kernel_rfl)
                  go_simp
                  first | exact ⟨rfl, hR, Below.refl _ _⟩ | exact ⟨⟨rfl, rfl⟩, hR, Below.refl _ _⟩ | exact ⟨⟨rfl, fun h => absurd h (by decide)⟩, hR, Below.refl _ _⟩ | exact ⟨⟨rfl, rfl, fun h => absurd h (by decide)⟩, hR, Below.refl _ _⟩
                | 2, _, ho =>
                  clear hsk
                  cases ho
                  have e12 : ev (.tmp 12) = I (k : Int) := hs 12 (by kernel_rfl)
                  go_simp
                  first | exact ⟨rfl, hR, Below.refl _ _⟩ | exact ⟨⟨rfl, rfl⟩, hR, Below.refl _ _⟩ | exact ⟨⟨rfl, fun h => absurd h (by decide)⟩, hR, Below.refl _ _⟩ | exact ⟨⟨rfl, rfl, fun h => absurd h (by decide)⟩, hR, Below.refl _ _⟩
                | 3, _, ho =>
                  clear hsk
                  cases ho
                  have e47 : ev (.tmp 47) = I (k : Int) := hd 2 47 (by kernel_rfl)
                  have ew : IntKind.i64.wrap ((k : Int) - 1) = (k : Int) - 1 := IntWalk.i64_in _ (by omega)
                  go_simp
                  first | exact ⟨rfl, hR, Below.refl _ _⟩ | exact ⟨⟨rfl, rfl⟩, hR, Below.refl _ _⟩ | exact ⟨⟨rfl, fun h => absurd h (by decide)⟩, hR, Below.refl _ _⟩ | exact ⟨⟨rfl, rfl, fun h => absurd h (by decide)⟩, hR, Below.refl _ _⟩
                | 4, _, ho =>
                  clear hsk
                  cases ho
                  have e46 : ev (.tmp 46) = .slice (some ⟨bg, og, none⟩) k c11 := hd 1 46 (by kernel_rfl)
                  have e48 : ev (.tmp 48) = I ((k : Int) - 1) := hd 3 48 (by kernel_rfl)
                  have en : ((k : Int) - 1).toNat = k - 1 := by omega
                  have h0 : 1 ≤ (k : Int) := by omega
                  have h00 : 0 ≤ (k : Int) - 1 := by omega
                  have hlk : (k : Int) - 1 < (k : Int) := by omega
                  go_simp
                  first | exact ⟨rfl, hR, Below.refl _ _⟩ | exact ⟨⟨rfl, rfl⟩, hR, Below.refl _ _⟩ | exact ⟨⟨rfl, fun h => absurd h (by decide)⟩, hR, Below.refl _ _⟩ | exact ⟨⟨rfl, rfl, fun h => absurd h (by decide)⟩, hR, Below.refl _ _⟩
                | 5, _, ho =>
                  clear hsk
                  cases ho
                  have e49 : ev (.tmp 49) = .pointer (some ⟨bg, og + (k - 1), none⟩) := hd 4 49 (by kernel_rfl)
                  have m5 := (hR.cell (p := ⟨bg, og + (k - 1), none⟩) ltg).trans cg
                  go_simp
                  first | exact ⟨rfl, hR, Below.refl _ _⟩ | exact ⟨⟨rfl, rfl⟩, hR, Below.refl _ _⟩ | exact ⟨⟨rfl, fun h => absurd h (by decide)⟩, hR, Below.refl _ _⟩ | exact ⟨⟨rfl, rfl, fun h => absurd h (by decide)⟩, hR, Below.refl _ _⟩
                | 6, _, ho =>
                  clear hsk
                  cases ho
                  have e4 : ev (.tmp 4) = .pointer (some ⟨w.heap.size, 0, none⟩) := hs 4 (by kernel_rfl)
                  go_simp
                  first | exact ⟨rfl, hR, Below.refl _ _⟩ | exact ⟨⟨rfl, rfl⟩, hR, Below.refl _ _⟩ | exact ⟨⟨rfl, fun h => absurd h (by decide)⟩, hR, Below.refl _ _⟩ | exact ⟨⟨rfl, rfl, fun h => absurd h (by decide)⟩, hR, Below.refl _ _⟩
                | 7, _, ho =>
                  clear hsk
                  cases ho
                  have e51 : ev (.tmp 51) = .pointer (some ⟨w.heap.size, 1, none⟩) := hd 6 51 (by kernel_rfl)
                  have m4 := (hbxE.below hR hbxE.lt).cell
                  go_simp
                  first | exact ⟨rfl, hR, Below.refl _ _⟩ | exact ⟨⟨rfl, rfl⟩, hR, Below.refl _ _⟩ | exact ⟨⟨rfl, fun h => absurd h (by decide)⟩, hR, Below.refl _ _⟩ | exact ⟨⟨rfl, rfl, fun h => absurd h (by decide)⟩, hR, Below.refl _ _⟩
                | 8, _, ho =>
                  clear hsk
                  cases ho
                  have e12 : ev (.tmp 12) = I (k : Int) := hs 12 (by kernel_rfl)
                  go_simp
                  first | exact ⟨rfl, hR, Below.refl _ _⟩ | exact ⟨⟨rfl, rfl⟩, hR, Below.refl _ _⟩ | exact ⟨⟨rfl, fun h => absurd h (by decide)⟩, hR, Below.refl _ _⟩ | exact ⟨⟨rfl, rfl, fun h => absurd h (by decide)⟩, hR, Below.refl _ _⟩
                | 9, _, ho =>
                  clear hsk
                  cases ho
                  have e53 : ev (.tmp 53) = I (k : Int) := hd 8 53 (by kernel_rfl)
                  have ew : IntKind.i64.wrap ((k : Int) - 1) = (k : Int) - 1 := IntWalk.i64_in _ (by omega)
                  go_simp
                  first | exact ⟨rfl, hR, Below.refl _ _⟩ | exact ⟨⟨rfl, rfl⟩, hR, Below.refl _ _⟩ | exact ⟨⟨rfl, fun h => absurd h (by decide)⟩, hR, Below.refl _ _⟩ | exact ⟨⟨rfl, rfl, fun h => absurd h (by decide)⟩, hR, Below.refl _ _⟩
                | 10, _, ho =>
                  clear hsk
                  cases ho
                  have e52 : ev (.tmp 52) = .slice (some ⟨b1, o1, none⟩) ws.length c := hd 7 52 (by kernel_rfl)
                  have e54 : ev (.tmp 54) = I ((k : Int) - 1) := hd 9 54 (by kernel_rfl)
                  have en : ((k : Int) - 1).toNat = k - 1 := by omega
                  have h0 : 1 ≤ (k : Int) := by omega
                  have h00 : 0 ≤ (k : Int) - 1 := by omega
                  have hlk : (k : Int) - 1 < (ws.length : Int) := by omega
                  go_simp
                  first | exact ⟨rfl, hR, Below.refl _ _⟩ | exact ⟨⟨rfl, rfl⟩, hR, Below.refl _ _⟩ | exact ⟨⟨rfl, fun h => absurd h (by decide)⟩, hR, Below.refl _ _⟩ | exact ⟨⟨rfl, rfl, fun h => absurd h (by decide)⟩, hR, Below.refl _ _⟩
                | 11, _, ho =>
                  clear hsk
                  cases ho
                  have e55 : ev (.tmp 55) = .pointer (some ⟨b1, o1 + (k - 1) * 4, none⟩) := hd 10 55 (by kernel_rfl)
                  go_simp
                  first | exact ⟨rfl, hR, Below.refl _ _⟩ | exact ⟨⟨rfl, rfl⟩, hR, Below.refl _ _⟩ | exact ⟨⟨rfl, fun h => absurd h (by decide)⟩, hR, Below.refl _ _⟩ | exact ⟨⟨rfl, rfl, fun h => absurd h (by decide)⟩, hR, Below.refl _ _⟩
                | 12, _, ho =>
                  clear hsk
                  cases ho
                  have e56 : ev (.tmp 56) = .pointer (some ⟨b1, o1 + (k - 1) * 4 + 1, none⟩) := hd 11 56 (by kernel_rfl)
                  have m6 := (hR.cell (p := ⟨b1, o1 + (k - 1) * 4 + 1, none⟩) lt1).trans c1
                  go_simp
                  first | exact ⟨rfl, hR, Below.refl _ _⟩ | exact ⟨⟨rfl, rfl⟩, hR, Below.refl _ _⟩ | exact ⟨⟨rfl, fun h => absurd h (by decide)⟩, hR, Below.refl _ _⟩ | exact ⟨⟨rfl, rfl, fun h => absurd h (by decide)⟩, hR, Below.refl _ _⟩
                | 13, _, ho =>
                  clear hsk
                  cases ho
                  have e50 : ev (.tmp 50) = I q := hd 5 50 (by kernel_rfl)
                  have e57 : ev (.tmp 57) = I ln := hd 12 57 (by kernel_rfl)
                  have ew : IntKind.i64.wrap (q - ln) = q - ln := IntWalk.i64_in _ (by omega)
                  go_simp
                  first | exact ⟨rfl, hR, Below.refl _ _⟩ | exact ⟨⟨rfl, rfl⟩, hR, Below.refl _ _⟩ | exact ⟨⟨rfl, fun h => absurd h (by decide)⟩, hR, Below.refl _ _⟩ | exact ⟨⟨rfl, rfl, fun h => absurd h (by decide)⟩, hR, Below.refl _ _⟩
                | 14, _, ho =>
                  clear hsk
                  cases ho
                  have e45 : ev (.tmp 45) = I P := hd 0 45 (by kernel_rfl)
                  have e58 : ev (.tmp 58) = I (q - ln) := hd 13 58 (by kernel_rfl)
                  go_simp
                  first | (first | exact ⟨⟨_, rfl, by omega, by omega, by omega⟩, hR, Below.refl _ _⟩ | exact ⟨⟨rfl, ⟨_, rfl, by omega, by omega, by omega⟩⟩, hR, Below.refl _ _⟩ | exact ⟨⟨⟨_, rfl, by omega, by omega, by omega⟩, fun h => absurd h (by decide)⟩, hR, Below.refl _ _⟩ | exact ⟨⟨rfl, ⟨_, rfl, by omega, by omega, by omega⟩, fun h => absurd h (by decide)⟩, hR, Below.refl _ _⟩) | (split <;> (first | exact ⟨⟨_, rfl, by omega, by omega, by omega⟩, hR, Below.refl _ _⟩ | exact ⟨⟨rfl, ⟨_, rfl, by omega, by omega, by omega⟩⟩, hR, Below.refl _ _⟩ | exact ⟨⟨⟨_, rfl, by omega, by omega, by omega⟩, fun h => absurd h (by decide)⟩, hR, Below.refl _ _⟩ | exact ⟨⟨rfl, ⟨_, rfl, by omega, by omega, by omega⟩, fun h => absurd h (by decide)⟩, hR, Below.refl _ _⟩))
                | n + 15, hi, _ => exact absurd hi (by simp)
              intro ρ wF hR hρ hne K hK
              obtain ⟨X, p14, hx1, hx2, hx3⟩ : ∃ y : Int, ρ 14 = I y ∧ y ≤ P ∧ y ≤ q - ln ∧ (y = P ∨ y = q - ln) := hρ 14 (by simp)
              show K (putAll _ _ ρ 15) _
              simp only [putAll, dOf, List.getElem?_toArray, List.getElem?_cons_zero, List.getElem?_cons_succ, Option.bind_some, Act.put, List.setIfInBounds_toArray, List.set_cons_zero, List.set_cons_succ]
              rw [p14]
              refine hK _ _ ?_
              change wpList _ _ _ [_] _ _
              clear hK K p14 hρ hne
              have hrF := own_below hrE hR
              have hbF := hbE.trans (hR.mono hbE.size)
              clear hR hrE hbE hbxE hBE hcE cg c1 ltg lt1 hsE
              have HX3 : Hid (X = rv ws sts ps (s : Int) k) := Lib.hid (by have := HX2.out; omega)
              clear hx1 hx2 hx3 HX2
              obtain ⟨i0, hi0, hz0, hz1, hz2⟩ := info_parts infoInt
              have hn1' := (Bx.new wF 3 #[I (X)]).news (cs := [I (X)])
              have hn2' : ∀ u ∈ [I (X)], u.oneCell' = true := by simp [Value.oneCell']
              have hn3' : k + 1 ≤ maxLen := by unfold maxLen; omega
              have hn4' : (k + 1) * 8 ≤ 140737488355328 := by omega
              have hn5' : wo.heap.size ≤ (wF.alloc (.cells #[I (X)] 3)).heap.size := by have := hbF.size; simp; omega
              have hn6' := hrF.alloc (.cells #[I (X)] 3)
              go_wp2_with (at_builtin; refine wpList_append_own _ rfl _ _ 25 rfl wo.heap.size 3 i0 _ 1 8 Try.underlying25 hi0 hz0 hz1 hz2 rfl (by decide) _ _ _ rfl hn6' ⟨wF.heap.size, 0, none⟩ 1 1 [I (X)] rfl rfl hn1' hn2' hn3' hn4' hn5' ?_)
              clear hn1' hn2' hn3' hn4' hn5' hn6'
              intro V' w8 hown8 hgr8 _
              have hb8 := below_own (hbF.alloc hbF.size (.cells #[I (X)] 3)) (hrF.alloc (.cells #[I (X)] 3)) (Nat.le_refl _) (by have := hbF.size; simp; omega) hgr8
              obtain ⟨B', cb', rfl, _, _⟩ := Sl.ofOwn2 hown8
              clear hgr8
              go_wp2
              go_roundw
              case rel => exact ⟨k + 1, by go_num, by omega, by rw [rowF_snoc, flat_snoc, ← HX3.out]; exact hown8, hb8⟩
              case measure => simp [intOf]; omega
          · have hst' : ¬ gI sts k ≤ (s : Int) := hst
            have hX : (-1 : Int) = rv ws sts ps (s : Int) k := by unfold rv; rw [if_neg hst]
            have HX2 : rv ws sts ps (s : Int) k = rv ws sts ps (s : Int) k := rfl
            clear HX2
            obtain ⟨i0, hi0, hz0, hz1, hz2⟩ := info_parts infoInt
            have hn1' := (Bx.new wr 3 #[I (rv ws sts ps (s : Int) k)]).news (cs := [I (rv ws sts ps (s : Int) k)])
            have hn2' : ∀ u ∈ [I (rv ws sts ps (s : Int) k)], u.oneCell' = true := by simp [Value.oneCell']
            have hn3' : k + 1 ≤ maxLen := by unfold maxLen; omega
            have hn4' : (k + 1) * 8 ≤ 140737488355328 := by omega
            have hn5' : wo.heap.size ≤ (wr.alloc (.cells #[I (rv ws sts ps (s : Int) k)] 3)).heap.size := by have := hbw.size; simp; omega
            have hn6' := hr11.alloc (.cells #[I (rv ws sts ps (s : Int) k)] 3)
            go_wp2_with (at_builtin; refine wpList_append_own _ rfl _ _ 25 rfl wo.heap.size 3 i0 _ 1 8 Try.underlying25 hi0 hz0 hz1 hz2 rfl (by decide) _ _ _ rfl hn6' ⟨wr.heap.size, 0, none⟩ 1 1 [I (rv ws sts ps (s : Int) k)] rfl rfl hn1' hn2' hn3' hn4' hn5' ?_)
            clear hn1' hn2' hn3' hn4' hn5' hn6'
            intro V' w8 hown8 hgr8 _
            have hb8 := below_own (hbw.alloc hbw.size (.cells #[I (rv ws sts ps (s : Int) k)] 3)) (hr11.alloc (.cells #[I (rv ws sts ps (s : Int) k)] 3)) (Nat.le_refl _) (by have := hbw.size; simp; omega) hgr8
            obtain ⟨B', cb', rfl, _, _⟩ := Sl.ofOwn2 hown8
            clear hgr8
            go_wp2
            go_roundw
            case rel => exact ⟨k + 1, by go_num, by omega, by rw [rowF_snoc, flat_snoc, ← (rfl : rv ws sts ps (s : Int) k = _)]; exact hown8, hb8⟩
            case measure => simp [intOf]; omega
        · have hki : ¬ ((k : Int) < ws.length) := by omega
          obtain rfl : k = ws.length := by omega
          have hownW := own_below hown hbw
          have hrowsW := hrows.grow hbw
          obtain ⟨i0, hi0, hz0, hz1, hz2⟩ := info_parts infoInts
          have hn1' := (Bx.new wr 25 #[.slice B11 ws.length c11]).news (cs := [.slice B11 ws.length c11])
          have hn2' : ∀ u ∈ [Value.slice B11 ws.length c11], u.oneCell' = true := by simp [Value.oneCell']
          have hn3' : s + 1 ≤ maxLen := by unfold maxLen; omega
          have hn4' : (s + 1) * 24 ≤ 140737488355328 := by omega
          have hn5' : w.heap.size ≤ (wr.alloc (.cells #[.slice B11 ws.length c11] 25)).heap.size := by have := hBW.size; simp; omega
          have hn6' := hownW.alloc (.cells #[.slice B11 ws.length c11] 25)
          go_wp2_with (at_builtin; refine wpList_append_own _ rfl _ _ 40 rfl w.heap.size 25 i0 _ 1 24 Try.underlying40 hi0 hz0 hz1 hz2 rfl (by decide) _ _ _ rfl hn6' ⟨wr.heap.size, 0, none⟩ 1 1 [.slice B11 ws.length c11] rfl rfl hn1' hn2' hn3' hn4' hn5' ?_)
          intro V' w8 hown8 hgr8 _
          have hb8 := below_own (hBW.alloc hBW.size (.cells #[.slice B11 ws.length c11] 25)) hn6' (Nat.le_refl _) hn5' hgr8
          have hbx8 := (hbx'.alloc (.cells #[.slice B11 ws.length c11] 25)).grown hgr8 (own_ne hn6' (hbx'.alloc _) (by decide))
          have hrows8 : RowsOK ws sts ps ws.length w8 (xs ++ [.slice B11 ws.length c11]) := fun j hj => by
            have hxl := HX.out
            by_cases hjl : j < xs.length
            · obtain ⟨Bj, cj, e1, e2⟩ := hrowsW j hjl
              exact ⟨Bj, cj, by rw [List.getElem?_append_left hjl]; exact e1, sl_own (Sl.alloc e2 _) hn6' hgr8 (by decide)⟩
            · obtain rfl : j = xs.length := by simp at hj; omega
              refine ⟨B11, c11, by simp, ?_⟩
              rw [hxl]
              exact sl_own (Sl.alloc hs11 _) hn6' hgr8 (by decide)
          obtain ⟨B', cb', rfl, _, _⟩ := Sl.ofOwn2 hown8
          clear hn1' hn2' hn3' hn4' hn5' hn6' hgr8 hownW hrowsW hcb
          go_wp2
          go_roundw
          case rel => exact ⟨s + 1, _, by go_num, by omega, by simp [HX.out], hown8, hrows8, hbx8, hb8⟩
          case measure => simp [intOf]; omega
    · have hlt' : ¬ ((s : Int) ≤ (L : Int)) := by omega
      obtain rfl : s = L + 1 := by omega
      go_wp2
      go_ret
      exact ⟨xs, _, rfl, hown, HX.out, hrows, hbel⟩
end Go.Proofs.Ytnihkgdkdinliaa
