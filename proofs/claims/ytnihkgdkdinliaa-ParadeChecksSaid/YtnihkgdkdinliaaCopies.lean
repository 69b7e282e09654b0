/- Copies of lists and schools, and what compares them. Own work. -/
import Derived.Test.YtnihkgdkdinliaaNarrowA
import Derived.Laws.AppendOwnNone
namespace Go.Proofs.Ytnihkgdkdinliaa
open Go.RowKit
set_option linter.unusedVariables false
set_option linter.unusedSimpArgs false

/-- A number is taken into 0 to n - 1. -/
theorem fit_c (x n : Int) (w : World) (h1 : 1 ≤ n) (h2 : n ≤ 1000000) :
    Calls Try.prog 20 #[I x, I n] w fun e w' => ∃ y : Int, e = .returned (I y) ∧ 0 ≤ y ∧ y < n ∧ Below w.heap.size w w' := by
  by_cases hn : n < 2
  · go_enter Try.func20, Try.ntmps20
    go_wp2
    go_ret
    exact ⟨0, rfl, by omega, by omega, Below.refl _ _⟩
  · have hz : ¬ n = 0 := by omega
    have b1 := Int.lt_tmod_of_pos x (show 0 < n by omega)
    have b2 := Int.tmod_lt_of_pos x (show 0 < n by omega)
    have ew : IntKind.i64.wrap (x.tmod n) = x.tmod n := IntWalk.i64_in _ (by omega)
    by_cases hs : x.tmod n < 0
    · have ew2 : IntKind.i64.wrap (x.tmod n + n) = x.tmod n + n := IntWalk.i64_in _ (by omega)
      go_enter Try.func20, Try.ntmps20
      go_wp2
      go_ret
      exact ⟨_, rfl, by omega, by omega, Below.refl _ _⟩
    · go_enter Try.func20, Try.ntmps20
      go_wp2
      go_ret
      exact ⟨_, rfl, by omega, by omega, Below.refl _ _⟩

/-- A slice without an address is nil. -/
def OkS (A : Option Addr) (n c : Nat) : Prop := A = none → n = 0 ∧ c = 0
theorem sl_add {w : World} {T : TypeId} {a : Addr} {xs : List Value} (h : Sl w T (some a) xs) : ∀ j u, xs[j]? = some u → w.cell? (a.add j) = some u := by
  intro j u hu
  rcases h with rfl | ⟨b, o, cs, fz, hA, hh, hc⟩
  · simp at hu
  · injection hA with hA
    subst hA
    have e : (⟨b, o, none⟩ : Addr).add j = ⟨b, o + j, none⟩ := by unfold Addr.add; split <;> simp_all
    rw [e]
    simp [World.cell?, hh, hc j u hu]

set_option maxHeartbeats 1000000 in
theorem ints2_c (A : Option Addr) (c : Nat) (zs : List Int) (T : TypeId) (w : World) (h1 : SlI w T A zs) (hA : OkS A zs.length c) (hl : zs.length ≤ 1000000) :
    Calls Try.prog 19 #[.slice A zs.length c] w fun e w' => ∃ v, e = .returned v ∧ w'.ownsRow w.heap.size 3 1 v zs.length (zs.map I) ∧ Below w.heap.size w w' := by
  obtain ⟨i0, hi0, hz0, hz1, hz2⟩ := info_parts infoInt
  have hown : (w.alloc (.cells #[] 3)).ownsRow w.heap.size 3 1 (.slice (some ⟨w.heap.size, 0, none⟩) 0 0) 0 [] := World.ownsRow_made (base := w.heap.size) (e := 3) (size := 1) w #[] 0 (by simp) (by decide) rfl
  have hB := (Below.refl w.heap.size w).alloc (Nat.le_refl _) (.cells #[] 3)
  go_enter Try.func19, Try.ntmps19
  cases A with
  | none =>
    obtain ⟨h0, rfl⟩ := hA rfl
    obtain rfl : zs = [] := List.eq_nil_of_length_eq_zero h0
    simp only [List.length_nil, List.map_nil] at *
    go_wp2_with (at_builtin; refine wpList_append_own_none rfl _ _ 25 rfl w.heap.size 3 i0 1 Try.underlying25 hi0 _ 0 [] rfl hown rfl ?_)
    go_ret
    exact ⟨_, rfl, hown, hB⟩
  | some ad =>
    have hnews := sl_add (h1.alloc (.cells #[] 3))
    go_wp2_with (at_builtin; refine wpList_append_own _ rfl _ _ 25 rfl w.heap.size 3 i0 _ 1 8 Try.underlying25 hi0 hz0 hz1 hz2 rfl (by decide) _ _ _ rfl hown ad zs.length c (zs.map I) rfl ?c1 ?c2 ?c3 ?c4 ?c5 ?c6 ?_)
    case c1 => simp
    case c2 => exact hnews
    case c3 => intro u hu; obtain ⟨z, _, rfl⟩ := List.mem_map.1 hu; rfl
    case c4 => unfold maxLen; omega
    case c5 => omega
    case c6 => simp
    intro V' w7 hown7 hgr7 _
    have hB7 := below_own hB hown (Nat.le_refl _) (by simp) hgr7
    (try simp only [List.nil_append, Nat.zero_add] at hown7)
    go_wp2
    go_ret
    exact ⟨_, rfl, hown7, hB7⟩

set_option maxRecDepth 100000 in
set_option maxHeartbeats 1000000 in
theorem ownSchool2_c (r : Int) (A : Option Addr) (c : Nat) (ws : List Wg) (T : TypeId) (w : World) (h1 : SlW w T A ws) (hA : OkS A ws.length c) (h8 : ws.length ≤ 1000000) :
    Calls Try.prog 18 #[.agg #[I r, .slice A ws.length c]] w fun e w' => ∃ v, e = .returned (.agg #[I r, v]) ∧ w'.ownsRow w.heap.size 29 4 v ws.length (ws.flatMap Wg.cells) ∧ Below w.heap.size w w' := by
  have x1 := (Bx.new w 24 #[I r, .slice A ws.length c]).alloc (.cells #[I 0, .slice none 0 0] 24)
  have x2 := Bx.new' (w.alloc (.cells #[I r, .slice A ws.length c] 24)) 24 #[I 0, .slice none 0 0] (w.heap.size + 1) (by simp)
  have hW := ((Below.refl w.heap.size w).alloc (Nat.le_refl _) (.cells #[I r, .slice A ws.length c] 24)).alloc (by simp) (.cells #[I 0, .slice none 0 0] 24)
  have hc1 := x1.cell
  go_enter Try.func18, Try.ntmps18
  obtain ⟨i0, hi0, hz0, hz1, hz2⟩ := info_parts infoWing
  have hsz : ((w.alloc (.cells #[I r, .slice A ws.length c] 24)).alloc (.cells #[I 0, .slice none 0 0] 24)).heap.size = w.heap.size + 2 := by simp
  have hown : (((w.alloc (.cells #[I r, .slice A ws.length c] 24)).alloc (.cells #[I 0, .slice none 0 0] 24)).alloc (.cells #[] 29)).ownsRow (w.heap.size + 2) 29 4 (.slice (some ⟨w.heap.size + 2, 0, none⟩) 0 0) 0 [] := by
    have := World.ownsRow_made (base := w.heap.size + 2) (e := 29) (size := 4) ((w.alloc (.cells #[I r, .slice A ws.length c] 24)).alloc (.cells #[I 0, .slice none 0 0] 24)) #[] 0 (by simp) (by decide) rfl
    rwa [hsz] at this
  have hnn := (((h1.alloc (.cells #[I r, .slice A ws.length c] 24)).alloc (.cells #[I 0, .slice none 0 0] 24)).alloc (.cells #[] 29))
  cases A with
  | none =>
    obtain ⟨h0, rfl⟩ := hA rfl
    obtain rfl : ws = [] := List.eq_nil_of_length_eq_zero h0
    simp only [List.length_nil, List.flatMap_nil] at *
    go_wp2_with (at_builtin; refine wpList_append_own_none rfl _ _ 22 rfl (w.heap.size + 2) 29 i0 4 Try.underlying22 hi0 _ 0 [] rfl hown rfl ?_)
    have hc1 := (x1.alloc (.cells #[] 29)).cell
    have hf1 := (x1.alloc (.cells #[] 29)).free
    have hc2 := (x2.alloc (.cells #[] 29)).cell
    have hf2 := (x2.alloc (.cells #[] 29)).free
    have y3 := ((x2.alloc (.cells #[] 29)).far (p := ⟨w.heap.size, 1, none⟩) (by simp only []; omega) (.slice (some ⟨w.heap.size + 2, 0, none⟩) 0 0))
    have y4 := (y3.set_ 0 (I r)).set_ 1 (.slice (some ⟨w.heap.size + 2, 0, none⟩) 0 0)
    have hce := y4.cell
    have hmk := fun X Y : Obj => World.ownsRow_made (base := w.heap.size) (e := 29) (size := 4) ((w.alloc X).alloc Y) #[] 0 (by simp; omega) (by decide) rfl
    clear hown hnn
    go_wp2
    refine bodyPost_ret (v := .agg #[I r, .slice (some ⟨w.heap.size + 2, 0, none⟩) 0 0]) (by simp [results, Try.results18, go_sem, hce]) rfl ⟨_, rfl, by simpa using hmk _ _, (((Below.refl _ _).alloc (Nat.le_refl _) _).alloc (by simp) _).alloc (by simp; omega) _⟩
  | some ad =>
    have hnews := sl_add hnn
    go_wp2_with (at_builtin; refine wpList_append_own _ rfl _ _ 22 rfl (w.heap.size + 2) 29 i0 _ 4 40 Try.underlying22 hi0 hz0 hz1 hz2 rfl (by decide) _ _ _ rfl hown ad ws.length c (ws.flatMap Wg.cells) rfl ?c1 ?c2 ?c3 ?c4 ?c5 ?c6 ?_)
    case c1 => rw [length_wings]; omega
    case c2 => exact hnews
    case c3 => intro u hu; obtain ⟨g, _, hg⟩ := List.mem_flatMap.1 hu; simp [Wg.cells] at hg; rcases hg with rfl | rfl | rfl | rfl <;> rfl
    case c4 => unfold maxLen; omega
    case c5 => omega
    case c6 => simp
    intro V' w7 hown7 hgr7 hnil
    (try simp only [List.nil_append, Nat.zero_add] at hown7)
    have hB7 := below_own (hW.alloc (by simp; omega) (.cells #[] 29)) hown (by omega) (by simp; omega) hgr7
    have y1 := (x1.alloc (.cells #[] 29)).grown hgr7 (by simp [Value.ownBlock])
    have y2 := (x2.alloc (.cells #[] 29)).grown hgr7 (by simp [Value.ownBlock])
    obtain ⟨A', cap, rfl, _, _⟩ := Sl.ofOwn2 hown7
    have hkeep : ∀ u1 u2 u3 : Value, (((w7.setCell ⟨w.heap.size, 1, none⟩ u1).setCell ⟨w.heap.size + 1, 0, none⟩ u2).setCell ⟨w.heap.size + 1, 1, none⟩ u3).ownsRow w.heap.size 29 4 (.slice A' ws.length cap) ws.length (ws.flatMap Wg.cells) := by
      intro u1 u2 u3
      refine ⟨hown7.1, ?_⟩
      rcases hown7.2 with h | ⟨g, cp, cur, e, hg, hh, rest⟩
      · exact .inl h
      · exact .inr ⟨g, cp, cur, e, by omega, by rw [Below.heap_setCell _ _ _ _ (by simp only []; omega), Below.heap_setCell _ _ _ _ (by simp only []; omega), Below.heap_setCell _ _ _ _ (by simp only []; omega)]; exact hh, rest⟩
    clear hown hown7 hW hc1 hnn x1 x2 hsz hgr7 hnews hnil
    have hc1 := y1.cell
    have hf1 := y1.free
    have hc2 := y2.cell
    have hf2 := y2.free
    have y3 := (y2.far (p := ⟨w.heap.size, 1, none⟩) (by simp only []; omega) (.slice A' ws.length cap))
    have y4 := (y3.set_ 0 (I r)).set_ 1 (.slice A' ws.length cap)
    have hce := y4.cell
    go_wp2
    refine bodyPost_ret (v := .agg #[I r, .slice A' ws.length cap]) (by simp [results, Try.results18, go_sem, hce]) rfl ⟨_, rfl, hkeep _ _ _, ?_⟩
    exact ((hB7.setCell (p := ⟨w.heap.size, 1, none⟩) (Nat.le_refl _) _).setCell (p := ⟨w.heap.size + 1, 0, none⟩) (by simp only []; omega) _).setCell (p := ⟨w.heap.size + 1, 1, none⟩) (by simp only []; omega) _

set_option maxRecDepth 100000 in
set_option maxHeartbeats 1000000 in
theorem eqSchools_c (r : Int) (A B : Option Addr) (c d : Nat) (ws : List Wg) (T T' : TypeId) (w : World) (h1 : SlW w T A ws) (h2 : SlW w T' B ws) (hl : ws.length ≤ 1000000) :
    Calls Try.prog 28 #[.agg #[I r, .slice A ws.length c], .agg #[I r, .slice B ws.length d]] w fun e w' => e = .returned (.bool true) ∧ Below w.heap.size w w' := by
  have x0 := (Bx.new w 24 #[I r, .slice A ws.length c]).alloc (.cells #[I r, .slice B ws.length d] 24)
  have y0 := Bx.new' (w.alloc (.cells #[I r, .slice A ws.length c] 24)) 24 #[I r, .slice B ws.length d] (w.heap.size + 1) (by simp)
  have hB0 := ((Below.refl w.heap.size w).alloc (Nat.le_refl _) (.cells #[I r, .slice A ws.length c] 24)).alloc (by simp) (.cells #[I r, .slice B ws.length d] 24)
  have hcx := x0.cell
  have hcy := y0.cell
  go_enter Try.func28, Try.ntmps28
  go_wp2
  clear hcx hcy
  go_loopw [5] (fun i wr => ∃ k : Nat, i = .int .i64 k ∧ k ≤ ws.length ∧ Below w.heap.size w wr ∧ Bx wr w.heap.size 24 #[I r, .slice A ws.length c] ∧ Bx wr (w.heap.size + 1) 24 #[I r, .slice B ws.length d]) (fun i _ => ws.length - (intOf i).toNat)
  case atStart => exact ⟨0, rfl, by omega, hB0, x0, y0⟩
  case round =>
    obtain ⟨k, rfl, hk, hbel, hx, hy⟩ := hrel
    have hcx := hx.cell
    have hcy := hy.cell
    by_cases hlt : k < ws.length
    · obtain ⟨b1, o1, rfl, _⟩ := SlW.some_ h1 hlt
      obtain ⟨b2, o2, rfl, _⟩ := SlW.some_ h2 hlt
      go_wp2_with fail
      refine wp_region_list_s (by kernel_rfl) (R := RB wr.heap.size wr) (F := FB) [] [] []
          [As.is _ _ (.pointer (some ⟨w.heap.size, 1, none⟩)),
          As.is _ _ (.slice (some ⟨b1, o1, none⟩) ws.length c),
          As.is _ _ (I (k : Int)),
          As.is _ _ (.pointer (some ⟨b1, o1 + k * 4, none⟩)),
          As.is _ _ (.agg #[.string (gW ws k).name, I (gW ws k).len, I (gW ws k).lo, I (gW ws k).hi]),
          As.is _ _ (.pointer (some ⟨w.heap.size + 1, 1, none⟩)),
          As.is _ _ (.slice (some ⟨b2, o2, none⟩) ws.length d),
          As.is _ _ (I (k : Int)),
          As.is _ _ (.pointer (some ⟨b2, o2 + k * 4, none⟩)),
          As.is _ _ (.agg #[.string (gW ws k).name, I (gW ws k).len, I (gW ws k).lo, I (gW ws k).hi]),
          As.is _ _ (.bool false)] 38 (by kernel_rfl) rfl ((Below.refl _ _).drew) (by simp) (by simp) ?_ (fun _ => Below.refl _ _) ?_ ?_ ?_
      · intro i' hi' o' ho k' b' hg u w' hR hu
        match i', hi', ho with
        | 0, _, ho => cases ho; cases hg
        | 1, _, ho => cases ho; cases hg
        | 2, _, ho => cases ho; cases hg
        | 3, _, ho => cases ho; cases hg
        | 4, _, ho => cases ho; cases hg
        | 5, _, ho => cases ho; cases hg
        | 6, _, ho => cases ho; cases hg
        | 7, _, ho => cases ho; cases hg
        | 8, _, ho => cases ho; cases hg
        | 9, _, ho => cases ho; cases hg
        | 10, _, ho => cases ho; cases hg
        | n + 11, hi, _ => exact absurd hi (by simp)
      · intro i' hi' hsk; cases hsk
      · intro i' hi' hsk o' ho ev w' hR hc hf hg hs hd
        match i', hi', ho with
        | 0, _, ho =>
          clear hsk
          cases ho
          have e2 : ev (.tmp 2) = .pointer (some ⟨w.heap.size, 0, none⟩) := hs 2 (by kernel_rfl)
          go_simp
          first | exact ⟨rfl, hR, Below.refl _ _⟩ | exact ⟨⟨rfl, rfl⟩, hR, Below.refl _ _⟩ | exact ⟨⟨rfl, fun h => absurd h (by decide)⟩, hR, Below.refl _ _⟩ | exact ⟨⟨rfl, rfl, fun h => absurd h (by decide)⟩, hR, Below.refl _ _⟩
        | 1, _, ho =>
          clear hsk
          cases ho
          have e27 : ev (.tmp 27) = .pointer (some ⟨w.heap.size, 1, none⟩) := hd 0 27 (by kernel_rfl)
          have m2 := (hx.below hR hx.lt).cell
          go_simp
          first | exact ⟨rfl, hR, Below.refl _ _⟩ | exact ⟨⟨rfl, rfl⟩, hR, Below.refl _ _⟩ | exact ⟨⟨rfl, fun h => absurd h (by decide)⟩, hR, Below.refl _ _⟩ | exact ⟨⟨rfl, rfl, fun h => absurd h (by decide)⟩, hR, Below.refl _ _⟩
        | 2, _, ho =>
          clear hsk
          cases ho
          have e5 : ev (.tmp 5) = I (k : Int) := hs 5 (by kernel_rfl)
          go_simp
          first | exact ⟨rfl, hR, Below.refl _ _⟩ | exact ⟨⟨rfl, rfl⟩, hR, Below.refl _ _⟩ | exact ⟨⟨rfl, fun h => absurd h (by decide)⟩, hR, Below.refl _ _⟩ | exact ⟨⟨rfl, rfl, fun h => absurd h (by decide)⟩, hR, Below.refl _ _⟩
        | 3, _, ho =>
          clear hsk
          cases ho
          have e28 : ev (.tmp 28) = .slice (some ⟨b1, o1, none⟩) ws.length c := hd 1 28 (by kernel_rfl)
          have e29 : ev (.tmp 29) = I (k : Int) := hd 2 29 (by kernel_rfl)
          have hkl : (k : Int) < (ws.length : Int) := by omega
          go_simp
          first | exact ⟨rfl, hR, Below.refl _ _⟩ | exact ⟨⟨rfl, rfl⟩, hR, Below.refl _ _⟩ | exact ⟨⟨rfl, fun h => absurd h (by decide)⟩, hR, Below.refl _ _⟩ | exact ⟨⟨rfl, rfl, fun h => absurd h (by decide)⟩, hR, Below.refl _ _⟩
        | 4, _, ho =>
          clear hsk
          cases ho
          have e30 : ev (.tmp 30) = .pointer (some ⟨b1, o1 + k * 4, none⟩) := hd 3 30 (by kernel_rfl)
          obtain ⟨m4, m5, m6, m7⟩ := SlW.cellG (h1.below (hbel.trans (hR.mono hbel.size)) (Nat.le_refl _)) hlt
          go_simp
          first | exact ⟨rfl, hR, Below.refl _ _⟩ | exact ⟨⟨rfl, rfl⟩, hR, Below.refl _ _⟩ | exact ⟨⟨rfl, fun h => absurd h (by decide)⟩, hR, Below.refl _ _⟩ | exact ⟨⟨rfl, rfl, fun h => absurd h (by decide)⟩, hR, Below.refl _ _⟩
        | 5, _, ho =>
          clear hsk
          cases ho
          have e3 : ev (.tmp 3) = .pointer (some ⟨w.heap.size + 1, 0, none⟩) := hs 3 (by kernel_rfl)
          go_simp
          first | exact ⟨rfl, hR, Below.refl _ _⟩ | exact ⟨⟨rfl, rfl⟩, hR, Below.refl _ _⟩ | exact ⟨⟨rfl, fun h => absurd h (by decide)⟩, hR, Below.refl _ _⟩ | exact ⟨⟨rfl, rfl, fun h => absurd h (by decide)⟩, hR, Below.refl _ _⟩
        | 6, _, ho =>
          clear hsk
          cases ho
          have e32 : ev (.tmp 32) = .pointer (some ⟨w.heap.size + 1, 1, none⟩) := hd 5 32 (by kernel_rfl)
          have m3 := (hy.below hR hy.lt).cell
          go_simp
          first | exact ⟨rfl, hR, Below.refl _ _⟩ | exact ⟨⟨rfl, rfl⟩, hR, Below.refl _ _⟩ | exact ⟨⟨rfl, fun h => absurd h (by decide)⟩, hR, Below.refl _ _⟩ | exact ⟨⟨rfl, rfl, fun h => absurd h (by decide)⟩, hR, Below.refl _ _⟩
        | 7, _, ho =>
          clear hsk
          cases ho
          have e5 : ev (.tmp 5) = I (k : Int) := hs 5 (by kernel_rfl)
          go_simp
          first | exact ⟨rfl, hR, Below.refl _ _⟩ | exact ⟨⟨rfl, rfl⟩, hR, Below.refl _ _⟩ | exact ⟨⟨rfl, fun h => absurd h (by decide)⟩, hR, Below.refl _ _⟩ | exact ⟨⟨rfl, rfl, fun h => absurd h (by decide)⟩, hR, Below.refl _ _⟩
        | 8, _, ho =>
          clear hsk
          cases ho
          have e33 : ev (.tmp 33) = .slice (some ⟨b2, o2, none⟩) ws.length d := hd 6 33 (by kernel_rfl)
          have e34 : ev (.tmp 34) = I (k : Int) := hd 7 34 (by kernel_rfl)
          have hkl : (k : Int) < (ws.length : Int) := by omega
          go_simp
          first | exact ⟨rfl, hR, Below.refl _ _⟩ | exact ⟨⟨rfl, rfl⟩, hR, Below.refl _ _⟩ | exact ⟨⟨rfl, fun h => absurd h (by decide)⟩, hR, Below.refl _ _⟩ | exact ⟨⟨rfl, rfl, fun h => absurd h (by decide)⟩, hR, Below.refl _ _⟩
        | 9, _, ho =>
          clear hsk
          cases ho
          have e35 : ev (.tmp 35) = .pointer (some ⟨b2, o2 + k * 4, none⟩) := hd 8 35 (by kernel_rfl)
          obtain ⟨m4, m5, m6, m7⟩ := SlW.cellG (h2.below (hbel.trans (hR.mono hbel.size)) (Nat.le_refl _)) hlt
          go_simp
          first | exact ⟨rfl, hR, Below.refl _ _⟩ | exact ⟨⟨rfl, rfl⟩, hR, Below.refl _ _⟩ | exact ⟨⟨rfl, fun h => absurd h (by decide)⟩, hR, Below.refl _ _⟩ | exact ⟨⟨rfl, rfl, fun h => absurd h (by decide)⟩, hR, Below.refl _ _⟩
        | 10, _, ho =>
          clear hsk
          cases ho
          have e31 : ev (.tmp 31) = .agg #[.string (gW ws k).name, I (gW ws k).len, I (gW ws k).lo, I (gW ws k).hi] := hd 4 31 (by kernel_rfl)
          have e36 : ev (.tmp 36) = .agg #[.string (gW ws k).name, I (gW ws k).len, I (gW ws k).lo, I (gW ws k).hi] := hd 9 36 (by kernel_rfl)
          go_simp
          first | exact ⟨rfl, hR, Below.refl _ _⟩ | exact ⟨⟨rfl, rfl⟩, hR, Below.refl _ _⟩ | exact ⟨⟨rfl, fun h => absurd h (by decide)⟩, hR, Below.refl _ _⟩ | exact ⟨⟨rfl, rfl, fun h => absurd h (by decide)⟩, hR, Below.refl _ _⟩
        | n + 11, hi, _ => exact absurd hi (by simp)
      intro ρ wE hR hρ hne K hK
      have p10 : ρ 10 = .bool false := hρ 10 (by simp)
      show K (putAll _ _ ρ 11) _
      simp only [putAll, dOf, List.getElem?_toArray, List.getElem?_cons_zero, List.getElem?_cons_succ, Option.bind_some, Act.put, List.setIfInBounds_toArray, List.set_cons_zero, List.set_cons_succ]
      rw [p10]
      refine hK _ _ ?_
      change wpList _ _ _ [] _ _
      have hb' := hbel.trans (hR.mono hbel.size)
      have hx' := hx.below hR hx.lt
      have hy' := hy.below hR hy.lt
      clear hcx hcy hx hy hK K p10 hρ hne hR hbel
      go_wp2
      go_roundw
      case rel => exact ⟨k + 1, by go_num, by omega, hb', hx', hy'⟩
      case measure => simp [intOf]; omega
    · go_wp2
      go_ret
      exact ⟨rfl, hbel⟩
end Go.Proofs.Ytnihkgdkdinliaa
