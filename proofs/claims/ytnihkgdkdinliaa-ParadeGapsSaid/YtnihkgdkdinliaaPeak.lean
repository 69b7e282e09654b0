/- The widest gap while a wing is watched, as the program finds it. Own work. -/
import Derived.Test.YtnihkgdkdinliaaSearch
import Derived.Test.YtnihkgdkdinliaaPeakM
import Derived.Test.YtnihkgdkdinliaaGapP
import Derived.Test.YtnihkgdkdinliaaRegionD
namespace Go.Proofs.Ytnihkgdkdinliaa
open Go.RowKit
set_option linter.unusedVariables false
set_option linter.unusedSimpArgs false

/-- The method value gap of a truth. -/
def gv (T : Value) : Value := .func (.func 86) #[T] #[]

set_option maxRecDepth 100000 in
set_option maxHeartbeats 1000000 in
theorem peak1_c (T : Value) (G : Int → Int) (wing from_ : Int) (bg bw bf : Nat) (i : Nat) (W : World) (hbg : Bx W bg 38 #[gv T]) (hbw : Bx W bw 3 #[I wing]) (hbf : Bx W bf 3 #[I from_])
    (h1 : -1000000 ≤ from_) (h2 : from_ ≤ 1000000) (h3 : i ≤ 4000000)
    (hgap : ∀ W', Below W.heap.size W W' → ∀ t : Int, t = from_ + i ∨ t = from_ + i + 1 → Calls Try.prog 86 #[T, I wing, I t] W' fun e w' => e = .returned (I (G t)) ∧ Below W'.heap.size W' w') :
    Calls Try.prog 117 #[I (i : Int), .pointer (some ⟨bg, 0, none⟩), .pointer (some ⟨bw, 0, none⟩), .pointer (some ⟨bf, 0, none⟩)] W fun e w' => e = .returned (.bool (decide (G (from_ + i + 1) ≤ G (from_ + i)))) ∧ Below W.heap.size W w' := by
  unfold gv at hbg
  go_enter Try.func117, Try.ntmps117
  go_wp2_with fail
  refine wp_region_list_s (by kernel_rfl) (R := RB W.heap.size W) (F := FB) [] [] []
      [As.is _ _ (.func (.func 86) #[T] #[]),
      As.is _ _ (I wing),
      As.is _ _ (I from_),
      As.is _ _ (I (i : Int)),
      As.is _ _ (I (from_ + i)),
      As.is _ _ (I (from_ + i + 1)),
      As.is _ _ (I (G (from_ + i + 1))),
      As.is _ _ (.func (.func 86) #[T] #[]),
      As.is _ _ (I wing),
      As.is _ _ (I from_),
      As.is _ _ (I (i : Int)),
      As.is _ _ (I (from_ + i)),
      As.is _ _ (I (G (from_ + i))),
      As.is _ _ (.bool (decide (G (from_ + i + 1) ≤ G (from_ + i)))),
      As.is _ _ (.bool (decide (G (from_ + i + 1) ≤ G (from_ + i))))] 20 (by kernel_rfl) rfl ((Below.refl _ _).drew) (by simp) (by simp) ?_ (fun _ => Below.refl _ _) ?_ ?_ ?_
  · intro i' hi' o' ho k' b' hg u w' hR hu
    match i', hi', ho with
    | 0, _, ho => cases ho; cases hg
    | 1, _, ho => cases ho; cases hg
    | 2, _, ho => cases ho; cases hg
    | 3, _, ho => cases ho; cases hg
    | 4, _, ho => cases ho; cases hg
    | 5, _, ho => cases ho; cases hg
    | 6, _, ho => cases ho; cases hg
    | 7, _, ho => cases ho; cases hg
    | 8, _, ho => cases ho; cases hg
    | 9, _, ho => cases ho; cases hg
    | 10, _, ho => cases ho; cases hg
    | 11, _, ho => cases ho; cases hg
    | 12, _, ho => cases ho; cases hg
    | 13, _, ho => cases ho; cases hg
    | 14, _, ho => cases ho; cases hg
    | n + 15, hi, _ => exact absurd hi (by simp)
  · intro i' hi' hsk; cases hsk
  · intro i' hi' hsk o' ho ev w' hR hc hf hg hs hd
    match i', hi', ho with
    | 0, _, ho =>
      clear hsk
      cases ho
      have e1 : ev (.tmp 1) = .pointer (some ⟨bg, 0, none⟩) := hs 1 (by kernel_rfl)
      have m1 := (hbg.below hR hbg.lt).cell
      go_simp
      first | exact ⟨rfl, hR, Below.refl _ _⟩ | exact ⟨⟨rfl, rfl⟩, hR, Below.refl _ _⟩ | exact ⟨⟨rfl, fun h => absurd h (by decide)⟩, hR, Below.refl _ _⟩ | exact ⟨⟨rfl, rfl, fun h => absurd h (by decide)⟩, hR, Below.refl _ _⟩
    | 1, _, ho =>
      clear hsk
      cases ho
      have e2 : ev (.tmp 2) = .pointer (some ⟨bw, 0, none⟩) := hs 2 (by kernel_rfl)
      have m2 := (hbw.below hR hbw.lt).cell
      go_simp
      first | exact ⟨rfl, hR, Below.refl _ _⟩ | exact ⟨⟨rfl, rfl⟩, hR, Below.refl _ _⟩ | exact ⟨⟨rfl, fun h => absurd h (by decide)⟩, hR, Below.refl _ _⟩ | exact ⟨⟨rfl, rfl, fun h => absurd h (by decide)⟩, hR, Below.refl _ _⟩
    | 2, _, ho =>
      clear hsk
      cases ho
      have e3 : ev (.tmp 3) = .pointer (some ⟨bf, 0, none⟩) := hs 3 (by kernel_rfl)
      have m3 := (hbf.below hR hbf.lt).cell
      go_simp
      first | exact ⟨rfl, hR, Below.refl _ _⟩ | exact ⟨⟨rfl, rfl⟩, hR, Below.refl _ _⟩ | exact ⟨⟨rfl, fun h => absurd h (by decide)⟩, hR, Below.refl _ _⟩ | exact ⟨⟨rfl, rfl, fun h => absurd h (by decide)⟩, hR, Below.refl _ _⟩
    | 3, _, ho =>
      clear hsk
      cases ho
      have e0 : ev (.tmp 0) = I (i : Int) := hs 0 (by kernel_rfl)
      go_simp
      first | exact ⟨rfl, hR, Below.refl _ _⟩ | exact ⟨⟨rfl, rfl⟩, hR, Below.refl _ _⟩ | exact ⟨⟨rfl, fun h => absurd h (by decide)⟩, hR, Below.refl _ _⟩ | exact ⟨⟨rfl, rfl, fun h => absurd h (by decide)⟩, hR, Below.refl _ _⟩
    | 4, _, ho =>
      clear hsk
      cases ho
      have e8 : ev (.tmp 8) = I from_ := hd 2 8 (by kernel_rfl)
      have e9 : ev (.tmp 9) = I (i : Int) := hd 3 9 (by kernel_rfl)
      have ew : IntKind.i64.wrap (from_ + i) = from_ + i := IntWalk.i64_in _ (by omega)
      go_simp
      first | exact ⟨rfl, hR, Below.refl _ _⟩ | exact ⟨⟨rfl, rfl⟩, hR, Below.refl _ _⟩ | exact ⟨⟨rfl, fun h => absurd h (by decide)⟩, hR, Below.refl _ _⟩ | exact ⟨⟨rfl, rfl, fun h => absurd h (by decide)⟩, hR, Below.refl _ _⟩
    | 5, _, ho =>
      clear hsk
      cases ho
      have e10 : ev (.tmp 10) = I (from_ + i) := hd 4 10 (by kernel_rfl)
      have ew : IntKind.i64.wrap (from_ + i + 1) = from_ + i + 1 := IntWalk.i64_in _ (by omega)
      go_simp
      first | exact ⟨rfl, hR, Below.refl _ _⟩ | exact ⟨⟨rfl, rfl⟩, hR, Below.refl _ _⟩ | exact ⟨⟨rfl, fun h => absurd h (by decide)⟩, hR, Below.refl _ _⟩ | exact ⟨⟨rfl, rfl, fun h => absurd h (by decide)⟩, hR, Below.refl _ _⟩
    | 6, _, ho =>
      clear hsk
      cases ho
      have e6 : ev (.tmp 6) = .func (.func 86) #[T] #[] := hd 0 6 (by kernel_rfl)
      have e7 : ev (.tmp 7) = I wing := hd 1 7 (by kernel_rfl)
      have e11 : ev (.tmp 11) = I (from_ + i + 1) := hd 5 11 (by kernel_rfl)
      go_simp
      refine (hgap w' hR (from_ + i + 1) (.inr rfl)).mono ?_
      rintro e wz ⟨rfl, hwz⟩
      first | exact ⟨rfl, hR.trans (hwz.mono hR.size), hwz⟩ | exact ⟨⟨rfl, rfl⟩, hR.trans (hwz.mono hR.size), hwz⟩ | exact ⟨⟨rfl, fun h => absurd h (by decide)⟩, hR.trans (hwz.mono hR.size), hwz⟩ | exact ⟨⟨rfl, rfl, fun h => absurd h (by decide)⟩, hR.trans (hwz.mono hR.size), hwz⟩
    | 7, _, ho =>
      clear hsk
      cases ho
      have e1 : ev (.tmp 1) = .pointer (some ⟨bg, 0, none⟩) := hs 1 (by kernel_rfl)
      have m1 := (hbg.below hR hbg.lt).cell
      go_simp
      first | exact ⟨rfl, hR, Below.refl _ _⟩ | exact ⟨⟨rfl, rfl⟩, hR, Below.refl _ _⟩ | exact ⟨⟨rfl, fun h => absurd h (by decide)⟩, hR, Below.refl _ _⟩ | exact ⟨⟨rfl, rfl, fun h => absurd h (by decide)⟩, hR, Below.refl _ _⟩
    | 8, _, ho =>
      clear hsk
      cases ho
      have e2 : ev (.tmp 2) = .pointer (some ⟨bw, 0, none⟩) := hs 2 (by kernel_rfl)
      have m2 := (hbw.below hR hbw.lt).cell
      go_simp
      first | exact ⟨rfl, hR, Below.refl _ _⟩ | exact ⟨⟨rfl, rfl⟩, hR, Below.refl _ _⟩ | exact ⟨⟨rfl, fun h => absurd h (by decide)⟩, hR, Below.refl _ _⟩ | exact ⟨⟨rfl, rfl, fun h => absurd h (by decide)⟩, hR, Below.refl _ _⟩
    | 9, _, ho =>
      clear hsk
      cases ho
      have e3 : ev (.tmp 3) = .pointer (some ⟨bf, 0, none⟩) := hs 3 (by kernel_rfl)
      have m3 := (hbf.below hR hbf.lt).cell
      go_simp
      first | exact ⟨rfl, hR, Below.refl _ _⟩ | exact ⟨⟨rfl, rfl⟩, hR, Below.refl _ _⟩ | exact ⟨⟨rfl, fun h => absurd h (by decide)⟩, hR, Below.refl _ _⟩ | exact ⟨⟨rfl, rfl, fun h => absurd h (by decide)⟩, hR, Below.refl _ _⟩
    | 10, _, ho =>
      clear hsk
      cases ho
      have e0 : ev (.tmp 0) = I (i : Int) := hs 0 (by kernel_rfl)
      go_simp
      first | exact ⟨rfl, hR, Below.refl _ _⟩ | exact ⟨⟨rfl, rfl⟩, hR, Below.refl _ _⟩ | exact ⟨⟨rfl, fun h => absurd h (by decide)⟩, hR, Below.refl _ _⟩ | exact ⟨⟨rfl, rfl, fun h => absurd h (by decide)⟩, hR, Below.refl _ _⟩
    | 11, _, ho =>
      clear hsk
      cases ho
      have e15 : ev (.tmp 15) = I from_ := hd 9 15 (by kernel_rfl)
      have e16 : ev (.tmp 16) = I (i : Int) := hd 10 16 (by kernel_rfl)
      have ew : IntKind.i64.wrap (from_ + i) = from_ + i := IntWalk.i64_in _ (by omega)
      go_simp
      first | exact ⟨rfl, hR, Below.refl _ _⟩ | exact ⟨⟨rfl, rfl⟩, hR, Below.refl _ _⟩ | exact ⟨⟨rfl, fun h => absurd h (by decide)⟩, hR, Below.refl _ _⟩ | exact ⟨⟨rfl, rfl, fun h => absurd h (by decide)⟩, hR, Below.refl _ _⟩
    | 12, _, ho =>
      clear hsk
      cases ho
      have e13 : ev (.tmp 13) = .func (.func 86) #[T] #[] := hd 7 13 (by kernel_rfl)
      have e14 : ev (.tmp 14) = I wing := hd 8 14 (by kernel_rfl)
      have e17 : ev (.tmp 17) = I (from_ + i) := hd 11 17 (by kernel_rfl)
      go_simp
      refine (hgap w' hR (from_ + i) (.inl rfl)).mono ?_
      rintro e wz ⟨rfl, hwz⟩
      first | exact ⟨rfl, hR.trans (hwz.mono hR.size), hwz⟩ | exact ⟨⟨rfl, rfl⟩, hR.trans (hwz.mono hR.size), hwz⟩ | exact ⟨⟨rfl, fun h => absurd h (by decide)⟩, hR.trans (hwz.mono hR.size), hwz⟩ | exact ⟨⟨rfl, rfl, fun h => absurd h (by decide)⟩, hR.trans (hwz.mono hR.size), hwz⟩
    | 13, _, ho =>
      clear hsk
      cases ho
      have e12 : ev (.tmp 12) = I (G (from_ + i + 1)) := hd 6 12 (by kernel_rfl)
      have e18 : ev (.tmp 18) = I (G (from_ + i)) := hd 12 18 (by kernel_rfl)
      go_simp
      first | exact ⟨rfl, hR, Below.refl _ _⟩ | exact ⟨⟨rfl, rfl⟩, hR, Below.refl _ _⟩ | exact ⟨⟨rfl, fun h => absurd h (by decide)⟩, hR, Below.refl _ _⟩ | exact ⟨⟨rfl, rfl, fun h => absurd h (by decide)⟩, hR, Below.refl _ _⟩
    | 14, _, ho =>
      clear hsk
      cases ho
      have e19 : ev (.tmp 19) = .bool (decide (G (from_ + i + 1) ≤ G (from_ + i))) := hd 13 19 (by kernel_rfl)
      go_simp
      first | exact ⟨rfl, hR, Below.refl _ _⟩ | exact ⟨⟨rfl, rfl⟩, hR, Below.refl _ _⟩ | exact ⟨⟨rfl, fun h => absurd h (by decide)⟩, hR, Below.refl _ _⟩ | exact ⟨⟨rfl, rfl, fun h => absurd h (by decide)⟩, hR, Below.refl _ _⟩
    | n + 15, hi, _ => exact absurd hi (by simp)
  intro ρ wE hR hρ hne K hK
  have p14 : ρ 14 = .bool (decide (G (from_ + i + 1) ≤ G (from_ + i))) := hρ 14 (by simp)
  show K (putAll _ _ ρ 15) _
  simp only [putAll, dOf, List.getElem?_toArray, List.getElem?_cons_zero, List.getElem?_cons_succ, Option.bind_some, Act.put, List.setIfInBounds_toArray, List.set_cons_zero, List.set_cons_succ]
  rw [p14]
  refine hK _ _ ?_
  change wpList _ _ _ [] _ _
  clear hK K p14 hρ hne
  go_wp2
  go_ret
  exact ⟨rfl, hR⟩

/-- What holds in peak. -/
def PkR (T : Value) (wing from_ : Int) (w w' : World) : Prop :=
  Bx w' w.heap.size 38 #[gv T] ∧ Bx w' (w.heap.size + 1) 3 #[I wing] ∧ Bx w' (w.heap.size + 1 + 1) 3 #[I from_] ∧ Below w.heap.size w w'
theorem PkR.grow {T : Value} {wing from_ : Int} {w w' w'' : World} (h : PkR T wing from_ w w') (hb : Below w'.heap.size w' w'') : PkR T wing from_ w w'' :=
  ⟨h.1.below hb h.1.lt, h.2.1.below hb h.2.1.lt, h.2.2.1.below hb h.2.2.1.lt, h.2.2.2.trans (hb.mono h.2.2.2.size)⟩

set_option maxRecDepth 100000 in
set_option maxHeartbeats 2000000 in
theorem peak_c (T : Value) (G : Int → Int) (wing from_ until_ : Int) (w : World) (h1 : -1000000 ≤ from_) (h2 : from_ ≤ 1000000) (h3 : -1000000 ≤ until_) (h4 : until_ ≤ 1000000)
    (hgap : ∀ W', Below w.heap.size w W' → ∀ t : Int, from_ ≤ t → t < until_ → Calls Try.prog 86 #[T, I wing, I t] W' fun e w' => e = .returned (I (G t)) ∧ Below W'.heap.size W' w')
    (hmono : ∀ a b : Nat, a ≤ b → G (from_ + a + 1) ≤ G (from_ + a) → G (from_ + b + 1) ≤ G (from_ + b)) :
    Calls Try.prog 110 #[gv T, I wing, I from_, I until_] w fun e w' => Below w.heap.size w w' ∧
      if until_ ≤ from_ then e = .returned (.agg #[I wing, I from_, I 0]) else e = .returned (.agg #[I wing, I (from_ + pkN G from_ (until_ - 1 - from_).toNat), I (G (from_ + pkN G from_ (until_ - 1 - from_).toNat))]) := by
  have x0 := (((Bx.new w 38 #[gv T]).alloc (.cells #[I wing] 3)).alloc (.cells #[I from_] 3)).alloc (.cells #[I 0, I 0, I 0] 112)
  have x1 := ((Bx.new' (w.alloc (.cells #[gv T] 38)) 3 #[I wing] (w.heap.size + 1) (by simp)).alloc (.cells #[I from_] 3)).alloc (.cells #[I 0, I 0, I 0] 112)
  have x2 := (Bx.new' ((w.alloc (.cells #[gv T] 38)).alloc (.cells #[I wing] 3)) 3 #[I from_] (w.heap.size + 1 + 1) (by simp)).alloc (.cells #[I 0, I 0, I 0] 112)
  have x3 := Bx.new' (((w.alloc (.cells #[gv T] 38)).alloc (.cells #[I wing] 3)).alloc (.cells #[I from_] 3)) 112 #[I 0, I 0, I 0] (w.heap.size + 1 + 1 + 1) (by simp)
  have hB := ((((Below.refl w.heap.size w).alloc (Nat.le_refl _) (.cells #[gv T] 38)).alloc (by simp) (.cells #[I wing] 3)).alloc (by simp; omega) (.cells #[I from_] 3)).alloc (by simp; omega) (.cells #[I 0, I 0, I 0] 112)
  have P0 : PkR T wing from_ w _ := ⟨x0, x1, x2, hB⟩
  have hc0 := x0.cell
  have hc1 := x1.cell
  have hc2 := x2.cell
  have hc3 := x3.cell
  have hf3 := x3.free
  unfold gv at *
  by_cases hle : until_ ≤ from_
  · simp only [if_pos hle]
    go_enter Try.func110, Try.ntmps110
    have y := ((x3.set_ 0 (I wing)).set_ 1 (I from_)).set_ 2 (I 0)
    have hcy := y.cell
    go_wp2_with fail
    refine bodyPost_ret (v := .agg #[I wing, I from_, I 0]) (by simp [results, Try.results110, go_sem, hcy]) rfl ⟨?_, rfl⟩
    exact ((((Below.refl w.heap.size w).alloc (Nat.le_refl _) _).alloc (by simp) _).alloc (by simp; omega) _).alloc (by simp; omega) _
  · simp only [if_neg hle]
    obtain ⟨n, hn⟩ : ∃ n : Nat, until_ - 1 - from_ = (n : Int) := ⟨(until_ - 1 - from_).toNat, by omega⟩
    have en : (until_ - 1 - from_).toNat = n := by omega
    rw [en]
    have ew : IntKind.i64.wrap (until_ - 1) = until_ - 1 := IntWalk.i64_in _ (by omega)
    have ew2 : IntKind.i64.wrap (until_ - 1 - from_) = (n : Int) := by rw [IntWalk.i64_in _ (by omega)]; exact hn
    have HN := Lib.hid hn
    clear hn en
    go_enter Try.func110, Try.ntmps110
    go_wp2_with fail
    refine (search_c 117 #[.pointer (some ⟨w.heap.size, 0, none⟩), .pointer (some ⟨w.heap.size + 1, 0, none⟩), .pointer (some ⟨w.heap.size + 1 + 1, 0, none⟩)] n (fun i => decide (G (from_ + i + 1) ≤ G (from_ + i))) _ (enters_of Try.func117 (by kernel_rfl) rfl) (by have := HN.out; omega) ?_ ?_).mono ?_
    · intro W hW i hi
      have P1 := P0.grow hW
      exact peak1_c T G wing from_ _ _ _ i W P1.1 P1.2.1 P1.2.2.1 h1 h2 (by have := HN.out; omega) (fun W' hW' t ht => hgap W' (P1.grow hW').2.2.2 t (by omega) (by have := HN.out; omega))
    · intro a b hab hb ha
      exact decide_eq_true (hmono a b hab (of_decide_eq_true ha))
    rintro e w1 ⟨k, rfl, hk1, hk2, hk3, hb1⟩
    have hpk : IsPk G from_ n k := ⟨hk1, fun t ht => by have := of_decide_eq_false (hk2 t ht); omega, fun t h5 h6 => of_decide_eq_true (hk3 t h5 h6)⟩
    have HK := Lib.hid hpk.eq
    have P1 := P0.grow hb1
    have x3b := x3.below hb1 x3.lt
    have hkn : from_ + (k : Int) < until_ := by have := HN.out; omega
    clear hpk hk2 hk3 x0 x1 x2 x3 hc0 hc1 hc2 hc3 hf3 P0 hB hb1
    go_wp2_with fail
    refine wp_region_list_s (by kernel_rfl) (R := (fun w' => PkR T wing from_ w w' ∧ ∃ a b c : Int, Bx w' (w.heap.size + 1 + 1 + 1) 112 #[I a, I b, I c])) (F := (fun wa wb => Bx wa (w.heap.size + 1 + 1 + 1) 112 #[I wing, I (from_ + k), I (G (from_ + k))] → Bx wb (w.heap.size + 1 + 1 + 1) 112 #[I wing, I (from_ + k), I (G (from_ + k))])) [] [] [(11, 10)]
        [As.is _ _ (I wing),
        As.is _ _ (I from_),
        As.is _ _ (I (k : Int)),
        As.is _ _ (I (from_ + (k : Int))),
        As.is _ _ (.func (.func 86) #[T] #[]),
        As.is _ _ (I wing),
        As.is _ _ (I from_),
        As.is _ _ (I (k : Int)),
        As.is _ _ (I (from_ + (k : Int))),
        As.is _ _ (I (G (from_ + (k : Int)))),
        As.is _ _ (.agg #[I wing, I (from_ + (k : Int)), I (G (from_ + (k : Int)))]),
        (⟨fun _ w' => Bx w' (w.heap.size + 1 + 1 + 1) 112 #[I wing, I (from_ + k), I (G (from_ + k))], fun _ _ _ _ _ hF h => hF h⟩ : As _ _)] 33 (by kernel_rfl) rfl (⟨P1.grow (Below.refl _ _).drew, ⟨_, _, _, x3b.below (Below.refl _ _).drew x3b.lt⟩⟩) (by simp) (by simp) ?_ (fun _ => id) ?_ ?_ ?_
    · intro i' hi' o' ho k' b' hg u w' hR hu
      match i', hi', ho with
      | 0, _, ho => cases ho; cases hg
      | 1, _, ho => cases ho; cases hg
      | 2, _, ho => cases ho; cases hg
      | 3, _, ho => cases ho; cases hg
      | 4, _, ho => cases ho; cases hg
      | 5, _, ho => cases ho; cases hg
      | 6, _, ho => cases ho; cases hg
      | 7, _, ho => cases ho; cases hg
      | 8, _, ho => cases ho; cases hg
      | 9, _, ho => cases ho; cases hg
      | 10, _, ho => cases ho; cases hg
      | 11, _, ho => cases ho; cases hg
      | n + 12, hi, _ => exact absurd hi (by simp)
    · intro i' hi' hsk; cases hsk
    · intro i' hi' hsk o' ho ev w' hR hc hf hg hs hd
      match i', hi', ho with
      | 0, _, ho =>
        clear hsk
        cases ho
        have e5 : ev (.tmp 5) = .pointer (some ⟨w.heap.size + 1, 0, none⟩) := hs 5 (by kernel_rfl)
        have m2 := hR.1.2.1.cell
        go_simp
        first | exact ⟨rfl, hR, id⟩ | exact ⟨⟨rfl, rfl⟩, hR, id⟩ | exact ⟨⟨rfl, fun h => absurd h (by decide)⟩, hR, id⟩ | exact ⟨⟨rfl, rfl, fun h => absurd h (by decide)⟩, hR, id⟩
      | 1, _, ho =>
        clear hsk
        cases ho
        have e6 : ev (.tmp 6) = .pointer (some ⟨w.heap.size + 1 + 1, 0, none⟩) := hs 6 (by kernel_rfl)
        have m3 := hR.1.2.2.1.cell
        go_simp
        first | exact ⟨rfl, hR, id⟩ | exact ⟨⟨rfl, rfl⟩, hR, id⟩ | exact ⟨⟨rfl, fun h => absurd h (by decide)⟩, hR, id⟩ | exact ⟨⟨rfl, rfl, fun h => absurd h (by decide)⟩, hR, id⟩
      | 2, _, ho =>
        clear hsk
        cases ho
        have e9 : ev (.tmp 9) = I (k : Int) := hs 9 (by kernel_rfl)
        go_simp
        first | exact ⟨rfl, hR, id⟩ | exact ⟨⟨rfl, rfl⟩, hR, id⟩ | exact ⟨⟨rfl, fun h => absurd h (by decide)⟩, hR, id⟩ | exact ⟨⟨rfl, rfl, fun h => absurd h (by decide)⟩, hR, id⟩
      | 3, _, ho =>
        clear hsk
        cases ho
        have e23 : ev (.tmp 23) = I from_ := hd 1 23 (by kernel_rfl)
        have e24 : ev (.tmp 24) = I (k : Int) := hd 2 24 (by kernel_rfl)
        have ew : IntKind.i64.wrap (from_ + (k : Int)) = from_ + (k : Int) := IntWalk.i64_in _ (by omega)
        go_simp
        first | exact ⟨rfl, hR, id⟩ | exact ⟨⟨rfl, rfl⟩, hR, id⟩ | exact ⟨⟨rfl, fun h => absurd h (by decide)⟩, hR, id⟩ | exact ⟨⟨rfl, rfl, fun h => absurd h (by decide)⟩, hR, id⟩
      | 4, _, ho =>
        clear hsk
        cases ho
        have e4 : ev (.tmp 4) = .pointer (some ⟨w.heap.size, 0, none⟩) := hs 4 (by kernel_rfl)
        have m1 := hR.1.1.cell
        go_simp
        first | exact ⟨rfl, hR, id⟩ | exact ⟨⟨rfl, rfl⟩, hR, id⟩ | exact ⟨⟨rfl, fun h => absurd h (by decide)⟩, hR, id⟩ | exact ⟨⟨rfl, rfl, fun h => absurd h (by decide)⟩, hR, id⟩
      | 5, _, ho =>
        clear hsk
        cases ho
        have e5 : ev (.tmp 5) = .pointer (some ⟨w.heap.size + 1, 0, none⟩) := hs 5 (by kernel_rfl)
        have m2 := hR.1.2.1.cell
        go_simp
        first | exact ⟨rfl, hR, id⟩ | exact ⟨⟨rfl, rfl⟩, hR, id⟩ | exact ⟨⟨rfl, fun h => absurd h (by decide)⟩, hR, id⟩ | exact ⟨⟨rfl, rfl, fun h => absurd h (by decide)⟩, hR, id⟩
      | 6, _, ho =>
        clear hsk
        cases ho
        have e6 : ev (.tmp 6) = .pointer (some ⟨w.heap.size + 1 + 1, 0, none⟩) := hs 6 (by kernel_rfl)
        have m3 := hR.1.2.2.1.cell
        go_simp
        first | exact ⟨rfl, hR, id⟩ | exact ⟨⟨rfl, rfl⟩, hR, id⟩ | exact ⟨⟨rfl, fun h => absurd h (by decide)⟩, hR, id⟩ | exact ⟨⟨rfl, rfl, fun h => absurd h (by decide)⟩, hR, id⟩
      | 7, _, ho =>
        clear hsk
        cases ho
        have e9 : ev (.tmp 9) = I (k : Int) := hs 9 (by kernel_rfl)
        go_simp
        first | exact ⟨rfl, hR, id⟩ | exact ⟨⟨rfl, rfl⟩, hR, id⟩ | exact ⟨⟨rfl, fun h => absurd h (by decide)⟩, hR, id⟩ | exact ⟨⟨rfl, rfl, fun h => absurd h (by decide)⟩, hR, id⟩
      | 8, _, ho =>
        clear hsk
        cases ho
        have e28 : ev (.tmp 28) = I from_ := hd 6 28 (by kernel_rfl)
        have e29 : ev (.tmp 29) = I (k : Int) := hd 7 29 (by kernel_rfl)
        have ew : IntKind.i64.wrap (from_ + (k : Int)) = from_ + (k : Int) := IntWalk.i64_in _ (by omega)
        go_simp
        first | exact ⟨rfl, hR, id⟩ | exact ⟨⟨rfl, rfl⟩, hR, id⟩ | exact ⟨⟨rfl, fun h => absurd h (by decide)⟩, hR, id⟩ | exact ⟨⟨rfl, rfl, fun h => absurd h (by decide)⟩, hR, id⟩
      | 9, _, ho =>
        clear hsk
        cases ho
        have e26 : ev (.tmp 26) = .func (.func 86) #[T] #[] := hd 4 26 (by kernel_rfl)
        have e27 : ev (.tmp 27) = I wing := hd 5 27 (by kernel_rfl)
        have e30 : ev (.tmp 30) = I (from_ + (k : Int)) := hd 8 30 (by kernel_rfl)
        go_simp
        refine (hgap w' hR.1.2.2.2 (from_ + (k : Int)) (by omega) (by omega)).mono ?_
        rintro e wz ⟨rfl, hwz⟩
        first | exact ⟨rfl, ⟨hR.1.grow hwz, by obtain ⟨a, b, c, h⟩ := hR.2; exact ⟨a, b, c, h.below hwz h.lt⟩⟩, fun h => h.below hwz h.lt⟩ | exact ⟨⟨rfl, rfl⟩, ⟨hR.1.grow hwz, by obtain ⟨a, b, c, h⟩ := hR.2; exact ⟨a, b, c, h.below hwz h.lt⟩⟩, fun h => h.below hwz h.lt⟩ | exact ⟨⟨rfl, fun h => absurd h (by decide)⟩, ⟨hR.1.grow hwz, by obtain ⟨a, b, c, h⟩ := hR.2; exact ⟨a, b, c, h.below hwz h.lt⟩⟩, fun h => h.below hwz h.lt⟩ | exact ⟨⟨rfl, rfl, fun h => absurd h (by decide)⟩, ⟨hR.1.grow hwz, by obtain ⟨a, b, c, h⟩ := hR.2; exact ⟨a, b, c, h.below hwz h.lt⟩⟩, fun h => h.below hwz h.lt⟩
      | 10, _, ho =>
        clear hsk
        cases ho
        have e22 : ev (.tmp 22) = I wing := hd 0 22 (by kernel_rfl)
        have e25 : ev (.tmp 25) = I (from_ + (k : Int)) := hd 3 25 (by kernel_rfl)
        have e31 : ev (.tmp 31) = I (G (from_ + (k : Int))) := hd 9 31 (by kernel_rfl)
        go_simp
        first | exact ⟨rfl, hR, id⟩ | exact ⟨⟨rfl, rfl⟩, hR, id⟩ | exact ⟨⟨rfl, fun h => absurd h (by decide)⟩, hR, id⟩ | exact ⟨⟨rfl, rfl, fun h => absurd h (by decide)⟩, hR, id⟩
      | 11, _, ho =>
        clear hsk
        cases ho
        have e8 : ev (.tmp 8) = .pointer (some ⟨w.heap.size + 1 + 1 + 1, 0, none⟩) := hs 8 (by kernel_rfl)
        have e32 : ev (.tmp 32) = .agg #[I wing, I (from_ + (k : Int)), I (G (from_ + (k : Int)))] := hd 10 32 (by kernel_rfl)
        obtain ⟨a, b, c, hbx⟩ := hR.2
        have hcx := hbx.cell
        have hfx := hbx.free
        have hput := ((hbx.set_ 0 (I wing)).set_ 1 (I (from_ + k))).set_ 2 (I (G (from_ + k)))
        change Bx _ _ _ #[I wing, I (from_ + k), I (G (from_ + k))] at hput
        go_simp
        first | exact ⟨⟨rfl, fun t ht => hput⟩, ⟨⟨(((hR.1.1.far (p := ⟨w.heap.size + 1 + 1 + 1, 0, none⟩) (by simp only []; omega) _).far (p := ⟨w.heap.size + 1 + 1 + 1, 1, none⟩) (by simp only []; omega) _).far (p := ⟨w.heap.size + 1 + 1 + 1, 2, none⟩) (by simp only []; omega) _), (((hR.1.2.1.far (p := ⟨w.heap.size + 1 + 1 + 1, 0, none⟩) (by simp only []; omega) _).far (p := ⟨w.heap.size + 1 + 1 + 1, 1, none⟩) (by simp only []; omega) _).far (p := ⟨w.heap.size + 1 + 1 + 1, 2, none⟩) (by simp only []; omega) _), (((hR.1.2.2.1.far (p := ⟨w.heap.size + 1 + 1 + 1, 0, none⟩) (by simp only []; omega) _).far (p := ⟨w.heap.size + 1 + 1 + 1, 1, none⟩) (by simp only []; omega) _).far (p := ⟨w.heap.size + 1 + 1 + 1, 2, none⟩) (by simp only []; omega) _), ((((hR.1.2.2.2.setCell (p := ⟨w.heap.size + 1 + 1 + 1, 0, none⟩) (by simp only []; omega) _).setCell (p := ⟨w.heap.size + 1 + 1 + 1, 1, none⟩) (by simp only []; omega) _).setCell (p := ⟨w.heap.size + 1 + 1 + 1, 2, none⟩) (by simp only []; omega) _))⟩, ⟨_, _, _, hput⟩⟩, fun _ => hput⟩ | exact ⟨fun t ht => hput, ⟨⟨(((hR.1.1.far (p := ⟨w.heap.size + 1 + 1 + 1, 0, none⟩) (by simp only []; omega) _).far (p := ⟨w.heap.size + 1 + 1 + 1, 1, none⟩) (by simp only []; omega) _).far (p := ⟨w.heap.size + 1 + 1 + 1, 2, none⟩) (by simp only []; omega) _), (((hR.1.2.1.far (p := ⟨w.heap.size + 1 + 1 + 1, 0, none⟩) (by simp only []; omega) _).far (p := ⟨w.heap.size + 1 + 1 + 1, 1, none⟩) (by simp only []; omega) _).far (p := ⟨w.heap.size + 1 + 1 + 1, 2, none⟩) (by simp only []; omega) _), (((hR.1.2.2.1.far (p := ⟨w.heap.size + 1 + 1 + 1, 0, none⟩) (by simp only []; omega) _).far (p := ⟨w.heap.size + 1 + 1 + 1, 1, none⟩) (by simp only []; omega) _).far (p := ⟨w.heap.size + 1 + 1 + 1, 2, none⟩) (by simp only []; omega) _), ((((hR.1.2.2.2.setCell (p := ⟨w.heap.size + 1 + 1 + 1, 0, none⟩) (by simp only []; omega) _).setCell (p := ⟨w.heap.size + 1 + 1 + 1, 1, none⟩) (by simp only []; omega) _).setCell (p := ⟨w.heap.size + 1 + 1 + 1, 2, none⟩) (by simp only []; omega) _))⟩, ⟨_, _, _, hput⟩⟩, fun _ => hput⟩ | exact ⟨hput, ⟨⟨(((hR.1.1.far (p := ⟨w.heap.size + 1 + 1 + 1, 0, none⟩) (by simp only []; omega) _).far (p := ⟨w.heap.size + 1 + 1 + 1, 1, none⟩) (by simp only []; omega) _).far (p := ⟨w.heap.size + 1 + 1 + 1, 2, none⟩) (by simp only []; omega) _), (((hR.1.2.1.far (p := ⟨w.heap.size + 1 + 1 + 1, 0, none⟩) (by simp only []; omega) _).far (p := ⟨w.heap.size + 1 + 1 + 1, 1, none⟩) (by simp only []; omega) _).far (p := ⟨w.heap.size + 1 + 1 + 1, 2, none⟩) (by simp only []; omega) _), (((hR.1.2.2.1.far (p := ⟨w.heap.size + 1 + 1 + 1, 0, none⟩) (by simp only []; omega) _).far (p := ⟨w.heap.size + 1 + 1 + 1, 1, none⟩) (by simp only []; omega) _).far (p := ⟨w.heap.size + 1 + 1 + 1, 2, none⟩) (by simp only []; omega) _), ((((hR.1.2.2.2.setCell (p := ⟨w.heap.size + 1 + 1 + 1, 0, none⟩) (by simp only []; omega) _).setCell (p := ⟨w.heap.size + 1 + 1 + 1, 1, none⟩) (by simp only []; omega) _).setCell (p := ⟨w.heap.size + 1 + 1 + 1, 2, none⟩) (by simp only []; omega) _))⟩, ⟨_, _, _, hput⟩⟩, fun _ => hput⟩
      | n + 12, hi, _ => exact absurd hi (by simp)
    intro ρ w2 hR hρ hne K hK
    have f3 : Bx w2 (w.heap.size + 1 + 1 + 1) 112 #[I wing, I (from_ + k), I (G (from_ + k))] := hρ 11 (by simp)
    show K (putAll _ _ ρ 12) _
    simp only [putAll, dOf, List.getElem?_toArray, List.getElem?_cons_zero, List.getElem?_cons_succ, Option.bind_some, Act.put, List.setIfInBounds_toArray, List.set_cons_zero, List.set_cons_succ]
    refine hK _ _ ?_
    change wpList _ _ _ [] _ _
    obtain ⟨P2, _⟩ := hR
    clear hK K hρ hne
    have hcf := f3.cell
    go_wp2_with fail
    refine bodyPost_ret (v := .agg #[I wing, I (from_ + k), I (G (from_ + k))]) (by simp [results, Try.results110, go_sem, hcf]) rfl ⟨P2.2.2.2, ?_⟩
    rw [← HK.out]
end Go.Proofs.Ytnihkgdkdinliaa
