/- A school whose true paces are known: where a front is, and when it passes. -/
import Derived.Test.YtnihkgdkdinliaaUpTo
import Derived.Test.YtnihkgdkdinliaaRegion
namespace Go.Proofs.Ytnihkgdkdinliaa
open Go.RowKit Go.Shelf
attribute [local go_sem] Oper.semAt_some
set_option linter.unusedVariables false

/-- The truth as a value: wings, starts, eight paces. -/
def tv (A : Option Addr) (n c : Nat) (B : Option Addr) (m d : Nat) (p0 p1 p2 p3 p4 p5 p6 p7 : Int) : Value :=
  .agg #[.slice A n c, .slice B m d, I p0, I p1, I p2, I p3, I p4, I p5, I p6, I p7]

set_option maxHeartbeats 400000 in
theorem dividedUp_c (n b : Int) (w : World) (h1 : 0 ≤ n) (h2 : 1 ≤ b) (h3 : n ≤ 1000000000) (h4 : b ≤ 1000000) :
    Calls Try.prog 99 #[I n, I b] w fun e w' => e = .returned (I (cd n b)) ∧ w = w' := by
  have e : cd n b = (n + b - 1) / b := by unfold cd; rw [show max 0 n = n by omega]
  rw [e]
  clear e
  go_enter Try.func99, Try.ntmps99
  go_wp2
  go_ret
  exact ⟨rfl, rfl⟩

set_option maxRecDepth 100000 in
set_option maxHeartbeats 2000000 in
theorem passes_c (A B : Option Addr) (c d : Nat) (p0 p1 p2 p3 p4 p5 p6 p7 : Int) (ws : List Wg) (sts : List Int) (wing : Nat) (place : Int) (T1 T2 : TypeId) (w : World)
    (h1 : SlW w T1 A ws) (h2 : SlI w T2 B sts) (hs : Sm ws sts [p0, p1, p2, p3, p4, p5, p6, p7] wing) (hp1 : 0 ≤ place) (hp2 : place ≤ 900000000)
    (hl1 : ws.length ≤ 1000000) (hl2 : sts.length ≤ maxLen) :
    Calls Try.prog 76 #[tv A ws.length c B sts.length d p0 p1 p2 p3 p4 p5 p6 p7, I wing, I place] w fun e w' => e = .returned (I (passed ws sts [p0, p1, p2, p3, p4, p5, p6, p7] wing place)) ∧ Below w.heap.size w w' := by
  unfold tv
  obtain ⟨hw1, hw2, hw3, hw4, hk⟩ := hs
  unfold maxLen at hl2
  obtain ⟨b1, o1, rfl, hb1⟩ := SlW.some_ h1 hw1
  obtain ⟨b2, o2, rfl, hb2⟩ := SlI.some_ h2 hw2
  refine (callsIn_wide (n := 3)).1 ?_
  refine callsIn_of_wp_marks Try.func76 rfl trivial ?_ rfl
  simp only [Try.ntmps76, List.size_toArray, List.length_cons, List.length_nil, Nat.reduceAdd, Nat.reduceSub, Array.replicate_succ, Array.replicate_zero, List.push_toArray, List.append_toArray, List.nil_append, List.cons_append]
  have hcs := SlI.cellG h2 hw2
  have hB3 := Bx.new w 97 #[.slice (some ⟨b1, o1, none⟩) ws.length c, .slice (some ⟨b2, o2, none⟩) sts.length d, I p0, I p1, I p2, I p3, I p4, I p5, I p6, I p7]
  have hlens : ∀ k, k ≤ wing → 0 ≤ (gW ws k).len ∧ (gW ws k).len ≤ 1000000 := fun k hkk => (hk k hkk).2.2.2.2
  have hlens : ∀ k, k ≤ wing → 0 ≤ (gW ws k).len ∧ (gW ws k).len ≤ 1000000 := fun k hkk => (hk k hkk).2.2.2.2
  have hlens : ∀ k, k ≤ wing → 0 ≤ (gW ws k).len ∧ (gW ws k).len ≤ 1000000 := fun k hkk => (hk k hkk).2.2.2.2
  have hlens : ∀ k, k ≤ wing → 0 ≤ (gW ws k).len ∧ (gW ws k).len ≤ 1000000 := fun k hkk => (hk k hkk).2.2.2.2
  have hlens : ∀ k, k ≤ wing → 0 ≤ (gW ws k).len ∧ (gW ws k).len ≤ 1000000 := fun k hkk => (hk k hkk).2.2.2.2
  have hlens : ∀ k, k ≤ wing → 0 ≤ (gW ws k).len ∧ (gW ws k).len ≤ 1000000 := fun k hkk => (hk k hkk).2.2.2.2
  gi_wp2_with (refine ⟨trivial, ?_⟩; gi_at_call 98; refine (callsIn_wide.2 (upTo_c _ _ _ _ _)).mono ?_; rintro e w' ⟨rfl, rfl⟩)
  clear hcs
  have hlt0 : w.heap.size < w.heap.size + 1 := Nat.lt_succ_self _
  refine wpIn_rangeFunc_ownF rfl (by decide) (gf := 108) (lb := #[.pointer (some ⟨w.heap.size + 1 + 1 + 1 + 1, 0, none⟩), .pointer (some ⟨w.heap.size + 1 + 1 + 1, 0, none⟩)]) rfl trivial (enters_of Try.func108 (by kernel_rfl) rfl)
    (upTo1_stops (3 - 1) (by decide) (some ⟨b1, o1, none⟩) c (w.heap.size + 1 + 1 + 1 + 1) (w.heap.size + 1 + 1 + 1) ws wing T1 _ hw1 hw4 hl1 hlens (w.heap.size + 5) (some (w.heap.size + 1 + 1)) (by simp only [World.size_alloc]; omega)
      (h1.below (((((((Below.refl w.heap.size w).alloc (Nat.le_refl _) _).alloc (by simp) _).alloc (by simp; omega) _).alloc (by simp; omega) _).alloc (by simp; omega) _)) (Nat.le_refl _))
      (fun b o hbo => by injection hbo with hbo; injection hbo with e1 e2; subst e1; exact ⟨by omega, by simp; omega⟩)
      (Bx.new' _ 3 #[I wing] (w.heap.size + 1 + 1 + 1 + 1) (by simp)) ((Bx.new' _ 22 #[.slice (some ⟨b1, o1, none⟩) ws.length c] (w.heap.size + 1 + 1 + 1) (by simp)).alloc _) (by omega) (by omega) (fun h => by injection h with h; omega) (fun h => by injection h with h; omega))
    KB.trans (fun W l o o' hl hW hc hwk => KB.putObj (by simp) W l o o' hl hW hc hwk) (Below.refl _ _) (fun _ => rfl)
    (fun pre W => (Bx W w.heap.size 97 #[.slice (some ⟨b1, o1, none⟩) ws.length c, .slice (some ⟨b2, o2, none⟩) sts.length d, I p0, I p1, I p2, I p3, I p4, I p5, I p6, I p7] ∧ Bx W (w.heap.size + 1) 3 #[I place]) ∧
      Bx W (w.heap.size + 1 + 1) 3 #[I ((pre.map (fun x : Up wing => x.1)).foldl (psec ws sts [p0, p1, p2, p3, p4, p5, p6, p7] wing place) (gI sts wing))] ∧ Below w.heap.size w W)
    (fun _ _ _ => False)
    (OwnFrom.and (OwnFrom.and (bx_own _ _ _ _) (bx_own _ _ _ _)) (OwnFrom.and (bx_own _ _ _ _) (ownFrom_below (Nat.le_refl _) (by simp; omega))))
    (fun _ _ _ _ _ hs _ _ => hs)
    ⟨⟨(((hB3.alloc _).alloc _).alloc _).alloc _, ((((Bx.new' _ 3 #[I place] (w.heap.size + 1) (by simp)).alloc _).alloc _).alloc _)⟩, (((Bx.new' _ 3 #[I (gI sts wing)] (w.heap.size + 1 + 1) (by simp)).alloc _).alloc _), ((((((Below.refl w.heap.size w).alloc (Nat.le_refl _) _).alloc (by simp) _).alloc (by simp; omega) _).alloc (by simp; omega) _).alloc (by simp; omega) _)⟩
    (fun x => { tmps := #[.agg #[.slice (some ⟨b1, o1, none⟩) ws.length c, .slice (some ⟨b2, o2, none⟩) sts.length d, I p0, I p1, I p2, I p3, I p4, I p5, I p6, I p7], I wing, I place, .pointer (some ⟨w.heap.size, 0, none⟩), undef, .pointer (some ⟨w.heap.size + 1, 0, none⟩), .int .i64 0, .pointer (some ⟨w.heap.size + 1 + 1, 0, none⟩), I x.1, I (dist ws wing x.1),
      .pointer (some ⟨w.heap.size, 1, none⟩), .slice (some ⟨b2, o2, none⟩) sts.length d, I wing, .pointer (some ⟨b2, o2 + wing, none⟩), I (gI sts wing), .pointer (some ⟨w.heap.size, 0, none⟩), .slice (some ⟨b1, o1, none⟩) ws.length c, I wing,
      .func (.func 108) #[] #[.pointer (some ⟨w.heap.size + 1 + 1 + 1 + 1, 0, none⟩), .pointer (some ⟨w.heap.size + 1 + 1 + 1, 0, none⟩)], I x.1, I (dist ws wing x.1), undef, undef, undef, undef, undef, undef, undef, undef, undef, undef, undef, undef, undef, undef, undef, undef, undef], defers := [] }) ?assign ?body ?done ?stop
  case assign =>
    intro l x W K hK
    gi_wp2
    exact hK
  case body =>
    rintro l pre x W ⟨⟨hx3, hx5⟩, hx7, hbel⟩ hlen
    obtain ⟨h51, h52, h53, h54, h55, h56⟩ := hk x.1 x.2
    have hxw := x.2
    have hdb := dist_bd hlens hw4 (wing - x.1) x.1 (by omega)
    have hcdb := cd_bd (n := place + dist ws wing x.1) h51 (by omega)
    have hc31 : W.cell? ⟨w.heap.size, 1, none⟩ = some (.slice (some ⟨b2, o2, none⟩) sts.length d) := hx3.cell 1
    have hc3p := (hx3.cell (2 + x.1)).trans (pace_cell _ _ p0 p1 p2 p3 p4 p5 p6 p7 x.1 (by simp at hw3; omega))
    have hc5 := hx5.cell
    have hc7 := hx7.cell
    have hx8 : x.1 < 8 := by simp at hw3; omega
    have hx8' : (x.1 : Int) < 8 := by omega
    have hxs : x.1 < sts.length := by omega
    have hxs' : (x.1 : Int) < sts.length := by omega
    have hcs := SlI.cellG (h2.below hbel (Nat.le_refl _)) hxs
    have Hs := Lib.hid (rfl : (pre.map (fun x : Up wing => x.1)).foldl (psec ws sts [p0, p1, p2, p3, p4, p5, p6, p7] wing place) (gI sts wing) = (pre.map (fun x : Up wing => x.1)).foldl (psec ws sts [p0, p1, p2, p3, p4, p5, p6, p7] wing place) (gI sts wing))
    generalize hsg : (pre.map (fun x : Up wing => x.1)).foldl (psec ws sts [p0, p1, p2, p3, p4, p5, p6, p7] wing place) (gI sts wing) = s at *
    clear Hs
    have Hsg := Lib.hid hsg
    clear hsg
    gi_wp2_with fail
    refine wp_region_round_of (by kernel_rfl) (R := fun w' => ∃ n, w' = W.drewN n) (F := fun _ _ => True)
      [As.is _ _ (I s),
        As.is _ _ (.pointer (some ⟨w.heap.size, 1, none⟩)),
        As.is _ _ (.slice (some ⟨b2, o2, none⟩) sts.length d),
        As.is _ _ (I x.1),
        As.is _ _ (.pointer (some ⟨b2, o2 + x.1, none⟩)),
        As.is _ _ (I (gI sts x.1)),
        As.is _ _ (I place),
        As.is _ _ (I (dist ws wing x.1)),
        As.is _ _ (I (place + dist ws wing x.1)),
        As.is _ _ (I x.1),
        As.is _ _ (.pointer (some ⟨w.heap.size, 2, none⟩)),
        As.is _ _ (.pointer (some ⟨w.heap.size, 2 + x.1, none⟩)),
        As.is _ _ (I (gI [p0, p1, p2, p3, p4, p5, p6, p7] x.1)),
        As.is _ _ (I (cd (place + dist ws wing x.1) (gI [p0, p1, p2, p3, p4, p5, p6, p7] x.1))),
        As.is _ _ (I (gI sts x.1 + cd (place + dist ws wing x.1) (gI [p0, p1, p2, p3, p4, p5, p6, p7] x.1))),
        As.is _ _ (I (psec ws sts [p0, p1, p2, p3, p4, p5, p6, p7] wing place s x.1))] 38 (by kernel_rfl) (by kernel_rfl) rfl (fun _ _ h => h) ⟨1, rfl⟩ ?_ ?_
    · intro i hi o ho ev w' hR hc hf hg hs hd
      match i, hi, ho with
      | 0, _, ho =>
        cases ho
        have e7 : ev (.tmp 7) = .pointer (some ⟨w.heap.size + 1 + 1, 0, none⟩) := hs 7 (by kernel_rfl)
        obtain ⟨nq, rfl⟩ := hR
        go_simp
        exact ⟨rfl, ⟨nq, rfl⟩, trivial⟩
      | 1, _, ho =>
        cases ho
        have e3 : ev (.tmp 3) = .pointer (some ⟨w.heap.size, 0, none⟩) := hs 3 (by kernel_rfl)
        obtain ⟨nq, rfl⟩ := hR
        go_simp
        exact ⟨rfl, ⟨nq, rfl⟩, trivial⟩
      | 2, _, ho =>
        cases ho
        have e22 : ev (.tmp 22) = .pointer (some ⟨w.heap.size, 1, none⟩) := hd 1 22 (by kernel_rfl)
        obtain ⟨nq, rfl⟩ := hR
        go_simp
        exact ⟨rfl, ⟨nq, rfl⟩, trivial⟩
      | 3, _, ho =>
        cases ho
        have e8 : ev (.tmp 8) = I x.1 := hs 8 (by kernel_rfl)
        obtain ⟨nq, rfl⟩ := hR
        go_simp
        exact ⟨rfl, ⟨nq, rfl⟩, trivial⟩
      | 4, _, ho =>
        cases ho
        have e23 : ev (.tmp 23) = .slice (some ⟨b2, o2, none⟩) sts.length d := hd 2 23 (by kernel_rfl)
        have e24 : ev (.tmp 24) = I x.1 := hd 3 24 (by kernel_rfl)
        obtain ⟨nq, rfl⟩ := hR
        go_simp
        exact ⟨rfl, ⟨nq, rfl⟩, trivial⟩
      | 5, _, ho =>
        cases ho
        have e25 : ev (.tmp 25) = .pointer (some ⟨b2, o2 + x.1, none⟩) := hd 4 25 (by kernel_rfl)
        obtain ⟨nq, rfl⟩ := hR
        go_simp
        exact ⟨rfl, ⟨nq, rfl⟩, trivial⟩
      | 6, _, ho =>
        cases ho
        have e5 : ev (.tmp 5) = .pointer (some ⟨w.heap.size + 1, 0, none⟩) := hs 5 (by kernel_rfl)
        obtain ⟨nq, rfl⟩ := hR
        go_simp
        exact ⟨rfl, ⟨nq, rfl⟩, trivial⟩
      | 7, _, ho =>
        cases ho
        have e9 : ev (.tmp 9) = I (dist ws wing x.1) := hs 9 (by kernel_rfl)
        obtain ⟨nq, rfl⟩ := hR
        go_simp
        exact ⟨rfl, ⟨nq, rfl⟩, trivial⟩
      | 8, _, ho =>
        cases ho
        have e27 : ev (.tmp 27) = I place := hd 6 27 (by kernel_rfl)
        have e28 : ev (.tmp 28) = I (dist ws wing x.1) := hd 7 28 (by kernel_rfl)
        obtain ⟨nq, rfl⟩ := hR
        have ew : IntKind.i64.wrap (place + dist ws wing x.1) = place + dist ws wing x.1 := IntWalk.i64_in _ (by omega)
        go_simp
        exact ⟨rfl, ⟨nq, rfl⟩, trivial⟩
      | 9, _, ho =>
        cases ho
        have e8 : ev (.tmp 8) = I x.1 := hs 8 (by kernel_rfl)
        obtain ⟨nq, rfl⟩ := hR
        go_simp
        exact ⟨rfl, ⟨nq, rfl⟩, trivial⟩
      | 10, _, ho =>
        cases ho
        have e3 : ev (.tmp 3) = .pointer (some ⟨w.heap.size, 0, none⟩) := hs 3 (by kernel_rfl)
        obtain ⟨nq, rfl⟩ := hR
        go_simp
        exact ⟨rfl, ⟨nq, rfl⟩, trivial⟩
      | 11, _, ho =>
        cases ho
        have e31 : ev (.tmp 31) = .pointer (some ⟨w.heap.size, 2, none⟩) := hd 10 31 (by kernel_rfl)
        have e30 : ev (.tmp 30) = I x.1 := hd 9 30 (by kernel_rfl)
        obtain ⟨nq, rfl⟩ := hR
        go_simp
        exact ⟨rfl, ⟨nq, rfl⟩, trivial⟩
      | 12, _, ho =>
        cases ho
        have e32 : ev (.tmp 32) = .pointer (some ⟨w.heap.size, 2 + x.1, none⟩) := hd 11 32 (by kernel_rfl)
        obtain ⟨nq, rfl⟩ := hR
        go_simp
        exact ⟨rfl, ⟨nq, rfl⟩, trivial⟩
      | 13, _, ho =>
        cases ho
        obtain ⟨nq, rfl⟩ := hR
        have e29 : ev (.tmp 29) = I (place + dist ws wing x.1) := hd 8 29 (by kernel_rfl)
        have e33 : ev (.tmp 33) = I (gI [p0, p1, p2, p3, p4, p5, p6, p7] x.1) := hd 12 33 (by kernel_rfl)
        go_simp
        refine (dividedUp_c _ _ _ (by omega) (by omega) (by omega) (by omega)).mono ?_
        rintro e w1 ⟨rfl, rfl⟩
        exact ⟨rfl, ⟨nq, rfl⟩, trivial⟩
      | 14, _, ho =>
        cases ho
        have e26 : ev (.tmp 26) = I (gI sts x.1) := hd 5 26 (by kernel_rfl)
        have e34 : ev (.tmp 34) = I (cd (place + dist ws wing x.1) (gI [p0, p1, p2, p3, p4, p5, p6, p7] x.1)) := hd 13 34 (by kernel_rfl)
        obtain ⟨nq, rfl⟩ := hR
        have ew : IntKind.i64.wrap (gI sts x.1 + cd (place + dist ws wing x.1) (gI [p0, p1, p2, p3, p4, p5, p6, p7] x.1)) = gI sts x.1 + cd (place + dist ws wing x.1) (gI [p0, p1, p2, p3, p4, p5, p6, p7] x.1) := IntWalk.i64_in _ (by omega)
        go_simp
        exact ⟨rfl, ⟨nq, rfl⟩, trivial⟩
      | 15, _, ho =>
        cases ho
        have e21 : ev (.tmp 21) = I s := hd 0 21 (by kernel_rfl)
        have e35 : ev (.tmp 35) = I (gI sts x.1 + cd (place + dist ws wing x.1) (gI [p0, p1, p2, p3, p4, p5, p6, p7] x.1)) := hd 14 35 (by kernel_rfl)
        obtain ⟨nq, rfl⟩ := hR
        go_simp
        exact ⟨congrArg I (max_if _ _), ⟨nq, rfl⟩, trivial⟩
      | n + 16, hi, _ => exact absurd hi (by simp)
    · intro ρ w6 hR hρ K hK
      obtain ⟨nq, rfl⟩ := hR
      have p15 : ρ 15 = I (psec ws sts [p0, p1, p2, p3, p4, p5, p6, p7] wing place s x.1) := hρ 15 (by simp)
      show K (putAll _ _ ρ 16) _
      simp only [putAll, dOf, List.getElem?_toArray, List.getElem?_cons_zero, List.getElem?_cons_succ, Option.bind_some, Act.put, List.setIfInBounds_toArray, List.set_cons_zero, List.set_cons_succ]
      rw [p15]
      refine hK _ _ ?_
      change wpList _ _ _ [_] _ _
      clear hK K hρ
      have hf7 := hx7.free
      go_wp2
      refine ⟨(⟨Nat.le_refl _, fun _ _ h _ => h⟩ : KeepsOthers W (W.drewN nq)).trans (KeepsOthers.setCell _ _ _), (KB.drewN _ _ _ nq).trans (KB.setCell _ _ _ _ _), ⟨(hx3.drewN nq).far (p := ⟨w.heap.size + 1 + 1, 0, none⟩) (by simp only []; omega) _, (hx5.drewN nq).far (p := ⟨w.heap.size + 1 + 1, 0, none⟩) (by simp only []; omega) _⟩, ?_, (below_drewN hbel nq).setCell (p := ⟨w.heap.size + 1 + 1, 0, none⟩) (by simp only []; omega) _⟩
      rw [List.map_append, List.foldl_append, Hsg.out]
      exact (hx7.drewN nq).set_ 0 _
  case done =>
    rintro D ys W hD hys ⟨⟨hx3, hx5⟩, hx7, hbel⟩ hK
    have hc7 := hx7.cell
    gi_wp2
    refine ⟨by simp, .inl ⟨_, _, rfl, run_takeDeferred hK, ?_⟩⟩
    refine ⟨_, results_tmp rfl _ _ _, ?_, hbel.trans (belowK_b (w := w) (Nat.le_refl _) W D _ _ (by simp at hD; omega) hK rfl rfl)⟩
    have e := psec_all ws sts [p0, p1, p2, p3, p4, p5, p6, p7] wing place wing (gI sts wing) (Nat.le_refl _)
    rw [dist_self, Int.add_zero] at e
    exact ret_int e
  case stop =>
    rintro D c pre W hD _ h _
    exact h.elim

set_option maxRecDepth 100000 in
set_option maxHeartbeats 2000000 in
theorem frontT_c (A B : Option Addr) (c d : Nat) (p0 p1 p2 p3 p4 p5 p6 p7 : Int) (ws : List Wg) (sts : List Int) (wing : Nat) (t : Int) (T1 T2 : TypeId) (w : World)
    (h1 : SlW w T1 A ws) (h2 : SlI w T2 B sts) (hs : Sm ws sts [p0, p1, p2, p3, p4, p5, p6, p7] wing) (hp1 : -1000000 ≤ t) (hp2 : t ≤ 1000000)
    (hl1 : ws.length ≤ 1000000) (hl2 : sts.length ≤ maxLen) :
    Calls Try.prog 73 #[tv A ws.length c B sts.length d p0 p1 p2 p3 p4 p5 p6 p7, I wing, I t] w fun e w' => e = .returned (I (front ws sts [p0, p1, p2, p3, p4, p5, p6, p7] t wing)) ∧ Below w.heap.size w w' := by
  unfold tv
  have hs0 := hs
  obtain ⟨hw1, hw2, hw3, hw4, hk⟩ := hs
  unfold maxLen at hl2
  obtain ⟨b1, o1, rfl, hb1⟩ := SlW.some_ h1 hw1
  obtain ⟨b2, o2, rfl, hb2⟩ := SlI.some_ h2 hw2
  refine (callsIn_wide (n := 3)).1 ?_
  refine callsIn_of_wp_marks Try.func73 rfl trivial ?_ rfl
  simp only [Try.ntmps73, List.size_toArray, List.length_cons, List.length_nil, Nat.reduceAdd, Nat.reduceSub, Array.replicate_succ, Array.replicate_zero, List.push_toArray, List.append_toArray, List.nil_append, List.cons_append]
  have hcs := SlI.cellG h2 hw2
  have hB3 := Bx.new w 97 #[.slice (some ⟨b1, o1, none⟩) ws.length c, .slice (some ⟨b2, o2, none⟩) sts.length d, I p0, I p1, I p2, I p3, I p4, I p5, I p6, I p7]
  have hlens : ∀ k, k ≤ wing → 0 ≤ (gW ws k).len ∧ (gW ws k).len ≤ 1000000 := fun k hkk => (hk k hkk).2.2.2.2
  have hlens : ∀ k, k ≤ wing → 0 ≤ (gW ws k).len ∧ (gW ws k).len ≤ 1000000 := fun k hkk => (hk k hkk).2.2.2.2
  have hlens : ∀ k, k ≤ wing → 0 ≤ (gW ws k).len ∧ (gW ws k).len ≤ 1000000 := fun k hkk => (hk k hkk).2.2.2.2
  have hlens : ∀ k, k ≤ wing → 0 ≤ (gW ws k).len ∧ (gW ws k).len ≤ 1000000 := fun k hkk => (hk k hkk).2.2.2.2
  have hlens : ∀ k, k ≤ wing → 0 ≤ (gW ws k).len ∧ (gW ws k).len ≤ 1000000 := fun k hkk => (hk k hkk).2.2.2.2
  have hlens : ∀ k, k ≤ wing → 0 ≤ (gW ws k).len ∧ (gW ws k).len ≤ 1000000 := fun k hkk => (hk k hkk).2.2.2.2
  gi_wp2_with (refine ⟨trivial, ?_⟩; gi_at_call 98; refine (callsIn_wide.2 (upTo_c _ _ _ _ _)).mono ?_; rintro e w' ⟨rfl, rfl⟩)
  clear hcs
  have hlt0 : w.heap.size < w.heap.size + 1 := Nat.lt_succ_self _
  refine wpIn_rangeFunc_ownF rfl (by decide) (gf := 108) (lb := #[.pointer (some ⟨w.heap.size + 1 + 1 + 1 + 1, 0, none⟩), .pointer (some ⟨w.heap.size + 1 + 1 + 1, 0, none⟩)]) rfl trivial (enters_of Try.func108 (by kernel_rfl) rfl)
    (upTo1_stops (3 - 1) (by decide) (some ⟨b1, o1, none⟩) c (w.heap.size + 1 + 1 + 1 + 1) (w.heap.size + 1 + 1 + 1) ws wing T1 _ hw1 hw4 hl1 hlens (w.heap.size + 5) (some (w.heap.size + 1 + 1)) (by simp only [World.size_alloc]; omega)
      (h1.below (((((((Below.refl w.heap.size w).alloc (Nat.le_refl _) _).alloc (by simp) _).alloc (by simp; omega) _).alloc (by simp; omega) _).alloc (by simp; omega) _)) (Nat.le_refl _))
      (fun b o hbo => by injection hbo with hbo; injection hbo with e1 e2; subst e1; exact ⟨by omega, by simp; omega⟩)
      (Bx.new' _ 3 #[I wing] (w.heap.size + 1 + 1 + 1 + 1) (by simp)) ((Bx.new' _ 22 #[.slice (some ⟨b1, o1, none⟩) ws.length c] (w.heap.size + 1 + 1 + 1) (by simp)).alloc _) (by omega) (by omega) (fun h => by injection h with h; omega) (fun h => by injection h with h; omega))
    KB.trans (fun W l o o' hl hW hc hwk => KB.putObj (by simp) W l o o' hl hW hc hwk) (Below.refl _ _) (fun _ => rfl)
    (fun pre W => (Bx W w.heap.size 97 #[.slice (some ⟨b1, o1, none⟩) ws.length c, .slice (some ⟨b2, o2, none⟩) sts.length d, I p0, I p1, I p2, I p3, I p4, I p5, I p6, I p7] ∧ Bx W (w.heap.size + 1) 3 #[I t]) ∧
      Bx W (w.heap.size + 1 + 1) 3 #[I ((pre.map (fun x : Up wing => x.1)).foldl (pmin ws sts [p0, p1, p2, p3, p4, p5, p6, p7] wing t) 9223372036854775807)] ∧ Below w.heap.size w W)
    (fun _ _ _ => False)
    (OwnFrom.and (OwnFrom.and (bx_own _ _ _ _) (bx_own _ _ _ _)) (OwnFrom.and (bx_own _ _ _ _) (ownFrom_below (Nat.le_refl _) (by simp; omega))))
    (fun _ _ _ _ _ hs _ _ => hs)
    ⟨⟨(((hB3.alloc _).alloc _).alloc _).alloc _, ((((Bx.new' _ 3 #[I t] (w.heap.size + 1) (by simp)).alloc _).alloc _).alloc _)⟩, (((Bx.new' _ 3 #[I 9223372036854775807] (w.heap.size + 1 + 1) (by simp)).alloc _).alloc _), ((((((Below.refl w.heap.size w).alloc (Nat.le_refl _) _).alloc (by simp) _).alloc (by simp; omega) _).alloc (by simp; omega) _).alloc (by simp; omega) _)⟩
    (fun x => { tmps := #[.agg #[.slice (some ⟨b1, o1, none⟩) ws.length c, .slice (some ⟨b2, o2, none⟩) sts.length d, I p0, I p1, I p2, I p3, I p4, I p5, I p6, I p7], I wing, I t, .pointer (some ⟨w.heap.size, 0, none⟩), undef, .pointer (some ⟨w.heap.size + 1, 0, none⟩), .int .i64 0, .pointer (some ⟨w.heap.size + 1 + 1, 0, none⟩), I x.1, I (dist ws wing x.1),
      .pointer (some ⟨w.heap.size, 0, none⟩), .slice (some ⟨b1, o1, none⟩) ws.length c, I wing,
      .func (.func 108) #[] #[.pointer (some ⟨w.heap.size + 1 + 1 + 1 + 1, 0, none⟩), .pointer (some ⟨w.heap.size + 1 + 1 + 1, 0, none⟩)], I x.1, I (dist ws wing x.1), undef, undef, undef, undef, undef, undef, undef, undef, undef, undef, undef, undef, undef, undef, undef, undef, undef], defers := [] }) ?assign ?body ?done ?stop
  case assign =>
    intro l x W K hK
    gi_wp2
    exact hK
  case body =>
    rintro l pre x W ⟨⟨hx3, hx5⟩, hx7, hbel⟩ hlen
    obtain ⟨h51, h52, h53, h54, h55, h56⟩ := hk x.1 x.2
    have hxw := x.2
    have hdb := dist_bd hlens hw4 (wing - x.1) x.1 (by omega)
    have hpr := prod_bd hs0 x.2 hp1 hp2
    have hc31 : W.cell? ⟨w.heap.size, 1, none⟩ = some (.slice (some ⟨b2, o2, none⟩) sts.length d) := hx3.cell 1
    have hc3p := (hx3.cell (2 + x.1)).trans (pace_cell _ _ p0 p1 p2 p3 p4 p5 p6 p7 x.1 (by simp at hw3; omega))
    have hc5 := hx5.cell
    have hc7 := hx7.cell
    have hx8 : x.1 < 8 := by simp at hw3; omega
    have hx8' : (x.1 : Int) < 8 := by omega
    have hxs : x.1 < sts.length := by omega
    have hxs' : (x.1 : Int) < sts.length := by omega
    have hcs := SlI.cellG (h2.below hbel (Nat.le_refl _)) hxs
    have Hs := Lib.hid (rfl : (pre.map (fun x : Up wing => x.1)).foldl (pmin ws sts [p0, p1, p2, p3, p4, p5, p6, p7] wing t) 9223372036854775807 = (pre.map (fun x : Up wing => x.1)).foldl (pmin ws sts [p0, p1, p2, p3, p4, p5, p6, p7] wing t) 9223372036854775807)
    generalize hsg : (pre.map (fun x : Up wing => x.1)).foldl (pmin ws sts [p0, p1, p2, p3, p4, p5, p6, p7] wing t) 9223372036854775807 = s at *
    clear Hs
    have Hsg := Lib.hid hsg
    clear hsg
    gi_wp2_with fail
    refine wp_region_round_of (by kernel_rfl) (R := fun w' => ∃ n, w' = W.drewN n) (F := fun _ _ => True)
      [As.is _ _ (I s),
        As.is _ _ (I x.1),
        As.is _ _ (.pointer (some ⟨w.heap.size, 2, none⟩)),
        As.is _ _ (.pointer (some ⟨w.heap.size, 2 + x.1, none⟩)),
        As.is _ _ (I (gI [p0, p1, p2, p3, p4, p5, p6, p7] x.1)),
        As.is _ _ (I t),
        As.is _ _ (.pointer (some ⟨w.heap.size, 1, none⟩)),
        As.is _ _ (.slice (some ⟨b2, o2, none⟩) sts.length d),
        As.is _ _ (I x.1),
        As.is _ _ (.pointer (some ⟨b2, o2 + x.1, none⟩)),
        As.is _ _ (I (gI sts x.1)),
        As.is _ _ (I (t - gI sts x.1)),
        As.is _ _ (I (gI [p0, p1, p2, p3, p4, p5, p6, p7] x.1 * (t - gI sts x.1))),
        As.is _ _ (I (dist ws wing x.1)),
        As.is _ _ (I (gI [p0, p1, p2, p3, p4, p5, p6, p7] x.1 * (t - gI sts x.1) - dist ws wing x.1)),
        As.is _ _ (I (pmin ws sts [p0, p1, p2, p3, p4, p5, p6, p7] wing t s x.1))] 33 (by kernel_rfl) (by kernel_rfl) rfl (fun _ _ h => h) ⟨1, rfl⟩ ?_ ?_
    · intro i hi o ho ev w' hR hc hf hg hs hd
      match i, hi, ho with
      | 0, _, ho =>
        cases ho
        have e7 : ev (.tmp 7) = .pointer (some ⟨w.heap.size + 1 + 1, 0, none⟩) := hs 7 (by kernel_rfl)
        obtain ⟨nq, rfl⟩ := hR
        go_simp
        exact ⟨rfl, ⟨nq, rfl⟩, trivial⟩
      | 1, _, ho =>
        cases ho
        have e8 : ev (.tmp 8) = I x.1 := hs 8 (by kernel_rfl)
        obtain ⟨nq, rfl⟩ := hR
        go_simp
        exact ⟨rfl, ⟨nq, rfl⟩, trivial⟩
      | 2, _, ho =>
        cases ho
        have e3 : ev (.tmp 3) = .pointer (some ⟨w.heap.size, 0, none⟩) := hs 3 (by kernel_rfl)
        obtain ⟨nq, rfl⟩ := hR
        go_simp
        exact ⟨rfl, ⟨nq, rfl⟩, trivial⟩
      | 3, _, ho =>
        cases ho
        have e18 : ev (.tmp 18) = .pointer (some ⟨w.heap.size, 2, none⟩) := hd 2 18 (by kernel_rfl)
        have e17 : ev (.tmp 17) = I x.1 := hd 1 17 (by kernel_rfl)
        obtain ⟨nq, rfl⟩ := hR
        go_simp
        exact ⟨rfl, ⟨nq, rfl⟩, trivial⟩
      | 4, _, ho =>
        cases ho
        have e19 : ev (.tmp 19) = .pointer (some ⟨w.heap.size, 2 + x.1, none⟩) := hd 3 19 (by kernel_rfl)
        obtain ⟨nq, rfl⟩ := hR
        go_simp
        exact ⟨rfl, ⟨nq, rfl⟩, trivial⟩
      | 5, _, ho =>
        cases ho
        have e5 : ev (.tmp 5) = .pointer (some ⟨w.heap.size + 1, 0, none⟩) := hs 5 (by kernel_rfl)
        obtain ⟨nq, rfl⟩ := hR
        go_simp
        exact ⟨rfl, ⟨nq, rfl⟩, trivial⟩
      | 6, _, ho =>
        cases ho
        have e3 : ev (.tmp 3) = .pointer (some ⟨w.heap.size, 0, none⟩) := hs 3 (by kernel_rfl)
        obtain ⟨nq, rfl⟩ := hR
        go_simp
        exact ⟨rfl, ⟨nq, rfl⟩, trivial⟩
      | 7, _, ho =>
        cases ho
        have e22 : ev (.tmp 22) = .pointer (some ⟨w.heap.size, 1, none⟩) := hd 6 22 (by kernel_rfl)
        obtain ⟨nq, rfl⟩ := hR
        go_simp
        exact ⟨rfl, ⟨nq, rfl⟩, trivial⟩
      | 8, _, ho =>
        cases ho
        have e8 : ev (.tmp 8) = I x.1 := hs 8 (by kernel_rfl)
        obtain ⟨nq, rfl⟩ := hR
        go_simp
        exact ⟨rfl, ⟨nq, rfl⟩, trivial⟩
      | 9, _, ho =>
        cases ho
        have e23 : ev (.tmp 23) = .slice (some ⟨b2, o2, none⟩) sts.length d := hd 7 23 (by kernel_rfl)
        have e24 : ev (.tmp 24) = I x.1 := hd 8 24 (by kernel_rfl)
        obtain ⟨nq, rfl⟩ := hR
        go_simp
        exact ⟨rfl, ⟨nq, rfl⟩, trivial⟩
      | 10, _, ho =>
        cases ho
        have e25 : ev (.tmp 25) = .pointer (some ⟨b2, o2 + x.1, none⟩) := hd 9 25 (by kernel_rfl)
        obtain ⟨nq, rfl⟩ := hR
        go_simp
        exact ⟨rfl, ⟨nq, rfl⟩, trivial⟩
      | 11, _, ho =>
        cases ho
        have e21 : ev (.tmp 21) = I t := hd 5 21 (by kernel_rfl)
        have e26 : ev (.tmp 26) = I (gI sts x.1) := hd 10 26 (by kernel_rfl)
        obtain ⟨nq, rfl⟩ := hR
        have ew : IntKind.i64.wrap (t - gI sts x.1) = t - gI sts x.1 := IntWalk.i64_in _ (by omega)
        go_simp
        exact ⟨rfl, ⟨nq, rfl⟩, trivial⟩
      | 12, _, ho =>
        cases ho
        have e20 : ev (.tmp 20) = I (gI [p0, p1, p2, p3, p4, p5, p6, p7] x.1) := hd 4 20 (by kernel_rfl)
        have e27 : ev (.tmp 27) = I (t - gI sts x.1) := hd 11 27 (by kernel_rfl)
        obtain ⟨nq, rfl⟩ := hR
        have ew : IntKind.i64.wrap (gI [p0, p1, p2, p3, p4, p5, p6, p7] x.1 * (t - gI sts x.1)) = gI [p0, p1, p2, p3, p4, p5, p6, p7] x.1 * (t - gI sts x.1) := IntWalk.i64_in _ (by omega)
        go_simp
        exact ⟨rfl, ⟨nq, rfl⟩, trivial⟩
      | 13, _, ho =>
        cases ho
        have e9 : ev (.tmp 9) = I (dist ws wing x.1) := hs 9 (by kernel_rfl)
        obtain ⟨nq, rfl⟩ := hR
        go_simp
        exact ⟨rfl, ⟨nq, rfl⟩, trivial⟩
      | 14, _, ho =>
        cases ho
        have e28 : ev (.tmp 28) = I (gI [p0, p1, p2, p3, p4, p5, p6, p7] x.1 * (t - gI sts x.1)) := hd 12 28 (by kernel_rfl)
        have e29 : ev (.tmp 29) = I (dist ws wing x.1) := hd 13 29 (by kernel_rfl)
        obtain ⟨nq, rfl⟩ := hR
        have ew : IntKind.i64.wrap (gI [p0, p1, p2, p3, p4, p5, p6, p7] x.1 * (t - gI sts x.1) - dist ws wing x.1) = gI [p0, p1, p2, p3, p4, p5, p6, p7] x.1 * (t - gI sts x.1) - dist ws wing x.1 := IntWalk.i64_in _ (by omega)
        go_simp
        exact ⟨rfl, ⟨nq, rfl⟩, trivial⟩
      | 15, _, ho =>
        cases ho
        have e16 : ev (.tmp 16) = I s := hd 0 16 (by kernel_rfl)
        have e30 : ev (.tmp 30) = I (gI [p0, p1, p2, p3, p4, p5, p6, p7] x.1 * (t - gI sts x.1) - dist ws wing x.1) := hd 14 30 (by kernel_rfl)
        obtain ⟨nq, rfl⟩ := hR
        go_simp
        exact ⟨congrArg I (min_if _ _), ⟨nq, rfl⟩, trivial⟩
      | n + 16, hi, _ => exact absurd hi (by simp)
    · intro ρ w6 hR hρ K hK
      obtain ⟨nq, rfl⟩ := hR
      have p15 : ρ 15 = I (pmin ws sts [p0, p1, p2, p3, p4, p5, p6, p7] wing t s x.1) := hρ 15 (by simp)
      show K (putAll _ _ ρ 16) _
      simp only [putAll, dOf, List.getElem?_toArray, List.getElem?_cons_zero, List.getElem?_cons_succ, Option.bind_some, Act.put, List.setIfInBounds_toArray, List.set_cons_zero, List.set_cons_succ]
      rw [p15]
      refine hK _ _ ?_
      change wpList _ _ _ [_] _ _
      clear hK K hρ
      have hf7 := hx7.free
      go_wp2
      refine ⟨(⟨Nat.le_refl _, fun _ _ h _ => h⟩ : KeepsOthers W (W.drewN nq)).trans (KeepsOthers.setCell _ _ _), (KB.drewN _ _ _ nq).trans (KB.setCell _ _ _ _ _), ⟨(hx3.drewN nq).far (p := ⟨w.heap.size + 1 + 1, 0, none⟩) (by simp only []; omega) _, (hx5.drewN nq).far (p := ⟨w.heap.size + 1 + 1, 0, none⟩) (by simp only []; omega) _⟩, ?_, (below_drewN hbel nq).setCell (p := ⟨w.heap.size + 1 + 1, 0, none⟩) (by simp only []; omega) _⟩
      rw [List.map_append, List.foldl_append, Hsg.out]
      exact (hx7.drewN nq).set_ 0 _
  case done =>
    rintro D ys W hD hys ⟨⟨hx3, hx5⟩, hx7, hbel⟩ hK
    have hc7 := hx7.cell
    gi_wp2
    refine ⟨by simp, .inl ⟨_, _, rfl, run_takeDeferred hK, ?_⟩⟩
    refine ⟨_, results_tmp rfl _ _ _, ?_, hbel.trans (belowK_b (w := w) (Nat.le_refl _) W D _ _ (by simp at hD; omega) hK rfl rfl)⟩
    have e := pmin_all ws sts [p0, p1, p2, p3, p4, p5, p6, p7] wing t wing 9223372036854775807 (Nat.le_refl _)
    have hfb := front_bd hs0 hp1 hp2 wing (Nat.le_refl _)
    rw [dist_self, show ∀ z : Int, z - 0 = z from fun z => by omega, show min 9223372036854775807 (front ws sts [p0, p1, p2, p3, p4, p5, p6, p7] t wing) = front ws sts [p0, p1, p2, p3, p4, p5, p6, p7] t wing by omega] at e
    exact ret_int e
  case stop =>
    rintro D c pre W hD _ h _
    exact h.elim
end Go.Proofs.Ytnihkgdkdinliaa
