import Derived.Test.YtnihkgdkdinliaaLawKitC
import Derived.Test.YtnihkgdkdinliaaRulesOf
import Derived.Test.YtnihkgdkdinliaaPacesOf
import Derived.Test.YtnihkgdkdinliaaWalk
import Derived.Test.YtnihkgdkdinliaaRegionD
/- Boxes that get what they are made for, of any type; how long the parade lasts. Own work. -/
namespace Go.Proofs.Ytnihkgdkdinliaa
open Go.RowKit
set_option linter.unusedVariables false
set_option linter.unusedSimpArgs false

/-- Block b is a box of rules, and they are so. -/
def RuB (P : Int → Int → Int → Prop) (w : World) (b : Nat) : Prop := ∃ x y z : Int, P x y z ∧ Bx w b 54 #[I x, I y, I z]
def R0 (P : Int → Int → Int → Prop) (x y z : Int) : Prop := (x = 0 ∧ y = 0 ∧ z = 0) ∨ P x y z
def FR (row : Option Nat) (n0 : Nat) (P : Int → Int → Int → Prop) (w w' : World) : Prop :=
  w.heap.size ≤ w'.heap.size ∧ ∀ b, b < w.heap.size → some b ≠ row → w'.heap[b]? = w.heap[b]? ∨ (n0 ≤ b ∧ RuB (R0 P) w b ∧ RuB P w' b)
theorem FR.refl (row : Option Nat) (n0 : Nat) (P : Int → Int → Int → Prop) (w : World) : FR row n0 P w w := ⟨Nat.le_refl _, fun _ _ _ => .inl rfl⟩
theorem FR.kp {row : Option Nat} {n0 : Nat} {P : Int → Int → Int → Prop} {w w' : World} (h : w.grownBy w' row) : FR row n0 P w w' := ⟨h.size, fun b hb hne => .inl (h.block b hb hne)⟩
theorem FR.below {row : Option Nat} {n0 : Nat} {P : Int → Int → Int → Prop} {w w' : World} (h : Below w.heap.size w w') : FR row n0 P w w' := ⟨h.size, fun b hb _ => .inl (h.block b hb)⟩
theorem RuB.lt {P : Int → Int → Int → Prop} {w : World} {b : Nat} (h : RuB P w b) : b < w.heap.size := by obtain ⟨_, _, _, _, h⟩ := h; exact h.lt
theorem RuB.now {P : Int → Int → Int → Prop} {w : World} {b : Nat} (h : RuB P w b) : RuB (R0 P) w b := by obtain ⟨x, y, z, h1, h2⟩ := h; exact ⟨x, y, z, .inr h1, h2⟩
theorem RuB.fs0 {row : Option Nat} {n0 : Nat} {P : Int → Int → Int → Prop} {w w' : World} {b : Nat} (h : RuB (R0 P) w b) (hb : some b ≠ row) (hf : FR row n0 P w w') : RuB (R0 P) w' b := by
  rcases hf.2 b h.lt hb with e | ⟨_, _, e⟩
  · obtain ⟨x, y, z, h1, h2⟩ := h; exact ⟨x, y, z, h1, e.trans h2⟩
  · exact e.now
theorem RuB.fs1 {row : Option Nat} {n0 : Nat} {P : Int → Int → Int → Prop} {w w' : World} {b : Nat} (h : RuB P w b) (hb : some b ≠ row) (hf : FR row n0 P w w') : RuB P w' b := by
  rcases hf.2 b h.lt hb with e | ⟨_, _, e⟩
  · obtain ⟨x, y, z, h1, h2⟩ := h; exact ⟨x, y, z, h1, e.trans h2⟩
  · exact e
theorem RuB.put {P : Int → Int → Int → Prop} {w : World} {b : Nat} {x y z : Int} (h : RuB (R0 P) w b) (hp : P x y z) : RuB P (((w.setCell ⟨b, 0, none⟩ (I x)).setCell ⟨b, 1, none⟩ (I y)).setCell ⟨b, 2, none⟩ (I z)) b := by
  obtain ⟨x0, y0, z0, _, hb⟩ := h
  exact ⟨x, y, z, hp, ((hb.set_ 0 (I x)).set_ 1 (I y)).set_ 2 (I z)⟩
theorem FR.put {row : Option Nat} {n0 : Nat} {P : Int → Int → Int → Prop} {w : World} {b : Nat} {x y z : Int} (hn : n0 ≤ b) (h : RuB (R0 P) w b) (hp : P x y z) : FR row n0 P w (((w.setCell ⟨b, 0, none⟩ (I x)).setCell ⟨b, 1, none⟩ (I y)).setCell ⟨b, 2, none⟩ (I z)) := by
  refine ⟨by simp [World.setCell], fun b' hb' _ => ?_⟩
  by_cases e : b' = b
  · subst e; exact .inr ⟨hn, h, h.put hp⟩
  · exact .inl (((Below.heap_setCell _ _ _ _ e).trans (Below.heap_setCell _ _ _ _ e)).trans (Below.heap_setCell _ _ _ _ e))
/-- A slice of numbers stays. -/
theorem SlI.fr {d n0 : Nat} {P : Int → Int → Int → Prop} {w w' : World} {B : Option Addr} {zs : List Int} (h : SlI w 3 B zs) (hd : Dr w d) (hf : FR (some d) n0 P w w') : SlI w' 3 B zs := by
  rcases h with h | ⟨b, o, cs, fz, hA, hh, hc⟩
  · exact .inl h
  · refine .inr ⟨b, o, cs, fz, hA, ?_, hc⟩
    have hne : some b ≠ some d := by
      intro e
      injection e with e
      subst e
      obtain ⟨x, hx, _⟩ := hd
      rw [hh] at hx
      injection hx with hx
      injection hx with _ ht
      exact absurd ht (by decide)
    rcases hf.2 b (lt_of_heap hh) hne with e | ⟨_, ⟨x, y, z, _, hb⟩, _⟩
    · exact e.trans hh
    · unfold Bx at hb
      rw [hh] at hb
      injection hb with hb
      injection hb with _ ht
      exact absurd ht (by decide)

section
variable (R : World → Prop) (d : Nat) (hRd : ∀ w, R w → Dr w d) (n0 : Nat) (P : Int → Int → Int → Prop)
def asRu0 : As R (FR (some d) n0 P) :=
  ⟨fun v w => ∃ b, v = .pointer (some ⟨b, 0, none⟩) ∧ n0 ≤ b ∧ some b ≠ some d ∧ RuB (R0 P) w b, fun v w w' _ _ hf ⟨b, e, h1, h2, h3⟩ => ⟨b, e, h1, h2, h3.fs0 h2 hf⟩⟩
def asRu1 : As R (FR (some d) n0 P) :=
  ⟨fun v w => ∃ b, v = .pointer (some ⟨b, 0, none⟩) ∧ n0 ≤ b ∧ some b ≠ some d ∧ RuB P w b, fun v w w' _ _ hf ⟨b, e, h1, h2, h3⟩ => ⟨b, e, h1, h2, h3.fs1 h2 hf⟩⟩
/-- A slice of some numbers, which are so. -/
def asSome (Q : List Int → Nat → Prop) : As R (FR (some d) n0 P) :=
  ⟨fun v w => ∃ B c zs, v = .slice B zs.length c ∧ SlI w 3 B zs ∧ Q zs c, fun v w w' hr _ hf h => by obtain ⟨B, c, zs, e, h1, h2⟩ := h; exact ⟨B, c, zs, e, SlI.fr h1 (hRd w hr) hf, h2⟩⟩
end
theorem RuB.new (P : Int → Int → Int → Prop) (w : World) : RuB (R0 P) (w.alloc (.cells #[I 0, I 0, I 0] 54)) w.heap.size := ⟨0, 0, 0, .inl ⟨rfl, rfl, rfl⟩, Bx.new _ _ _⟩

section
variable {r : Int} {c : Nat} {ws : List Wg} {sts : List Int} {cb : Nat} {A B : Option Addr} {w : World}
theorem LV.lasts_ (V : LV r c ws sts cb) (h1 : SlW w 29 A ws) (h2 : SlI w 3 B sts) {a b g : Int} (hr : rulE a b g = 0) :
    Calls Try.prog 38 #[.agg #[I r, .slice A ws.length c], .slice B sts.length cb, .agg #[I a, I b, I g]] w fun e w' => e = .returned (.tuple #[I (verd a b (lasF r ws sts (his ws)) (lasF r ws sts (los ws))), Sp (lasF r ws sts (his ws)) (lasF r ws sts (los ws)), I 0]) ∧ Below w.heap.size w w' := by
  have h := lastsP_c r A B c cb ws sts 29 3 w h1 h2 V.fit V.max.1 V.cap V.max.2 V.capb a b g
  have e : Go.Proofs.Ytnihkgdkdinliaa.laE r ws sts a b g = 0 := (laE_ok V.ok).trans hr
  unfold laV laLo laHi at h
  rw [if_pos e, if_pos e, if_pos e, e] at h
  exact h
end

/-- True paces lie between both ends, and the parade lasts so long. -/
theorem time_math {r : Int} {c : Nat} {ws : List Wg} {sts ps : List Int} {cb : Nat} (V : LV r c ws sts cb) (hl : ps.length = ws.length) (hp : PcB ws ps ps.length) {k : Nat} (hk : k + 1 = ws.length) :
    passed ws sts (his ws) k (r + (gW ws k).len) ≤ passed ws sts ps k (r + (gW ws k).len) ∧ passed ws sts ps k (r + (gW ws k).len) ≤ passed ws sts (los ws) k (r + (gW ws k).len) ∧ gI sts 0 ≤ passed ws sts (his ws) k (r + (gW ws k).len) ∧ passed ws sts (los ws) k (r + (gW ws k).len) ≤ 9300 ∧
    (∀ t : Int, t < passed ws sts ps k (r + (gW ws k).len) → rv ws sts ps t k < r + (gW ws k).len) ∧ r + (gW ws k).len ≤ rv ws sts ps (passed ws sts ps k (r + (gW ws k).len)) k := by
  have hv := V.val
  have hr1 := V.r1
  have hr2 := V.r2
  obtain ⟨_, m1, m2, _⟩ := V.made.at_ (show k < ws.length by omega)
  have hb := V.pbd (k := k) (by omega) (t := r + (gW ws k).len) (by omega) (by omega)
  have hpp : ∀ j, j ≤ k → gI (los ws) j ≤ gI ps j ∧ gI ps j ≤ gI (his ws) j := fun j hj => by
    have := hp j (by omega)
    rw [gI_los _ _ (by omega), gI_his _ _ (by omega)]
    exact this
  have h1 : ∀ j, j ≤ k → 1 ≤ gI ps j := fun j hj => by have := hpp j hj; have := hv.los1 (show j < ws.length by omega); omega
  have hs := passed_self (ws := ws) (sts := sts) (place := r + (gW ws k).len) h1
  have h0 := hv.sorted (show 0 ≤ k by omega) (show k < ws.length by omega)
  refine ⟨passed_more fun j hj => ⟨h1 j hj, (hpp j hj).2⟩, passed_more fun j hj => ⟨(hv.los1 (by omega)).1, (hpp j hj).1⟩, by omega, hb.2.2, fun t ht => ?_, ?_⟩
  · unfold rv
    split
    · rename_i hst
      exact hv.before (by omega) h1 hst ht
    · omega
  · unfold rv
    rw [if_pos (hs.1 k (Nat.le_refl _))]
    exact hs.2
theorem VSt.smPs {r : Int} {ws : List Wg} {sts ps : List Int} (h : VSt r ws sts) (hl : ps.length = ws.length) (hp : PcB ws ps ps.length) : Sm ws sts ps (ws.length - 1) := by
  have hn := h.n1
  have h8 := h.n2
  have hlen := h.len
  refine ⟨by omega, by omega, by omega, by omega, fun k hk => ?_⟩
  have := hp k (by omega)
  obtain ⟨_, a1, a2, a3, a4, a5, a6, a7⟩ := h.all k (by omega)
  have := h.bd k (by omega)
  omega
end Go.Proofs.Ytnihkgdkdinliaa
/- True paces: the mathematics. Own work. -/
namespace Go.Proofs.Ytnihkgdkdinliaa
open Go.RowKit
set_option linter.unusedVariables false
set_option linter.unusedSimpArgs false

/-- Paces that may be. -/
def InP (ws : List Wg) (ps : List Int) : Prop := ps.length = ws.length ∧ PcB ws ps ps.length

theorem gI_set {ps : List Int} {i : Nat} {x : Int} (hi : i < ps.length) (k : Nat) : gI (ps.set i x) k = if k = i then x else gI ps k := by
  unfold gI
  rw [List.getElem?_set]
  by_cases h : i = k
  · subst h; simp [hi]
  · have : ¬ k = i := fun e => h e.symm
    simp [h, this]

section
variable {r : Int} {c : Nat} {ws : List Wg} {sts ps : List Int} {cb k : Nat} {t p x : Int}
theorem InP.at_ (h : InP ws ps) (hk : k < ws.length) : gI (los ws) k ≤ gI ps k ∧ gI ps k ≤ gI (his ws) k := by
  have := h.2 k (by rw [h.1]; exact hk)
  rw [gI_los _ _ hk, gI_his _ _ hk]
  exact this
theorem InP.los (V : LV r c ws sts cb) : InP ws (los ws) := ⟨los_length ws, fun k hk => by
  rw [los_length] at hk
  have := V.val.los1 hk
  rw [gI_los _ _ hk, gI_his _ _ hk] at this
  rw [gI_los _ _ hk]
  omega⟩
theorem InP.his (V : LV r c ws sts cb) : InP ws (his ws) := ⟨his_length ws, fun k hk => by
  rw [his_length] at hk
  have := V.val.los1 hk
  rw [gI_los _ _ hk, gI_his _ _ hk] at this
  rw [gI_his _ _ hk]
  omega⟩
theorem InP.set (h : InP ws ps) (hk : k < ws.length) (h1 : (gW ws k).lo ≤ x) (h2 : x ≤ (gW ws k).hi) : InP ws (ps.set k x) :=
  ⟨by simp [h.1], fun j hj => by
    rw [gI_set (by rw [h.1]; exact hk)]
    split
    · rename_i e; subst e; exact ⟨h1, h2⟩
    · exact h.2 j (by simpa using hj)⟩

theorem InP.front (h : InP ws ps) (V : LV r c ws sts cb) (hk : k < ws.length) (ht : gI sts k ≤ t) :
    front ws sts (Go.Proofs.Ytnihkgdkdinliaa.los ws) t k ≤ front ws sts ps t k ∧ front ws sts ps t k ≤ front ws sts (Go.Proofs.Ytnihkgdkdinliaa.his ws) t k :=
  ⟨front_more k fun j hj => ⟨(h.at_ (by omega)).1, Int.le_trans (V.val.sorted hj hk) ht⟩, front_more k fun j hj => ⟨(h.at_ (by omega)).2, Int.le_trans (V.val.sorted hj hk) ht⟩⟩
theorem InP.passed (h : InP ws ps) (V : LV r c ws sts cb) (hk : k < ws.length) :
    passed ws sts (Go.Proofs.Ytnihkgdkdinliaa.his ws) k p ≤ passed ws sts ps k p ∧ passed ws sts ps k p ≤ passed ws sts (Go.Proofs.Ytnihkgdkdinliaa.los ws) k p :=
  ⟨passed_more fun j hj => by have := h.at_ (show j < ws.length by omega); have := V.val.los1 (show j < ws.length by omega); omega, passed_more fun j hj => by have := h.at_ (show j < ws.length by omega); have := V.val.los1 (show j < ws.length by omega); omega⟩
theorem gap_of (h0 : k ≠ 0) : Go.Proofs.Ytnihkgdkdinliaa.front ws sts ps t (k - 1) - (gW ws (k - 1)).len - Go.Proofs.Ytnihkgdkdinliaa.front ws sts ps t k = gapF ws sts ps (gI ps k) t k := by
  obtain ⟨i, rfl⟩ : ∃ i, k = i + 1 := ⟨k - 1, by omega⟩
  exact gap_eq fun _ _ => rfl
theorem InP.gap (h : InP ws ps) (V : LV r c ws sts cb) (hk : k < ws.length) (h0 : k ≠ 0) (ht : gI sts k ≤ t) :
    gapF ws sts (Go.Proofs.Ytnihkgdkdinliaa.los ws) (gW ws k).hi t k ≤ gapF ws sts ps (gI ps k) t k ∧ gapF ws sts ps (gI ps k) t k ≤ gapF ws sts (Go.Proofs.Ytnihkgdkdinliaa.his ws) (gW ws k).lo t k := by
  have hf := h.front V (k := k - 1) (by omega) (t := t) (Int.le_trans (V.val.sorted (by omega) hk) ht)
  have hp := h.at_ hk
  rw [gI_los _ _ hk, gI_his _ _ hk] at hp
  have e1 : gI ps k * (t - gI sts k) ≤ (gW ws k).hi * (t - gI sts k) := Int.mul_le_mul_of_nonneg_right hp.2 (by omega)
  have e2 : (gW ws k).lo * (t - gI sts k) ≤ gI ps k * (t - gI sts k) := Int.mul_le_mul_of_nonneg_right hp.1 (by omega)
  unfold gapF
  omega
theorem gap_set (hk : k < ps.length) (h0 : k ≠ 0) : gapF ws sts (ps.set k x) p t k = gapF ws sts ps p t k := by
  unfold gapF
  rw [front_congr (ps' := ps) t (k - 1) fun j hj => by rw [gI_set hk, if_neg (by omega)]]
theorem InP.sm (h : InP ws ps) (V : LV r c ws sts cb) : Sm ws sts ps (ws.length - 1) := V.val.smPs h.1 h.2
end
end Go.Proofs.Ytnihkgdkdinliaa
/- The rule of RegionD, in which an operation may use that values differ. Own work; imports no translation. -/
namespace Go.Proofs.Ytnihkgdkdinliaa
open Go.RowKit
set_option linter.unusedVariables false
set_option linter.unusedSimpArgs false

section
variable {P : Program} {ops : Array Oper} {Q : Exit → Act → World → Prop} {m N : Nat} {a0 : Act} {R : World → Prop} {F : World → World → Prop} {φ : Nat → Value → World → Prop} {fr sk : List Nat} {st : List (Nat × Nat)}

theorem main_anyE (hok : okS ops m N sk st = true) (hN : a0.tmps.size = N)
    (hlast : ∀ i v w w', R w → R w' → F w w' → φ i v w → φ i v w')
    (hfs : ∀ i ∈ fr, i ∉ sk) (hft : ∀ i ∈ fr, isSt st i = false) (hT : ∀ i, i < m → ∀ o, ops[i]? = some o → ∀ k b, o.guard = some (k, b) → ∀ u w, R w → φ k u w → u = .bool (if i ∈ sk then !b else b))
    (hFr : ∀ w, F w w) (hS : ∀ i, i < m → i ∈ sk → ∀ w, R w → φ i undef w)
    (hO : ∀ i, i < m → i ∉ sk → ∀ o, ops[i]? = some o → ∀ (ev : Operand → Value) (w : World), R w → (∀ v, ev (.const v) = v) → (∀ f, ev (.func f) = .func (.func f) #[] #[]) → (∀ g, ev (.global g) = .pointer (some ⟨g, 0, none⟩)) →
      (∀ t, freeSlot ops m t = true → ev (.tmp t) = a0.tmps.getD t undef) → (∀ k t, waitsFor ops o k t = true → φ k (ev (.tmp t)) w) → (∀ j k t s, j ∈ fr → k ∈ fr → j ≠ k → waitsFor ops o j t = true → waitsFor ops o k s = true → ev (.tmp t) ≠ ev (.tmp s)) →
      UpS P (fun v w' => isSt st i = false ∧ φ i v w' ∧ (i ∈ fr → ∀ j ∈ fr, ∀ u, φ j u w → v ≠ u)) (fun w' => isSt st i = true ∧ ∀ t, dOf ops (rpi st i) = some t → φ i (ev (.tmp t)) w') R F w ((execOp ev o).run P w))
    (hend : ∀ (ρ : Nat → Value) (w : World), R w → (∀ i, i < m → φ i (ρ (rpi st i)) w) → (∀ i j, i < m → j < m → i ≠ j → i ∈ fr → j ∈ fr → ρ i ≠ ρ j) → wpOps P ops Q (List.range' m (ops.size - m)) (putAll ops a0 ρ m) w) :
    ∀ (fuel : Nat) (listed : Array Bool) (a : Act) (w : World), fuel = toCome ops.size listed → listed.size = ops.size → R w → a.tmps.size = N → a.defers = a0.defers →
      (∀ i, i < m → listed.getD i true = true → ∀ t, dOf ops (rpi st i) = some t → φ i (a.tmps.getD t undef) w) →
      (∀ t, (∀ i, i < m → listed.getD i true = true → dOf ops i ≠ some t) → a.tmps.getD t undef = a0.tmps.getD t undef) →
      (∀ k, m ≤ k → k < ops.size → listed.getD k true = false) →
      (∀ i, listed.getD i false = true → ∀ o, ops[i]? = some o → ∀ k ∈ aftOf o, listed.getD k false = true) →
      (∀ i j, i < m → j < m → i ≠ j → i ∈ fr → j ∈ fr → listed.getD i true = true → listed.getD j true = true → ∀ t s, dOf ops i = some t → dOf ops j = some s → a.tmps.getD t undef ≠ a.tmps.getD s undef) →
      wpAny P .any ops Q fuel listed a w := by
  obtain ⟨hsel, hm, hsp⟩ := okS_spec hok
  intro fuel
  induction fuel with
  | zero =>
    intro listed a w hf hs hR hz hdf h1 h2 h3 h4 h6x
    -- all have come: m = ops.size
    have hall : ∀ i, i < ops.size → listed.getD i true = true := by
      intro i hi
      cases hl : listed.getD i true with
      | true => rfl
      | false => have := toCome_pos hi hl; omega
    have hmn : m = ops.size := by
      rcases Nat.lt_or_ge m ops.size with h | h
      · have := hall m h
        rw [h3 m (Nat.le_refl _) h] at this
        cases this
      · omega
    have hfin := hend (fun i => (dOf ops i).elim undef fun t => a.tmps.getD t undef) w hR (fun i hi => by
      obtain ⟨o, ho, _, h5, _⟩ := hsp i (by omega)
      have hex : ∃ d, dOf ops (rpi st i) = some d := by
        rcases (h5 hi).1 with ⟨_, _, _, hs', _⟩ | ⟨d, hd, _, hns, _⟩
        · exact hs'
        · rw [rpi_no hns]; exact ⟨d, by simp [dOf, ho, hd]⟩
      obtain ⟨d, hdo⟩ := hex
      simpa [hdo] using h1 i hi (hall i (by omega)) d hdo) (fun i j hi hj hne hfi hfj => by
      obtain ⟨o, ho, _, h5, _⟩ := hsp i (by omega)
      obtain ⟨d, hd, _⟩ : ∃ d, o.dst = some d ∧ True := by
        rcases (h5 hi).1 with ⟨_, hs', _⟩ | ⟨d, hd, _⟩
        · rw [hft i hfi] at hs'; cases hs'
        · exact ⟨d, hd, trivial⟩
      obtain ⟨o', ho', _, h5', _⟩ := hsp j (by omega)
      obtain ⟨d', hd', _⟩ : ∃ d, o'.dst = some d ∧ True := by
        rcases (h5' hj).1 with ⟨_, hs', _⟩ | ⟨d, hd, _⟩
        · rw [hft j hfj] at hs'; cases hs'
        · exact ⟨d, hd, trivial⟩
      have hdo : dOf ops i = some d := by simp [dOf, ho, hd]
      have hdo' : dOf ops j = some d' := by simp [dOf, ho', hd']
      simpa only [hdo, hdo', Option.elim_some] using h6x i j hi hj hne hfi hfj (hall i (by omega)) (hall j (by omega)) d d' hdo hdo')
    have ha := putAll_eqS hok a hN hz hdf h2
    rw [ha] at hfin
    have hr : ops.size - m = 0 := by omega
    rw [hr] at hfin
    refine ⟨?_, by simpa [wpOps] using hfin⟩
    apply List.eq_nil_iff_forall_not_mem.2
    intro j hj
    obtain ⟨hj1, o, ho, _⟩ := ready_iff.1 hj
    have hjn : j < ops.size := (Array.getElem?_eq_some_iff.1 ho).1
    rw [hall j hjn] at hj1
    cases hj1
  | succ fuel ih =>
    intro listed a w hf hs hR hz hdf h1 h2 h3 h4 h6x
    by_cases hall : ∀ i, i < m → listed.getD i true = true
    · -- the last ones
      have hfin := hend (fun i => (dOf ops i).elim undef fun t => a.tmps.getD t undef) w hR (fun i hi => by
        obtain ⟨o, ho, _, h5, _⟩ := hsp i (by omega)
        have hex : ∃ d, dOf ops (rpi st i) = some d := by
          rcases (h5 hi).1 with ⟨_, _, _, hs', _⟩ | ⟨d, hd, _, hns, _⟩
          · exact hs'
          · rw [rpi_no hns]; exact ⟨d, by simp [dOf, ho, hd]⟩
        obtain ⟨d, hdo⟩ := hex
        simpa [hdo] using h1 i hi (hall i hi) d hdo) (fun i j hi hj hne hfi hfj => by
        obtain ⟨o, ho, _, h5, _⟩ := hsp i (by omega)
        obtain ⟨d, hd, _⟩ : ∃ d, o.dst = some d ∧ True := by
          rcases (h5 hi).1 with ⟨_, hs', _⟩ | ⟨d, hd, _⟩
          · rw [hft i hfi] at hs'; cases hs'
          · exact ⟨d, hd, trivial⟩
        obtain ⟨o', ho', _, h5', _⟩ := hsp j (by omega)
        obtain ⟨d', hd', _⟩ : ∃ d, o'.dst = some d ∧ True := by
          rcases (h5' hj).1 with ⟨_, hs', _⟩ | ⟨d, hd, _⟩
          · rw [hft j hfj] at hs'; cases hs'
          · exact ⟨d, hd, trivial⟩
        have hdo : dOf ops i = some d := by simp [dOf, ho, hd]
        have hdo' : dOf ops j = some d' := by simp [dOf, ho', hd']
        simpa only [hdo, hdo', Option.elim_some] using h6x i j hi hj hne hfi hfj (hall i hi) (hall j hj) d d' hdo hdo')
      have ha := putAll_eqS hok a hN hz hdf h2
      rw [ha] at hfin
      have hcount : toCome ops.size listed = ops.size - m := by
        unfold toCome
        have : (List.range ops.size).filter (fun i => !listed.getD i true) = List.range' m (ops.size - m) := by
          have e0 : List.range ops.size = List.range m ++ List.range' m (ops.size - m) := by
            have e := List.range'_append (s := 0) (m := m) (n := ops.size - m) (step := 1)
            rw [Nat.zero_add, Nat.one_mul] at e
            rw [List.range_eq_range', List.range_eq_range', e]
            congr 1
            omega
          rw [e0, List.filter_append]
          have e1 : (List.range m).filter (fun i => !listed.getD i true) = [] := by
            apply List.filter_eq_nil_iff.2
            intro i hi
            rw [hall i (List.mem_range.1 hi)]
            decide
          have e2 : (List.range' m (ops.size - m)).filter (fun i => !listed.getD i true) = List.range' m (ops.size - m) := by
            apply List.filter_eq_self.2
            intro i hi
            have := List.mem_range'_1.1 hi
            rw [h3 i (by omega) (by omega)]
            decide
          rw [e1, e2, List.nil_append]
        rw [this, List.length_range']
      rw [hf, hcount]
      exact tail_anyS hok (ops.size - m) m listed a w (by omega) (Nat.le_refl _) hs hall h3 hfin
    · have hne : ∃ i, i < m ∧ listed.getD i true = false := by
        simp only [Classical.not_forall] at hall
        obtain ⟨i, hi, h⟩ := hall
        exact ⟨i, hi, by simpa using h⟩
      obtain ⟨i0, hi0, hl0⟩ := hne
      obtain ⟨j0, hj0⟩ := some_ready hs (fun i hi => by obtain ⟨o, ho, h, _⟩ := hsp i hi; exact ⟨o, ho, h⟩) i0 (by omega) hl0
      refine ⟨fun he => (by rw [he] at hj0; cases hj0), fun i hi => ?_⟩
      obtain ⟨hli, o, ho, hall'⟩ := ready_iff.1 hi
      have hin : i < ops.size := (Array.getElem?_eq_some_iff.1 ho).1
      obtain ⟨o', ho', hlt, hmain, haft, haft'⟩ := hsp i hin
      rw [ho] at ho'
      cases ho'
      have him : i < m := by
        rcases Nat.lt_or_ge i m with h | h
        · exact h
        · exfalso
          rcases Nat.lt_or_ge m i with hlt' | hge'
          · have h5 := hall' (i - 1) (haft' hlt')
            have h6 := h3 (i - 1) (by omega) (by omega)
            have : i - 1 < listed.size := by omega
            simp [this] at h5 h6
            rw [h5] at h6
            cases h6
          · have him' : m = i := by omega
            have hdown : ∀ r k, k + r = m → k < m → listed.getD k false = true := by
              intro r
              induction r using Nat.strongRecOn with
              | ind r ihr =>
                intro k hk hkm
                obtain ⟨s, os, hs1, hs2, hos, hks⟩ := haft him' k hkm
                rcases Nat.lt_or_ge s m with hsm | hsm
                · exact h4 s (ihr (m - s) (by omega) s (by omega) hsm) os hos k hks
                · have : s = i := by omega
                  subst this
                  rw [ho] at hos
                  cases hos
                  exact hall' k hks
            have h5 := hdown (m - i0) i0 (by omega) hi0
            have : i0 < listed.size := by omega
            simp [this] at h5 hl0
            rw [h5] at hl0
            cases hl0
      obtain ⟨hcase, hg, hlook⟩ := hmain him
      have hli0 : i < listed.size := by omega
      -- what slots listed operations report on is not written again
      have hkeep : ∀ d, o.dst = some d → ∀ k, k < m → listed.getD k true = true → k ≠ i → ∀ t, dOf ops (rpi st k) = some t → d ≠ t := by
        intro d hd k hk hkl hki t hkt hdt
        subst hdt
        rcases hcase with ⟨hn, _⟩ | ⟨d', hd', _, _, hx⟩
        · rw [hn] at hd; cases hd
        · obtain ⟨ok, hok', _, hmk, _⟩ := hsp k (by omega)
          rcases (hmk hk).1 with ⟨_, hsk', hin', _, _, hns'⟩ | ⟨_, _, _, hns, _⟩
          · have hr := (hsp k (by omega)).choose_spec
            have hrl := h4 k (by have : k < listed.size := by omega
                                 simp [this] at hkl ⊢; exact hkl) ok hok' _ hin'
            have hrk : rpi st k < m := by
              obtain ⟨ok2, hok2, hlt2, _⟩ := hsp k (by omega)
              rw [hok'] at hok2; cases hok2
              have := hlt2 _ hin'; omega
            by_cases hri : rpi st k = i
            · rw [hri] at hrl
              simp [hli0] at hrl hli
              rw [hrl] at hli; cases hli
            · exact hx _ hrk hri (by rw [hkt, hd])
          · rw [rpi_no hns] at hkt
            exact hx k hk hki (by rw [hkt, hd])
      have stepV : ∀ v w', (isSt st i = false ∧ φ i v w' ∧ (i ∈ fr → ∀ j ∈ fr, ∀ u, φ j u w → v ≠ u)) ∧ R w' ∧ F w w' → wpAny P .any ops Q fuel (listed.setIfInBounds i true) (a.put o.dst v) w' := by
        rintro v w' ⟨⟨hnst, hv, hvx⟩, hR', hF⟩
        rcases hcase with ⟨_, hst', _⟩ | ⟨d, hd, hdN, _, hdist⟩
        · rw [hnst] at hst'; cases hst'
        have hdo : dOf ops i = some d := by simp [dOf, ho, hd]
        have hat : (a.put o.dst v).tmps.getD d undef = v := by rw [hd]; exact Act.getD_put_same _ _ _ (by rw [hz]; exact hdN)
        refine ih _ _ _ ?_ (by simp [hs]) hR' (by rw [Act.size_put]; exact hz) (by rw [Act.defers_put]; exact hdf) ?_ ?_ ?_ ?_ ?_
        · have := toCome_set hin hs hli
          omega
        · intro k hk hkl t hkt
          by_cases hki : k = i
          · subst hki
            rw [rpi_no hnst, hdo] at hkt
            cases hkt
            rw [hat]
            exact hv
          · have hne' : i ≠ k := fun e => hki e.symm
            have hkl' : listed.getD k true = true := by simpa [Array.getElem?_setIfInBounds_ne hne'] using hkl
            rw [Act.getD_put_ne _ _ _ _ (by rw [hd]; intro e; injection e with e; exact hkeep d hd k hk hkl' hki t hkt e)]
            exact hlast k _ w w' hR hR' hF (h1 k hk hkl' t hkt)
        · intro t hno
          have hdt : o.dst ≠ some t := by
            have := hno i him (by simp [Array.getElem?_setIfInBounds, hli0])
            rw [hdo] at this
            rw [hd]
            exact this
          rw [Act.getD_put_ne _ _ _ _ hdt]
          refine h2 t fun k hk hkl => ?_
          by_cases hki : k = i
          · subst hki
            rw [hdo, ← hd]
            exact hdt
          · have hne' : i ≠ k := fun e => hki e.symm
            exact hno k hk (by simpa [Array.getElem?_setIfInBounds_ne hne'] using hkl)
        · intro k hk hkn
          have hne' : i ≠ k := by omega
          have := h3 k hk hkn
          simpa [Array.getElem?_setIfInBounds_ne hne'] using this
        · intro k hkl ok hok' j hj
          have hjl : listed.getD j false = true := by
            by_cases hki : k = i
            · subst hki
              rw [ho] at hok'
              cases hok'
              exact hall' j hj
            · have hne' : i ≠ k := fun e => hki e.symm
              exact h4 k (by simpa [Array.getElem?_setIfInBounds_ne hne'] using hkl) ok hok' j hj
          by_cases hji : j = i
          · subst hji
            simp [Array.getElem?_setIfInBounds, hli0]
          · have hne' : i ≠ j := fun e => hji e.symm
            simpa [Array.getElem?_setIfInBounds_ne hne'] using hjl
        · intro k l hk hl hkl hfk hfl hkc hlc t s hkt hls
          have hkt' : dOf ops (rpi st k) = some t := by rw [rpi_no (hft k hfk)]; exact hkt
          have hls' : dOf ops (rpi st l) = some s := by rw [rpi_no (hft l hfl)]; exact hls
          by_cases hki : k = i
          · subst hki
            have hne' : k ≠ l := hkl
            have hlc' : listed.getD l true = true := by simpa [Array.getElem?_setIfInBounds_ne hne'] using hlc
            rw [hdo] at hkt
            cases hkt
            rw [hat]
            rw [Act.getD_put_ne _ _ _ _ (by rw [hd]; intro e; injection e with e; exact hkeep d hd l hl hlc' (fun e => hkl e.symm) s hls' e)]
            exact hvx hfk l hfl _ (h1 l hl hlc' s hls')
          · have hne' : i ≠ k := fun e => hki e.symm
            have hkc' : listed.getD k true = true := by simpa [Array.getElem?_setIfInBounds_ne hne'] using hkc
            rw [Act.getD_put_ne _ _ _ t (by rw [hd]; intro e; injection e with e; exact hkeep d hd k hk hkc' hki t hkt' e)]
            by_cases hli' : l = i
            · subst hli'
              rw [hdo] at hls
              cases hls
              rw [hat]
              exact fun e => hvx hfl k hfk _ (h1 k hk hkc' t hkt') e.symm
            · have hne2 : i ≠ l := fun e => hli' e.symm
              have hlc' : listed.getD l true = true := by simpa [Array.getElem?_setIfInBounds_ne hne2] using hlc
              rw [Act.getD_put_ne _ _ _ s (by rw [hd]; intro e; injection e with e; exact hkeep d hd l hl hlc' hli' s hls' e)]
              exact h6x k l hk hl hkl hfk hfl hkc' hlc' t s hkt hls
      have stepS : o.dst = none → ∀ w', (isSt st i = true ∧ ∀ t, dOf ops (rpi st i) = some t → φ i (a.tmps.getD t undef) w') ∧ R w' ∧ F w w' → wpAny P .any ops Q fuel (listed.setIfInBounds i true) a w' := by
        rintro hdn w' ⟨⟨hst', hv⟩, hR', hF⟩
        have hdo : dOf ops i = none := by simp [dOf, ho, hdn]
        refine ih _ _ _ ?_ (by simp [hs]) hR' hz hdf ?_ ?_ ?_ ?_ ?_
        · have := toCome_set hin hs hli
          omega
        · intro k hk hkl t hkt
          by_cases hki : k = i
          · subst hki
            exact hv t hkt
          · have hne' : i ≠ k := fun e => hki e.symm
            have hkl' : listed.getD k true = true := by simpa [Array.getElem?_setIfInBounds_ne hne'] using hkl
            exact hlast k _ w w' hR hR' hF (h1 k hk hkl' t hkt)
        · intro t hno
          refine h2 t fun k hk hkl => ?_
          by_cases hki : k = i
          · subst hki
            rw [hdo]
            exact fun e => by cases e
          · have hne' : i ≠ k := fun e => hki e.symm
            exact hno k hk (by simpa [Array.getElem?_setIfInBounds_ne hne'] using hkl)
        · intro k hk hkn
          have hne' : i ≠ k := by omega
          have := h3 k hk hkn
          simpa [Array.getElem?_setIfInBounds_ne hne'] using this
        · intro k hkl ok hok' j hj
          have hjl : listed.getD j false = true := by
            by_cases hki : k = i
            · subst hki
              rw [ho] at hok'
              cases hok'
              exact hall' j hj
            · have hne' : i ≠ k := fun e => hki e.symm
              exact h4 k (by simpa [Array.getElem?_setIfInBounds_ne hne'] using hkl) ok hok' j hj
          by_cases hji : j = i
          · subst hji
            simp [Array.getElem?_setIfInBounds, hli0]
          · have hne' : i ≠ j := fun e => hji e.symm
            simpa [Array.getElem?_setIfInBounds_ne hne'] using hjl
        · intro k l hk hl hkl hfk hfl hkc hlc t s hkt hls
          have hki : k ≠ i := fun e => by rw [← e, hft k hfk] at hst'; cases hst'
          have hli' : l ≠ i := fun e => by rw [← e, hft l hfl] at hst'; cases hst'
          have hne' : i ≠ k := fun e => hki e.symm
          have hne2 : i ≠ l := fun e => hli' e.symm
          have hkc' : listed.getD k true = true := by simpa [Array.getElem?_setIfInBounds_ne hne'] using hkc
          have hlc' : listed.getD l true = true := by simpa [Array.getElem?_setIfInBounds_ne hne2] using hlc
          exact h6x k l hk hl hkl hfk hfl hkc' hlc' t s hkt hls
      have hyield : ∀ k b, o.guard = some (k, b) → yielded ops a.tmps k = some (if i ∈ sk then !b else b) := by
        intro k b hgk
        obtain ⟨hka, hkm, hkns⟩ := hg.2 k b hgk
        obtain ⟨ok, hok', _, hmk, _⟩ := hsp k (by omega)
        obtain ⟨dk, hdk, hdkN⟩ : ∃ d, ok.dst = some d ∧ d < N := by
          rcases (hmk hkm).1 with ⟨_, hs', _⟩ | ⟨d, hd, hdN, _⟩
          · rw [hkns] at hs'; cases hs'
          · exact ⟨d, hd, hdN⟩
        have hdko : dOf ops k = some dk := by simp [dOf, hok', hdk]
        have hkl := hall' k hka
        have hks : k < listed.size := by omega
        have hkl' : listed.getD k true = true := by simp [hks] at hkl ⊢; exact hkl
        have hu := hT i him o ho k b hgk _ w hR (h1 k hkm hkl' dk (by rw [rpi_no hkns]; exact hdko))
        unfold yielded
        rw [hok']
        simp only [Option.bind_some, hdk]
        have hlt' : dk < a.tmps.size := by rw [hz]; exact hdkN
        rw [Array.getElem?_eq_getElem hlt']
        have e : a.tmps.getD dk undef = a.tmps[dk] := by simp [Array.getD, hlt']
        rw [← e, hu]
      by_cases hsk : i ∈ sk
      · obtain ⟨⟨gk, gb⟩, hgk⟩ := hg.1 hsk
        have hwn : Region.wanted o (yielded ops a.tmps) = false := by
          simp only [Region.wanted, hgk]
          rw [hyield gk gb hgk, if_pos hsk]
          cases gb <;> rfl
        unfold wpOp
        simp only [ho]
        rw [if_neg (by rw [hwn]; decide)]
        have hnst : isSt st i = false := by
          rcases hcase with ⟨_, _, _, _, hnk, _⟩ | ⟨_, _, _, hns, _⟩
          · exact absurd hsk hnk
          · exact hns
        exact stepV undef w ⟨⟨hnst, hS i him hsk w hR, fun hfi => absurd hsk (hfs i hfi)⟩, hR, hFr w⟩
      have hwant : Region.wanted o (yielded ops a.tmps) = true := by
        unfold Region.wanted
        cases hgo : o.guard with
        | none => rfl
        | some g =>
          obtain ⟨k, b⟩ := g
          simp only []
          rw [hyield k b hgo, if_neg hsk]
          simp
      have hup := hO i him hsk o ho a.eval w hR (fun v => rfl) (fun f => rfl) (fun g => rfl)
        (fun t hno => h2 t fun k hk _ => by
          simp only [freeSlot, List.all_eq_true, List.mem_range, bne_iff_ne] at hno
          exact hno k hk)
        (fun k t hkt => by
          simp only [waitsFor, Bool.and_eq_true, List.contains_iff_mem, beq_iff_eq] at hkt
          obtain ⟨hk, hkt⟩ := hkt
          have hkl := hall' k hk
          have hks : k < listed.size := by have := hlt k hk; omega
          have : listed.getD k true = true := by simp [hks] at hkl ⊢; exact hkl
          have hkm : k < m := by have := hlt k hk; omega
          have hkns : isSt st k = false := by
            obtain ⟨ok, hok', _, hmk, _⟩ := hsp k (by omega)
            rcases (hmk hkm).1 with ⟨hn, _⟩ | ⟨_, _, _, hns, _⟩
            · simp [dOf, hok', hn] at hkt
            · exact hns
          exact h1 k hkm this t (by rw [rpi_no hkns]; exact hkt))
        (fun j k t s hfj hfk hjk hjt hks' => by
          simp only [waitsFor, Bool.and_eq_true, List.contains_iff_mem, beq_iff_eq] at hjt hks'
          have hlj : listed.getD j true = true := by
            have h := hall' j hjt.1
            have hs' : j < listed.size := by have := hlt j hjt.1; omega
            simp [hs'] at h ⊢; exact h
          have hlk : listed.getD k true = true := by
            have h := hall' k hks'.1
            have hs' : k < listed.size := by have := hlt k hks'.1; omega
            simp [hs'] at h ⊢; exact h
          exact h6x j k (by have := hlt j hjt.1; omega) (by have := hlt k hks'.1; omega) hjk hfj hfk hlj hlk t s hjt.2 hks'.2)
      unfold wpOp
      simp only [ho]
      have hw : Region.wanted o (yielded ops a.tmps) = true := hwant
      rw [if_pos hw]
      refine .inl ?_
      unfold Oper.wp
      generalize (execOp a.eval o).run P w = r at hup
      cases r with
      | ok n w' =>
        cases n <;> simp only [UpS] at hup
        case value v => exact stepV v w' hup
        case skip =>
          rcases hcase with ⟨hdn, _⟩ | ⟨_, _, _, hns, _⟩
          · simp only [Oper.upon]; rw [hdn]; exact stepS hdn w' hup
          · rw [hns] at hup; cases hup.1.1
        case enter f args =>
          refine Calls.mono hup fun e w'' he => ?_
          cases e with
          | returned v => exact stepV v w'' he
          | panicked c => exact he.elim
          | outgrown => exact he.elim
      | halt x w' => simp only [UpS] at hup

end

/-- The rule; the operations of fr hand out values that differ. -/
theorem wp_region_list_e {P : Program} {ops : Array Oper} {Q : Exit → Act → World → Prop} {id : Nat} (hm : P.follows .mixedOrders = true) {R : World → Prop} {F : World → World → Prop} (fr : List Nat) (sk : List Nat) (st : List (Nat × Nat)) (L : List (As R F)) (N : Nat) {a0 : Act} {w0 : World} (hok : okS ops L.length N sk st = true) (hN : a0.tmps.size = N) (hR0 : R w0.drew)
    (hfs : ∀ i ∈ fr, i ∉ sk) (hft : ∀ i ∈ fr, isSt st i = false) (hT : ∀ i, i < L.length → ∀ o, ops[i]? = some o → ∀ k b, o.guard = some (k, b) → ∀ u w, R w → (L.getD k (As.pure R F fun _ => True)).p u w → u = .bool (if i ∈ sk then !b else b))
    (hFr : ∀ w, F w w) (hS : ∀ i, i < L.length → i ∈ sk → ∀ w, R w → (L.getD i (As.pure R F fun _ => True)).p undef w)
    (hO : ∀ i, i < L.length → i ∉ sk → ∀ o, ops[i]? = some o → ∀ (ev : Operand → Value) (w : World), R w → (∀ v, ev (.const v) = v) → (∀ f, ev (.func f) = .func (.func f) #[] #[]) → (∀ g, ev (.global g) = .pointer (some ⟨g, 0, none⟩)) →
      (∀ t, freeSlot ops L.length t = true → ev (.tmp t) = a0.tmps.getD t undef) → (∀ k t, waitsFor ops o k t = true → (L.getD k (As.pure R F fun _ => True)).p (ev (.tmp t)) w) → (∀ j k t s, j ∈ fr → k ∈ fr → j ≠ k → waitsFor ops o j t = true → waitsFor ops o k s = true → ev (.tmp t) ≠ ev (.tmp s)) →
      UpS P (fun v w' => isSt st i = false ∧ (L.getD i (As.pure R F fun _ => True)).p v w' ∧ (i ∈ fr → ∀ j ∈ fr, ∀ u, (L.getD j (As.pure R F fun _ => True)).p u w → v ≠ u)) (fun w' => isSt st i = true ∧ ∀ t, dOf ops (rpi st i) = some t → (L.getD i (As.pure R F fun _ => True)).p (ev (.tmp t)) w') R F w ((execOp ev o).run P w))
    (hend : ∀ (ρ : Nat → Value) (w : World), R w → (∀ i, i < L.length → (L.getD i (As.pure R F fun _ => True)).p (ρ (rpi st i)) w) → (∀ i j, i < L.length → j < L.length → i ≠ j → i ∈ fr → j ∈ fr → ρ i ≠ ρ j) → ∀ K : Act → World → Prop, (∀ a w, wpList P ops Q (ops.toList.drop L.length) a w → K a w) → K (putAll ops a0 ρ L.length) w) :
    (Code.region id ops true).wp P Q a0 w0 := by
  refine wp_region_any hm ?_
  have hall := okS_spec hok
  refine main_anyE (φ := fun i => (L.getD i (As.pure R F fun _ => True)).p) (R := R) (F := F) (fr := fr) (sk := sk) (st := st) hok hN (fun i v w w' h1 h2 h3 h => (L.getD i (As.pure R F fun _ => True)).last v w w' h1 h2 h3 h) hfs hft hT hFr hS hO
    (fun ρ w h1 h2 h3 => wpOps_of_list _ _ _ (hend ρ w h1 h2 h3 _ fun _ _ h => h)) ops.size (Array.replicate ops.size false) a0 w0.drew ?_ (by simp) hR0 hN rfl ?_ (fun _ _ => rfl) ?_ ?_ ?_
  · unfold toCome
    have : (List.range ops.size).filter (fun i => !(Array.replicate ops.size false).getD i true) = List.range ops.size := by
      apply List.filter_eq_self.2
      intro i hi
      have := List.mem_range.1 hi
      simp [this]
    rw [this, List.length_range]
  · intro i hi hl
    have : i < ops.size := by have := hall.2.1; omega
    simp [this] at hl
  · intro k hk hkn
    simp [hkn]
  · intro i hi
    by_cases h : i < ops.size <;> simp [h] at hi
  · intro i j hi _ _ _ _ hl
    have : i < ops.size := by have := hall.2.1; omega
    simp [this] at hl

end Go.Proofs.Ytnihkgdkdinliaa
/- Rows of numbers in blocks of their own; Slow, Fast and PacesOf hand out such. Own work. -/
namespace Go.Proofs.Ytnihkgdkdinliaa
open Go.RowKit
set_option linter.unusedVariables false
set_option linter.unusedSimpArgs false

/-- Block g holds these numbers, and has room for c. -/
def RowAt (w : World) (g c : Nat) (ps : List Int) : Prop := ∃ cs, Bx w g 3 cs ∧ cs.size = c ∧ ps.length ≤ c ∧ ∀ j, j < ps.length → cs[j]? = some (I (gI ps j))
theorem RowAt.sl {w : World} {g c : Nat} {ps : List Int} (h : RowAt w g c ps) : SlI w 3 (some ⟨g, 0, none⟩) ps := by
  obtain ⟨cs, h1, h2, h3, h4⟩ := h
  refine .inr ⟨g, 0, cs, (0, 0), rfl, h1, fun j u hu => ?_⟩
  have hj : j < ps.length := by have := (List.getElem?_eq_some_iff.1 hu).1; simpa using this
  rw [Nat.zero_add, h4 j hj]
  rw [List.getElem?_map, List.getElem?_eq_getElem hj] at hu
  rw [gI_lt hj]
  simpa using hu
theorem RowAt.lt {w : World} {g c : Nat} {ps : List Int} (h : RowAt w g c ps) : g < w.heap.size := by obtain ⟨cs, h1, _⟩ := h; exact h1.lt
theorem RowAt.below {w w' : World} {g c : Nat} {ps : List Int} (h : RowAt w g c ps) (hb : Below w.heap.size w w') : RowAt w' g c ps := by
  obtain ⟨cs, h1, h2⟩ := h; exact ⟨cs, h1.below hb h1.lt, h2⟩
theorem RowAt.far {w : World} {g c : Nat} {ps : List Int} (h : RowAt w g c ps) {p : Addr} (hp : g ≠ p.block) (u : Value) : RowAt (w.setCell p u) g c ps := by
  obtain ⟨cs, h1, h2⟩ := h; exact ⟨cs, h1.far hp u, h2⟩
theorem RowAt.kp {w w' : World} {g c d : Nat} {ps : List Int} (h : RowAt w g c ps) (hd : Dr w d) (hk : w.grownBy w' (some d)) : RowAt w' g c ps := by
  obtain ⟨cs, h1, h2⟩ := h; exact ⟨cs, h1.kp hk (bx_ne h1 hd (by decide)), h2⟩
/-- A number is stored. -/
theorem RowAt.put {w : World} {g c k : Nat} {ps : List Int} {x y : Int} (h : RowAt w g c (ps.set k x)) (hk : k < ps.length) : RowAt (w.setCell ⟨g, k, none⟩ (I y)) g c (ps.set k y) := by
  obtain ⟨cs, h1, h2, h3, h4⟩ := h
  simp only [List.length_set] at h3 h4
  refine ⟨_, h1.set_ k (I y), by simpa using h2, by simpa using h3, fun j hj => ?_⟩
  simp only [List.length_set] at hj
  rw [Array.getElem?_setIfInBounds, gI_set hk]
  by_cases e : k = j
  · subst e; simp; omega
  · have e' : ¬ j = k := fun h => e h.symm
    rw [if_neg e, if_neg e', h4 j hj, gI_set hk, if_neg e']
theorem RowAt.self {w : World} {g c k : Nat} {ps : List Int} (h : RowAt w g c ps) (hk : k < ps.length) : RowAt w g c (ps.set k (gI ps k)) := by
  have : ps.set k (gI ps k) = ps := by
    rw [gI_lt hk]; simp
  rw [this]; exact h
theorem RowAt.cell {w : World} {g c k : Nat} {ps : List Int} (h : RowAt w g c ps) (hk : k < ps.length) : w.cell? ⟨g, k, none⟩ = some (I (gI ps k)) ∧ w.frozen? ⟨g, k, none⟩ = false := by
  obtain ⟨cs, h1, h2, h3, h4⟩ := h
  exact ⟨(h1.cell k).trans (h4 k hk), h1.free k⟩

/-- The value is a slice on a block of its own, from n0 on. -/
def FrR (n0 : Nat) (P : List Int → Prop) (v : Value) (w : World) : Prop := ∃ g c ps, v = .slice (some ⟨g, 0, none⟩) ps.length c ∧ n0 ≤ g ∧ RowAt w g c ps ∧ P ps
theorem FrR.kp {n0 d : Nat} {P : List Int → Prop} {v : Value} {w w' : World} (h : FrR n0 P v w) (hd : Dr w d) (hk : w.grownBy w' (some d)) : FrR n0 P v w' := by
  obtain ⟨g, c, ps, e, h1, h2, h3⟩ := h; exact ⟨g, c, ps, e, h1, h2.kp hd hk, h3⟩
theorem FrR.base {n0 n1 : Nat} {P : List Int → Prop} {v : Value} {w : World} (h : FrR n1 P v w) (hn : n0 ≤ n1) : FrR n0 P v w := by
  obtain ⟨g, c, ps, e, h1, h2, h3⟩ := h; exact ⟨g, c, ps, e, by omega, h2, h3⟩
theorem FrR.ofOwn {w : World} {base : Nat} {v : Value} {ps : List Int} {P : List Int → Prop} (h : w.ownsRow base 3 1 v ps.length (ps.map I)) (hn : 1 ≤ ps.length) (hP : P ps) : FrR base P v w := by
  rcases h.2 with ⟨_, h0⟩ | ⟨g, cap, cur, rfl, h1, h2, h3, _, h5, h6⟩
  · omega
  · refine ⟨g, cap, ps, rfl, h1, ⟨cur, h2, by omega, h3, fun j hj => ?_⟩, hP⟩
    have : (cur.toList.take (ps.length * 1))[j]? = some (I (gI ps j)) := by rw [h6, List.getElem?_map, List.getElem?_eq_getElem hj, gI_lt hj]; rfl
    rw [List.getElem?_take, if_pos (by omega)] at this
    simpa using this
/-- What is new differs from what was there. -/
theorem FrR.ne {w w' : World} {n : Nat} {P P' : List Int → Prop} {u v : Value} (h : FrR w.heap.size P v w') (h' : FrR n P' u w) : v ≠ u := by
  obtain ⟨g, c, ps, rfl, h1, _⟩ := h
  obtain ⟨g', c', ps', rfl, _, h2, _⟩ := h'
  intro e
  injection e with e _ _
  injection e with e
  injection e with e
  have := h2.lt
  omega
/-- Slices of one length that differ lie in two blocks. -/
theorem rows_ne {w : World} {g g' c c' : Nat} {ps ps' : List Int} (h : RowAt w g c ps) (h' : RowAt w g' c' ps') (hl : ps.length = ps'.length) (hne : (Value.slice (some ⟨g, 0, none⟩) ps.length c) ≠ .slice (some ⟨g', 0, none⟩) ps'.length c') : g ≠ g' := by
  rintro rfl
  obtain ⟨cs, h1, h2, _⟩ := h
  obtain ⟨cs', h1', h2', _⟩ := h'
  unfold Bx at h1 h1'
  rw [h1] at h1'
  injection h1' with e
  injection e with e
  subst e
  apply hne
  rw [hl, ← h2, ← h2']

section
variable (R : World → Prop) (d : Nat) (hRd : ∀ w, R w → Dr w d) (n0 : Nat) (P : List Int → Prop)
def asFr : As R (DF d) := ⟨FrR n0 P, fun v w w' hr _ hk h => h.kp (hRd w hr) hk⟩
end

set_option maxHeartbeats 800000 in
theorem slow2_c (r : Int) (A : Option Addr) (c : Nat) (ws : List Wg) (T1 : TypeId) (w : World) (h1 : SlW w T1 A ws) (hl1 : ws.length ≤ 1000000) :
    Calls Try.prog 48 #[.agg #[I r, .slice A ws.length c]] w fun e w' => ∃ v, e = .returned v ∧ w'.ownsRow w.heap.size 3 1 v (los ws).length ((los ws).map I) ∧ Below w.heap.size w w' := by
  obtain ⟨i0, hi0, hz0, hz1, hz2⟩ := info_parts infoInt
  have hB0 := Bx.new w 24 #[I r, .slice A ws.length c]
  have hcb := hB0.cell
  go_enter Try.func48, Try.ntmps48
  go_wp2
  clear hcb
  go_loopw [3, 4] (fun v i wr => ∃ (k : Nat), i = I k ∧ k ≤ ws.length ∧ wr.ownsRow w.heap.size 3 1 v k (((los ws).take k).map I) ∧ Below w.heap.size w wr ∧ Bx wr w.heap.size 24 #[I r, .slice A ws.length c])
    (fun _ i _ => ws.length - (intOf i).toNat)
  case atStart => exact ⟨0, rfl, Nat.zero_le _, World.ownsRow_nil _ _ _ _, (Below.refl _ _).alloc (Nat.le_refl _) _, hB0⟩
  case round =>
    obtain ⟨k, rfl, hk, hown, hbel, hbx⟩ := hrel
    have hcb := hbx.cell
    by_cases hlt : k < ws.length
    · obtain ⟨b, o, rfl, _⟩ := SlW.some_ h1 hlt
      obtain ⟨_, _, hc2, hc3⟩ := SlW.cellG (h1.below hbel (Nat.le_refl _)) hlt
      have hsz := hbel.size
      go_wp2_with (at_builtin; refine wpList_append_own _ rfl _ _ 25 rfl w.heap.size 3 i0 _ 1 8 Try.underlying25 hi0 hz0 hz1 hz2 rfl (by decide) _ _ _ rfl (hown.alloc _) ⟨wr.heap.size, 0, none⟩ 1 1 [I (gW ws k).lo] rfl rfl ?c1 ?c2 ?c3 ?c4 ?c5 ?_)
      case c1 => exact (Bx.new wr 3 #[I (gW ws k).lo]).news
      case c2 => simp [Value.oneCell']
      case c3 => unfold maxLen; omega
      case c4 => omega
      case c5 => simp; omega
      intro v' w1 hown1 hgrow _
      have hbx' := hbx.alloc (.cells #[I (gW ws k).lo] 3)
      have hown' := hown.alloc (.cells #[I (gW ws k).lo] 3)
      have hbx1 := hbx'.grown hgrow (own_ne hown' hbx' (by decide))
      have hbel1 := below_own (hbel.alloc hsz _) hown' (Nat.le_refl _) (by simp; omega) hgrow
      clear hbx' hown'
      clear hgrow hcb hc2 hc3
      go_wp2
      go_roundw
      case rel =>
        refine ⟨k + 1, by go_num, by omega, ?_, hbel1, hbx1⟩
        have hlen : k < (los ws).length := by simp [los]; exact hlt
        rw [List.take_succ_eq_append_getElem hlen, flat_snoc]
        have e : (los ws)[k] = (gW ws k).lo := by simp [los, gW_lt hlt]
        rw [e, List.map_take]
        exact hown1
      case measure => simp [intOf]; omega
    · go_wp2
      go_ret
      have hkk : k = ws.length := by omega
      subst hkk
      rw [List.take_of_length_le (by simp [los])] at hown
      exact ⟨_, rfl, by rw [los_length]; exact hown, hbel⟩

set_option maxHeartbeats 800000 in
theorem fast2_c (r : Int) (A : Option Addr) (c : Nat) (ws : List Wg) (T1 : TypeId) (w : World) (h1 : SlW w T1 A ws) (hl1 : ws.length ≤ 1000000) :
    Calls Try.prog 49 #[.agg #[I r, .slice A ws.length c]] w fun e w' => ∃ v, e = .returned v ∧ w'.ownsRow w.heap.size 3 1 v (his ws).length ((his ws).map I) ∧ Below w.heap.size w w' := by
  obtain ⟨i0, hi0, hz0, hz1, hz2⟩ := info_parts infoInt
  have hB0 := Bx.new w 24 #[I r, .slice A ws.length c]
  have hcb := hB0.cell
  go_enter Try.func49, Try.ntmps49
  go_wp2
  clear hcb
  go_loopw [3, 4] (fun v i wr => ∃ (k : Nat), i = I k ∧ k ≤ ws.length ∧ wr.ownsRow w.heap.size 3 1 v k (((his ws).take k).map I) ∧ Below w.heap.size w wr ∧ Bx wr w.heap.size 24 #[I r, .slice A ws.length c])
    (fun _ i _ => ws.length - (intOf i).toNat)
  case atStart => exact ⟨0, rfl, Nat.zero_le _, World.ownsRow_nil _ _ _ _, (Below.refl _ _).alloc (Nat.le_refl _) _, hB0⟩
  case round =>
    obtain ⟨k, rfl, hk, hown, hbel, hbx⟩ := hrel
    have hcb := hbx.cell
    by_cases hlt : k < ws.length
    · obtain ⟨b, o, rfl, _⟩ := SlW.some_ h1 hlt
      obtain ⟨_, _, hc2, hc3⟩ := SlW.cellG (h1.below hbel (Nat.le_refl _)) hlt
      have hsz := hbel.size
      go_wp2_with (at_builtin; refine wpList_append_own _ rfl _ _ 25 rfl w.heap.size 3 i0 _ 1 8 Try.underlying25 hi0 hz0 hz1 hz2 rfl (by decide) _ _ _ rfl (hown.alloc _) ⟨wr.heap.size, 0, none⟩ 1 1 [I (gW ws k).hi] rfl rfl ?c1 ?c2 ?c3 ?c4 ?c5 ?_)
      case c1 => exact (Bx.new wr 3 #[I (gW ws k).hi]).news
      case c2 => simp [Value.oneCell']
      case c3 => unfold maxLen; omega
      case c4 => omega
      case c5 => simp; omega
      intro v' w1 hown1 hgrow _
      have hbx' := hbx.alloc (.cells #[I (gW ws k).hi] 3)
      have hown' := hown.alloc (.cells #[I (gW ws k).hi] 3)
      have hbx1 := hbx'.grown hgrow (own_ne hown' hbx' (by decide))
      have hbel1 := below_own (hbel.alloc hsz _) hown' (Nat.le_refl _) (by simp; omega) hgrow
      clear hbx' hown'
      clear hgrow hcb hc2 hc3
      go_wp2
      go_roundw
      case rel =>
        refine ⟨k + 1, by go_num, by omega, ?_, hbel1, hbx1⟩
        have hlen : k < (his ws).length := by simp [his]; exact hlt
        rw [List.take_succ_eq_append_getElem hlen, flat_snoc]
        have e : (his ws)[k] = (gW ws k).hi := by simp [his, gW_lt hlt]
        rw [e, List.map_take]
        exact hown1
      case measure => simp [intOf]; omega
    · go_wp2
      go_ret
      have hkk : k = ws.length := by omega
      subst hkk
      rw [List.take_of_length_le (by simp [his])] at hown
      exact ⟨_, rfl, by rw [his_length]; exact hown, hbel⟩

def PacesPost2 (d : Nat) (ws : List Wg) (w : World) (e : Ending) (w' : World) : Prop :=
  ∃ (v : Value) (ps : List Int), e = .returned v ∧ w'.ownsRow w.heap.size 3 1 v ps.length (ps.map I) ∧ Dr w' d ∧ w.grownBy w' (some d) ∧ ps.length = ws.length ∧ PcB ws ps ps.length

set_option maxRecDepth 100000 in
set_option maxHeartbeats 1000000 in
theorem paces2_c (d : Nat) (r : Int) (A : Option Addr) (c : Nat) (ws : List Wg) (w : World) (hd : Dr w d) (h1 : SlW w 29 A ws) (hm : MadeWs ws) (h8 : ws.length ≤ 8) :
    Calls Try.prog 50 #[.pointer (some ⟨d, 0, none⟩), .agg #[I r, .slice A ws.length c]] w (PacesPost2 d ws w) := by
  have hlt := hd.lt
  have hb0 := Bx.new w 24 #[I r, .slice A ws.length c]
  go_enter Try.func50, Try.ntmps50
  go_wp2_with fail
  go_loopw [5, 6] (fun v i wr => ∃ (ps : List Int), i = .int .i64 ps.length ∧ ps.length ≤ ws.length ∧ PcB ws ps ps.length ∧ SO d w.heap.size r A ws.length c ws v ps.length (ps.map I) w wr) (fun _ i _ => ws.length - (intOf i).toNat)
  case atStart => exact ⟨[], rfl, Nat.zero_le _, fun j hj => absurd hj (by simp), hd.alloc _, hb0, h1.alloc _, World.ownsRow_nil _ _ _ _, World.grownBy_alloc _ _ _⟩
  case round =>
    obtain ⟨ps, rfl, hk, hst, hso⟩ := hrel
    obtain ⟨B, cb, rfl, hB, hcap⟩ := Sl.ofOwn2 hso.2.2.2.1
    by_cases hlt' : ps.length < ws.length
    · have hcb := hso.2.1.cell
      obtain ⟨b1, o1, rfl, _⟩ := SlW.some_ hso.2.2.1 hlt'
      obtain ⟨_, _, c2, c3⟩ := SlW.cellG hso.2.2.1 hlt'
      obtain ⟨_, m1, m2, m3, m4, m5, m6⟩ := hm.at_ hlt'
      generalize hlo : (gW ws ps.length).lo = lo at *
      generalize hhi : (gW ws ps.length).hi = hi at *
      have HL := Lib.hid hlo
      have HH := Lib.hid hhi
      clear hlo hhi
      go_wp2_with fail
      refine (of_c d lo hi _ hso.1 (by omega) (by omega) (by omega)).mono ?_
      rintro e w5 ⟨z, rfl, hz1, hz2, hd5, hk5⟩
      have hso7 := hso.kp hk5 hd5
      clear hso hk5 hd5 hB hcb c2 c3
      obtain ⟨i0, hi0, hz0, hz1', hz2'⟩ := info_parts infoInt
      have hown := hso7.2.2.2.1
      have hgr := hso7.2.2.2.2
      go_wp2_with (at_builtin; refine wpList_append_own _ rfl _ _ 25 rfl w.heap.size 3 i0 _ 1 8 Try.underlying25 hi0 hz0 hz1' hz2' rfl (by decide) _ _ _ rfl (hown.alloc _) ⟨w5.heap.size, 0, none⟩ 1 1 [I z] rfl rfl ?c1 ?c2 ?c3 ?c4 ?c5 ?_)
      case c1 => exact (Bx.new w5 3 #[I z]).news (cs := [I z])
      case c2 => simp [Value.oneCell']
      case c3 => unfold maxLen; omega
      case c4 => omega
      case c5 => have := hgr.size; simp; omega
      intro V' w8 hown8 hgr8 _
      have hgr9 := kp_own (kp_alloc hgr _) (hown.alloc _) (Nat.le_refl _) hgr8
      have hso8 := hso7.alloc (.cells #[I z] 3)
      have hd8 := hso8.1.grown hgr8 (own_dr hso8.2.2.2.1 hso8.1 (by decide))
      have hb8 := hso8.2.1.grown hgr8 (own_ne hso8.2.2.2.1 hso8.2.1 (by decide))
      have hw8 := sl_own hso8.2.2.1 hso8.2.2.2.1 hgr8 (by decide)
      clear hso8 hso7 hown hgr hgr8
      obtain ⟨B', cb', rfl, _, _⟩ := Sl.ofOwn2 hown8
      go_wp2
      go_roundw
      case rel =>
        have e1 : (ps ++ [z]).length = ps.length + 1 := by simp
        refine ⟨ps ++ [z], by rw [e1]; go_num, by rw [e1]; omega, ?_, hd8, hb8, hw8, ?_, hgr9⟩
        · intro j hj
          by_cases hjl : j < ps.length
          · rw [gI_app hjl]; exact hst j hjl
          · obtain rfl : j = ps.length := by rw [e1] at hj; omega
            rw [gI_end, HL.out, HH.out]
            exact ⟨hz1, hz2⟩
        · rw [flat_snoc, e1]
          exact hown8
      case measure => simp [intOf]; omega
    · have hle : ¬ ((ps.length : Int) < (ws.length : Int)) := by omega
      have hcb := hso.2.1.cell
      go_wp2
      go_ret
      exact ⟨_, ps, rfl, hso.2.2.2.1, hso.1, hso.2.2.2.2, by omega, hst⟩

/-- Five rows. -/
def FrAll (n0 n : Nat) (P0 P1 P2 P3 P4 : List Int → Prop) (v : Value) (w : World) : Prop := ∃ b g0 c0 g1 c1 g2 c2 g3 c3 g4 c4 l0 l1 l2 l3 l4,
  v = .slice (some ⟨b, 0, none⟩) 5 5 ∧ n0 ≤ b ∧ Bx w b 25 #[.slice (some ⟨g0, 0, none⟩) n c0, .slice (some ⟨g1, 0, none⟩) n c1, .slice (some ⟨g2, 0, none⟩) n c2, .slice (some ⟨g3, 0, none⟩) n c3, .slice (some ⟨g4, 0, none⟩) n c4] ∧
  (n0 ≤ g0 ∧ n0 ≤ g1 ∧ n0 ≤ g2 ∧ n0 ≤ g3 ∧ n0 ≤ g4) ∧ (l0.length = n ∧ l1.length = n ∧ l2.length = n ∧ l3.length = n ∧ l4.length = n) ∧
  (RowAt w g0 c0 l0 ∧ RowAt w g1 c1 l1 ∧ RowAt w g2 c2 l2 ∧ RowAt w g3 c3 l3 ∧ RowAt w g4 c4 l4) ∧ (P0 l0 ∧ P1 l1 ∧ P2 l2 ∧ P3 l3 ∧ P4 l4) ∧
  (g3 ≠ g0 ∧ g3 ≠ g1 ∧ g3 ≠ g2 ∧ g4 ≠ g0 ∧ g4 ≠ g1 ∧ g4 ≠ g2 ∧ g3 ≠ g4)
theorem FrAll.kp {n0 n d : Nat} {P0 P1 P2 P3 P4 : List Int → Prop} {v : Value} {w w' : World} (h : FrAll n0 n P0 P1 P2 P3 P4 v w) (hd : Dr w d) (hk : w.grownBy w' (some d)) : FrAll n0 n P0 P1 P2 P3 P4 v w' := by
  obtain ⟨b, g0, c0, g1, c1, g2, c2, g3, c3, g4, c4, l0, l1, l2, l3, l4, e, h1, h2, h3, h4, ⟨k0, k1, k2, k3, k4⟩, h5⟩ := h
  exact ⟨b, g0, c0, g1, c1, g2, c2, g3, c3, g4, c4, l0, l1, l2, l3, l4, e, h1, h2.kp hk (bx_ne h2 hd (by decide)), h3, h4, ⟨k0.kp hd hk, k1.kp hd hk, k2.kp hd hk, k3.kp hd hk, k4.kp hd hk⟩, h5⟩
def asAll (R : World → Prop) (d : Nat) (hRd : ∀ w, R w → Dr w d) (n0 n : Nat) (P0 P1 P2 P3 P4 : List Int → Prop) : As R (DF d) := ⟨FrAll n0 n P0 P1 P2 P3 P4, fun v w w' hr _ hk h => h.kp (hRd w hr) hk⟩

/-- A number lies within a span. -/
theorem in_c (a b n : Int) (w : World) (h1 : a ≤ n) (h2 : n ≤ b) :
    Calls Try.prog 53 #[Sp a b, I n] w fun e w' => e = .returned (.bool true) ∧ Below w.heap.size w w' := by
  go_enter Try.func53, Try.ntmps53
  have hb := Bx.new w 27 #[I a, I b]
  have hc := hb.cell
  go_wp2
  go_ret
  exact ⟨rfl, (Below.refl _ _).alloc (Nat.le_refl _) _⟩

theorem own_baseT {w : World} {base base' : Nat} {e : TypeId} {size n : Nat} {v : Value} {xs : List Value} (h : w.ownsRow base e size v n xs) (hb : base' ≤ base) : w.ownsRow base' e size v n xs := by
  refine ⟨h.1, ?_⟩
  rcases h.2 with h0 | ⟨g, cap, cur, e1, e2, rest⟩
  · exact .inl h0
  · exact .inr ⟨g, cap, cur, e1, by omega, rest⟩
/-- The rows of a walk. -/
def WkT (ws : List Wg) (sts ps : List Int) (L n0 : Nat) (v : Value) (w : World) : Prop := ∃ xs : List Value, w.ownsRow n0 25 1 v (L + 1) xs ∧ xs.length = L + 1 ∧ RowsOK ws sts ps ws.length w xs
theorem WkT.grow {ws : List Wg} {sts ps : List Int} {L n0 : Nat} {v : Value} {w w' : World} (h : WkT ws sts ps L n0 v w) (hb : Below w.heap.size w w') : WkT ws sts ps L n0 v w' := by
  obtain ⟨xs, h1, h2, h3⟩ := h
  exact ⟨xs, own_below h1 hb, h2, h3.grow hb⟩
def asWalkT (R : World → Prop) (ws : List Wg) (sts ps : List Int) (L n0 : Nat) : As R FB := ⟨WkT ws sts ps L n0, fun v w w' _ _ hb h => h.grow hb⟩
/-- The front of wing k in second t, where it lies. -/
theorem WkT.at_ {ws : List Wg} {sts ps : List Int} {L n0 : Nat} {v : Value} {w : World} (h : WkT ws sts ps L n0 v w) {t k : Nat} (ht : t ≤ L) (hk : k < ws.length) :
    ∃ g c b o c', v = .slice (some ⟨g, 0, none⟩) (L + 1) c ∧ w.cell? ⟨g, t, none⟩ = some (.slice (some ⟨b, o, none⟩) ws.length c') ∧ w.cell? ⟨b, o + k, none⟩ = some (I (rv ws sts ps (t : Int) k)) := by
  obtain ⟨xs, h1, h2, h3⟩ := h
  obtain ⟨Bj, cj, e1, e2⟩ := h3 t (by omega)
  obtain ⟨b, o, rfl, _⟩ := SlI.some_ e2 (show k < _ by rw [rowF_length]; exact hk)
  have hc := SlI.cellG e2 (show k < _ by rw [rowF_length]; exact hk)
  rw [gI_rowF hk] at hc
  rcases h1.2 with ⟨_, h0⟩ | ⟨g, cap, cur, rfl, _⟩
  · omega
  · refine ⟨g, cap, b, o, cj, rfl, ?_, hc⟩
    have := h1.cells (g := g) (by simp [Value.ownBlock]) t _ e1
    have e : (⟨g, 0, none⟩ : Addr).add t = ⟨g, t, none⟩ := by unfold Addr.add; split <;> simp_all
    rw [e] at this
    exact this

/-- What holds in the law from the fourth answer on. -/
def TrS (d q : Nat) (r : Int) (A : Option Addr) (c : Nat) (ws : List Wg) (B : Option Addr) (sts : List Int) (n0 q9 q11 q14 q16 : Nat) (s9 s11 s14 s16 : Array Value) (w0 w : World) : Prop :=
  LK d q r A c ws w0 w ∧ SlI w 3 B sts ∧ Bx w q9 27 s9 ∧ Bx w q11 27 s11 ∧ Bx w q14 27 s14 ∧ Bx w q16 27 s16 ∧ n0 ≤ w.heap.size
section
variable {d q c n0 q9 q11 q14 q16 : Nat} {r : Int} {A B : Option Addr} {ws : List Wg} {sts : List Int} {s9 s11 s14 s16 : Array Value} {w0 w w' : World}
theorem TrS.kp (h : TrS d q r A c ws B sts n0 q9 q11 q14 q16 s9 s11 s14 s16 w0 w) (hk : w.grownBy w' (some d)) (hd : Dr w' d) : TrS d q r A c ws B sts n0 q9 q11 q14 q16 s9 s11 s14 s16 w0 w' := by
  obtain ⟨h1, h2, h3, h4, h5, h6, h7⟩ := h
  exact ⟨h1.kp hk hd, Sl.kp h2 h1.dr hk (by decide), h3.kp hk (bx_ne h3 h1.dr (by decide)), h4.kp hk (bx_ne h4 h1.dr (by decide)), h5.kp hk (bx_ne h5 h1.dr (by decide)), h6.kp hk (bx_ne h6 h1.dr (by decide)), Nat.le_trans h7 hk.size⟩
theorem TrS.grow (h : TrS d q r A c ws B sts n0 q9 q11 q14 q16 s9 s11 s14 s16 w0 w) (hb : Below w.heap.size w w') : TrS d q r A c ws B sts n0 q9 q11 q14 q16 s9 s11 s14 s16 w0 w' :=
  h.kp (kp_of_below hb (Nat.le_refl _)) (h.1.dr.below hb h.1.dr.lt)
/-- A number is stored in a later block. -/
theorem TrS.put (h : TrS d q r A c ws B sts n0 q9 q11 q14 q16 s9 s11 s14 s16 w0 w) {g cg k : Nat} {ps : List Int} (hg : RowAt w g cg ps) (hn : n0 ≤ g) (hB : ∀ b o, B = some ⟨b, o, none⟩ → b < n0) (hw : w0.heap.size ≤ n0) (hq : q < n0) (u : Value) :
    TrS d q r A c ws B sts n0 q9 q11 q14 q16 s9 s11 s14 s16 w0 (w.setCell ⟨g, k, none⟩ u) := by
  obtain ⟨h1, h2, h3, h4, h5, h6, h7⟩ := h
  obtain ⟨cs, hg1, _⟩ := hg
  have ne : ∀ {b : Nat} {s : Array Value}, Bx w b 27 s → b ≠ g := fun hb e => by
    subst e
    unfold Bx at hb hg1
    rw [hb] at hg1
    injection hg1 with e
    injection e with _ e
    exact absurd e (by decide)
  have hdg : d ≠ g := fun e => by
    have := bx_ne hg1 h1.dr (by decide)
    exact this e.symm
  refine ⟨h1.set (p := ⟨g, k, none⟩) hg1 (by decide) (by simp only []; omega) hdg (by simp only []; omega) u, ?_, h3.far (ne h3) u, h4.far (ne h4) u, h5.far (ne h5) u, h6.far (ne h6) u, by simpa [World.setCell] using h7⟩
  rcases h2 with h2 | ⟨b, o, cs1, fz, hA, hh, hc⟩
  · exact .inl h2
  · exact .inr ⟨b, o, cs1, fz, hA, (Below.heap_setCell _ _ _ _ (by have := hB b o hA; simp only []; omega)).trans hh, hc⟩
end

/-- The five rows where they lie; the last two may have been stored into. -/
structure TrR (b n n0 : Nat) (g0 c0 g1 c1 g2 c2 g3 c3 g4 c4 : Nat) (l0 l1 l2 : List Int) (w : World) : Prop where
  box : Bx w b 25 #[.slice (some ⟨g0, 0, none⟩) n c0, .slice (some ⟨g1, 0, none⟩) n c1, .slice (some ⟨g2, 0, none⟩) n c2, .slice (some ⟨g3, 0, none⟩) n c3, .slice (some ⟨g4, 0, none⟩) n c4]
  a0 : RowAt w g0 c0 l0
  a1 : RowAt w g1 c1 l1
  a2 : RowAt w g2 c2 l2
theorem TrR.grow {b n n0 g0 c0 g1 c1 g2 c2 g3 c3 g4 c4 : Nat} {l0 l1 l2 : List Int} {w w' : World} (h : TrR b n n0 g0 c0 g1 c1 g2 c2 g3 c3 g4 c4 l0 l1 l2 w) (hb : Below w.heap.size w w') : TrR b n n0 g0 c0 g1 c1 g2 c2 g3 c3 g4 c4 l0 l1 l2 w' :=
  ⟨h.box.below hb h.box.lt, h.a0.below hb, h.a1.below hb, h.a2.below hb⟩
theorem TrR.put {b n n0 g0 c0 g1 c1 g2 c2 g3 c3 g4 c4 : Nat} {l0 l1 l2 : List Int} {w : World} (h : TrR b n n0 g0 c0 g1 c1 g2 c2 g3 c3 g4 c4 l0 l1 l2 w) {g cg k : Nat} {ps : List Int} (hg : RowAt w g cg ps) (h0 : g ≠ g0) (h1 : g ≠ g1) (h2 : g ≠ g2) (u : Value) : TrR b n n0 g0 c0 g1 c1 g2 c2 g3 c3 g4 c4 l0 l1 l2 (w.setCell ⟨g, k, none⟩ u) := by
  have hb : b ≠ g := fun e => by
    obtain ⟨cs, hg1, _⟩ := hg
    have hb := h.box
    subst e
    unfold Bx at hb hg1
    rw [hb] at hg1
    injection hg1 with e
    injection e with _ e
    exact absurd e (by decide)
  exact ⟨h.box.far hb u, h.a0.far (fun e => h0 e.symm) u, h.a1.far (fun e => h1 e.symm) u, h.a2.far (fun e => h2 e.symm) u⟩

theorem cell_lt {w : World} {p : Addr} {v : Value} (h : w.cell? p = some v) : p.block < w.heap.size := by
  rcases Nat.lt_or_ge p.block w.heap.size with h' | h'
  · exact h'
  · unfold World.cell? at h
    rw [Array.getElem?_eq_none h'] at h
    cases h
theorem cell_grow {w w' : World} {p : Addr} {v : Value} (h : w.cell? p = some v) (hb : Below w.heap.size w w') : w'.cell? p = some v := by
  have := hb.block p.block (cell_lt h)
  unfold World.cell? at h ⊢
  rw [this]; exact h
/-- All fronts of second t, where they lie. -/
theorem WkT.row {ws : List Wg} {sts ps : List Int} {L n0 : Nat} {v : Value} {w : World} (h : WkT ws sts ps L n0 v w) {t : Nat} (ht : t ≤ L) (hn : 0 < ws.length) :
    ∃ g c b o c', v = .slice (some ⟨g, 0, none⟩) (L + 1) c ∧ w.cell? ⟨g, t, none⟩ = some (.slice (some ⟨b, o, none⟩) ws.length c') ∧ ∀ k, k < ws.length → w.cell? ⟨b, o + k, none⟩ = some (I (rv ws sts ps (t : Int) k)) := by
  obtain ⟨g, c, b, o, c', e, h1, _⟩ := h.at_ ht hn
  refine ⟨g, c, b, o, c', e, h1, fun k hk => ?_⟩
  obtain ⟨g', c2, b', o', c3, e', h1', h2'⟩ := h.at_ ht hk
  rw [e] at e'
  injection e' with e1 _ _
  injection e1 with e1
  injection e1 with e1
  subst e1
  rw [h1] at h1'
  injection h1' with h1'
  injection h1' with h1' _ _
  injection h1' with h1'
  injection h1' with e2 e3
  subst e2; subst e3
  exact h2'

/-- All that holds in a round. -/
def TrL (d q : Nat) (r : Int) (A : Option Addr) (c : Nat) (ws : List Wg) (B : Option Addr) (sts : List Int) (n0 q9 q11 q14 q16 : Nat) (s9 s11 s14 s16 : Array Value) (b g0 d0 g1 d1 g2 d2 g3 d3 g4 d4 : Nat) (l0 l1 l2 l3 l4 : List Int) (w0 w : World) : Prop :=
  TrS d q r A c ws B sts n0 q9 q11 q14 q16 s9 s11 s14 s16 w0 w ∧ TrR b ws.length n0 g0 d0 g1 d1 g2 d2 g3 d3 g4 d4 l0 l1 l2 w ∧ RowAt w g3 d3 l3 ∧ RowAt w g4 d4 l4
/-- Row i is one of the five. -/
def RowIs (i : Nat) (ps l0 l1 l2 l3 l4 : List Int) : Prop := (i = 0 ∧ ps = l0) ∨ (i = 1 ∧ ps = l1) ∨ (i = 2 ∧ ps = l2) ∨ (i = 3 ∧ ps = l3) ∨ (i = 4 ∧ ps = l4)
section
variable {d q c n0 q9 q11 q14 q16 b g0 d0 g1 d1 g2 d2 g3 d3 g4 d4 : Nat} {r : Int} {A B : Option Addr} {ws : List Wg} {sts l0 l1 l2 l3 l4 : List Int} {s9 s11 s14 s16 : Array Value} {w0 w w' : World}
theorem TrL.grow (h : TrL d q r A c ws B sts n0 q9 q11 q14 q16 s9 s11 s14 s16 b g0 d0 g1 d1 g2 d2 g3 d3 g4 d4 l0 l1 l2 l3 l4 w0 w) (hb : Below w.heap.size w w') :
    TrL d q r A c ws B sts n0 q9 q11 q14 q16 s9 s11 s14 s16 b g0 d0 g1 d1 g2 d2 g3 d3 g4 d4 l0 l1 l2 l3 l4 w0 w' := ⟨h.1.grow hb, h.2.1.grow hb, h.2.2.1.below hb, h.2.2.2.below hb⟩
theorem TrL.row (h : TrL d q r A c ws B sts n0 q9 q11 q14 q16 s9 s11 s14 s16 b g0 d0 g1 d1 g2 d2 g3 d3 g4 d4 l0 l1 l2 l3 l4 w0 w) {i : Nat} (hi : i < 5) :
    ∃ g cg ps, w.cell? ⟨b, i, none⟩ = some (.slice (some ⟨g, 0, none⟩) ws.length cg) ∧ RowAt w g cg ps ∧ RowIs i ps l0 l1 l2 l3 l4 := by
  have hb := h.2.1.box.cell
  match i, hi with
  | 0, _ => exact ⟨g0, d0, l0, hb 0, h.2.1.a0, .inl ⟨rfl, rfl⟩⟩
  | 1, _ => exact ⟨g1, d1, l1, hb 1, h.2.1.a1, .inr (.inl ⟨rfl, rfl⟩)⟩
  | 2, _ => exact ⟨g2, d2, l2, hb 2, h.2.1.a2, .inr (.inr (.inl ⟨rfl, rfl⟩))⟩
  | 3, _ => exact ⟨g3, d3, l3, hb 3, h.2.2.1, .inr (.inr (.inr (.inl ⟨rfl, rfl⟩)))⟩
  | 4, _ => exact ⟨g4, d4, l4, hb 4, h.2.2.2, .inr (.inr (.inr (.inr ⟨rfl, rfl⟩)))⟩
end

section
variable {r : Int} {c : Nat} {ws : List Wg} {sts ps pp : List Int} {cb k kl i : Nat} {t p : Int} {A B : Option Addr} {w : World}
/-- What is so of a row. -/
theorem true_row (V : LV r c ws sts cb) (hk : k < ws.length) (ht : gI sts k ≤ t) (hkl : kl + 1 = ws.length) (hpp : InP ws pp)
    (h : RowIs i ps (los ws) (his ws) pp ((his ws).set k (gW ws k).lo) ((los ws).set k (gW ws k).hi)) :
    InP ws ps ∧ (front ws sts (los ws) t k ≤ rv ws sts ps t k ∧ rv ws sts ps t k ≤ front ws sts (his ws) t k) ∧
    (passed ws sts (his ws) k p ≤ passed ws sts ps k p ∧ passed ws sts ps k p ≤ passed ws sts (los ws) k p) ∧
    (passed ws sts (his ws) kl (r + (gW ws kl).len) ≤ passed ws sts ps kl (r + (gW ws kl).len) ∧ passed ws sts ps kl (r + (gW ws kl).len) ≤ passed ws sts (los ws) kl (r + (gW ws kl).len)) ∧
    (i = 0 → rv ws sts ps t k = front ws sts (los ws) t k ∧ passed ws sts ps k p = passed ws sts (los ws) k p ∧ passed ws sts ps kl (r + (gW ws kl).len) = passed ws sts (los ws) kl (r + (gW ws kl).len)) ∧
    (i = 1 → rv ws sts ps t k = front ws sts (his ws) t k ∧ passed ws sts ps k p = passed ws sts (his ws) k p ∧ passed ws sts ps kl (r + (gW ws kl).len) = passed ws sts (his ws) kl (r + (gW ws kl).len)) ∧
    (k ≠ 0 → (gapF ws sts (los ws) (gW ws k).hi t k ≤ rv ws sts ps t (k - 1) - (gW ws (k - 1)).len - rv ws sts ps t k ∧ rv ws sts ps t (k - 1) - (gW ws (k - 1)).len - rv ws sts ps t k ≤ gapF ws sts (his ws) (gW ws k).lo t k) ∧
      (i = 3 → rv ws sts ps t (k - 1) - (gW ws (k - 1)).len - rv ws sts ps t k = gapF ws sts (his ws) (gW ws k).lo t k) ∧
      (i = 4 → rv ws sts ps t (k - 1) - (gW ws (k - 1)).len - rv ws sts ps t k = gapF ws sts (los ws) (gW ws k).hi t k)) := by
  have hL := InP.los V
  have hH := InP.his V
  have hlh := V.val.los1 hk
  rw [gI_los _ _ hk, gI_his _ _ hk] at hlh
  have hp : InP ws ps := by
    rcases h with ⟨_, rfl⟩ | ⟨_, rfl⟩ | ⟨_, rfl⟩ | ⟨_, rfl⟩ | ⟨_, rfl⟩
    · exact hL
    · exact hH
    · exact hpp
    · exact hH.set hk (Int.le_refl _) hlh.2.1
    · exact hL.set hk hlh.2.1 (Int.le_refl _)
  have e0 : rv ws sts ps t k = front ws sts ps t k := by unfold rv; rw [if_pos ht]
  have e1 : rv ws sts ps t (k - 1) = front ws sts ps t (k - 1) := by unfold rv; rw [if_pos (Int.le_trans (V.val.sorted (by omega) hk) ht)]
  rw [e0, e1]
  refine ⟨hp, hp.front V hk ht, hp.passed V hk, hp.passed V (by omega), fun e => ?_, fun e => ?_, fun h0 => ?_⟩
  · rcases h with ⟨_, rfl⟩ | ⟨h, _⟩ | ⟨h, _⟩ | ⟨h, _⟩ | ⟨h, _⟩
    · exact ⟨rfl, rfl, rfl⟩
    all_goals omega
  · rcases h with ⟨h, _⟩ | ⟨_, rfl⟩ | ⟨h, _⟩ | ⟨h, _⟩ | ⟨h, _⟩
    · omega
    · exact ⟨rfl, rfl, rfl⟩
    all_goals omega
  · rw [gap_of h0]
    refine ⟨hp.gap V hk h0 ht, fun e => ?_, fun e => ?_⟩
    · rcases h with ⟨h, _⟩ | ⟨h, _⟩ | ⟨h, _⟩ | ⟨_, rfl⟩ | ⟨h, _⟩
      · omega
      · omega
      · omega
      · rw [gap_set (by rw [his_length]; exact hk) h0, gI_set (by rw [his_length]; exact hk), if_pos rfl]
      · omega
    · rcases h with ⟨h, _⟩ | ⟨h, _⟩ | ⟨h, _⟩ | ⟨h, _⟩ | ⟨_, rfl⟩
      · omega
      · omega
      · omega
      · omega
      · rw [gap_set (by rw [los_length]; exact hk) h0, gI_set (by rw [los_length]; exact hk), if_pos rfl]

/-- Gap answers, and has an error only for the first wing. -/
theorem LV.gapAll (V : LV r c ws sts cb) (h1 : SlW w 29 A ws) (h2 : SlI w 3 B sts) (hk : k < ws.length) (a1 : gI sts k ≤ t) (a2 : t ≤ 100000) :
    Calls Try.prog 40 #[.agg #[I r, .slice A ws.length c], .slice B sts.length cb, I (k : Int), I t] w fun e w' => ∃ u v x : Int, e = .returned (.tuple #[Sp u v, I x]) ∧ ((x = 0) = (0 < (k : Int))) ∧ (k ≠ 0 → u = gapF ws sts (los ws) (gW ws k).hi t k ∧ v = gapF ws sts (his ws) (gW ws k).lo t k) ∧ Below w.heap.size w w' := by
  by_cases h0 : k = 0
  · have h := gapP_c r A B c cb ws sts 29 3 w h1 h2 V.fit V.max.1 V.cap V.max.2 V.capb (k : Int) t
    rw [gaE_z (V.mom hk a1 a2) (by omega)] at h
    refine h.mono ?_
    rintro e w' ⟨rfl, hb⟩
    exact ⟨_, _, 7, rfl, by simp; omega, fun h => absurd h0 h, hb⟩
  · refine (V.gap_ h1 h2 hk h0 a1 a2).mono ?_
    rintro e w' ⟨rfl, hb⟩
    exact ⟨_, _, 0, rfl, by simp; omega, fun _ => ⟨rfl, rfl⟩, hb⟩
end
end Go.Proofs.Ytnihkgdkdinliaa
