import Derived.Test.YtnihkgdkdinliaaLawKitC
import Derived.Test.YtnihkgdkdinliaaRulesOf
import Derived.Laws.AppendOwnNone
/- Paces that are known better: the mathematics; copies of schools. Own work. -/
namespace Go.Proofs.Ytnihkgdkdinliaa
open Go.RowKit
set_option linter.unusedVariables false
set_option linter.unusedSimpArgs false

/-- The same wings, with narrower paces. -/
structure Nrw (ws us : List Wg) : Prop where
  len : us.length = ws.length
  name : ∀ k, k < ws.length → (gW us k).name = (gW ws k).name
  long : ∀ k, k < ws.length → (gW us k).len = (gW ws k).len
  pace : ∀ k, k < ws.length → (gW ws k).lo ≤ (gW us k).lo ∧ (gW us k).lo ≤ (gW us k).hi ∧ (gW us k).hi ≤ (gW ws k).hi

theorem Nrw.self {ws : List Wg} (h : MadeWs ws) : Nrw ws ws := ⟨rfl, fun _ _ => rfl, fun _ _ => rfl, fun k hk => by have := h.at_ hk; obtain ⟨_, _, _, _, _, h5, _⟩ := this; omega⟩

theorem gW_set {us : List Wg} {i : Nat} {g : Wg} (hi : i < us.length) (k : Nat) : gW (us.set i g) k = if k = i then g else gW us k := by
  unfold gW
  rw [List.getElem?_set]
  by_cases h : i = k
  · subst h; simp [hi]
  · have : ¬ k = i := fun e => h e.symm
    simp [h, this]

theorem Nrw.set {ws us : List Wg} (h : Nrw ws us) {i : Nat} (hi : i < ws.length) {x y : Int} (h1 : (gW us i).lo ≤ x) (h2 : x ≤ y) (h3 : y ≤ (gW us i).hi) : Nrw ws (us.set i ⟨(gW us i).name, (gW us i).len, x, y⟩) := by
  have hi' : i < us.length := by have := h.len; omega
  refine ⟨by simp [h.len], fun k hk => ?_, fun k hk => ?_, fun k hk => ?_⟩
  · rw [gW_set hi']; split
    · rename_i e; subst e; exact h.name k hk
    · exact h.name k hk
  · rw [gW_set hi']; split
    · rename_i e; subst e; exact h.long k hk
    · exact h.long k hk
  · rw [gW_set hi']; split
    · rename_i e; subst e; have := h.pace k hk; simp only []; omega
    · exact h.pace k hk

theorem front_ws {ws us : List Wg} {sts ps : List Int} {t : Int} : ∀ i, (∀ k, k < i → (gW us k).len = (gW ws k).len) → front us sts ps t i = front ws sts ps t i := by
  intro i
  induction i with
  | zero => intro _; rfl
  | succ i ih => intro h; rw [front_succ, front_succ, ih fun k hk => h k (by omega), h i (by omega)]
theorem pasF_ws {ws us : List Wg} {sts ps : List Int} : ∀ i place acc, (∀ k, k < i → (gW us k).len = (gW ws k).len) → pasF us sts ps i place acc = pasF ws sts ps i place acc := by
  intro i
  induction i with
  | zero => intro place acc _; rfl
  | succ i ih => intro place acc h; show pasF us sts ps i _ _ = pasF ws sts ps i _ _; rw [ih _ _ fun k hk => h k (by omega), h i (by omega)]
theorem passed_ws {ws us : List Wg} {sts ps : List Int} {i : Nat} {place : Int} (h : ∀ k, k < i → (gW us k).len = (gW ws k).len) : passed us sts ps i place = passed ws sts ps i place := pasF_ws i place _ h

section
variable {r : Int} {c : Nat} {ws us : List Wg} {sts : List Int} {cb : Nat}
theorem Nrw.paces (h : Nrw ws us) {k : Nat} (hk : k < ws.length) : gI (los ws) k ≤ gI (los us) k ∧ gI (los us) k ≤ gI (his us) k ∧ gI (his us) k ≤ gI (his ws) k := by
  have := h.len
  rw [gI_los _ _ hk, gI_los _ _ (by omega), gI_his _ _ hk, gI_his _ _ (by omega)]
  exact h.pace k hk

/-- The starts stay valid. -/
theorem Nrw.lv (h : Nrw ws us) (V : LV r c ws sts cb) {c' : Nat} (hc : us.length ≤ c') : LV r c' us sts cb := by
  have hl := h.len
  have hm : MadeWs us := fun k hk => by
    have hk' : k < ws.length := by omega
    obtain ⟨a0, a1, a2, a3, a4, a5, a6⟩ := V.made.at_ hk'
    have e1 := h.name k hk'
    have e2 := h.long k hk'
    have e3 := h.pace k hk'
    rw [gW_lt hk] at e1 e2 e3
    refine ⟨by rw [e1, a0], ?_⟩
    omega
  have hst : StM us sts sts.length := fun j hj => by
    have hs := V.st j hj
    refine ⟨?_, hs.2⟩
    refine Int.le_trans ?_ hs.1
    cases j with
    | zero => exact Int.le_refl _
    | succ i =>
      have hi : i < ws.length := by have := V.len; omega
      show passed us sts (los us) i (gW us i).len ≤ passed ws sts (los ws) i (gW ws i).len
      rw [passed_ws fun k hk => h.long k (by omega), h.long i hi]
      exact passed_more fun k hk => ⟨(V.val.los1 (by omega)).1, (h.paces (by omega)).1⟩
  have hchk := made_chk hm V.r1 V.r2 (by have := V.n1; omega) (by have := V.n2; omega)
  exact ⟨hm, V.r1, V.r2, by have := V.n1; omega, by have := V.n2; omega, hc, by have := V.len; omega, V.capb, hst.cst hchk (by have := V.len; omega) (by have := V.n2; omega), hst⟩

theorem Nrw.front (h : Nrw ws us) (V : LV r c ws sts cb) {k : Nat} (hk : k < ws.length) {t : Int} (ht : gI sts k ≤ t) :
    front ws sts (los ws) t k ≤ front us sts (los us) t k ∧ front us sts (his us) t k ≤ front ws sts (his ws) t k := by
  rw [front_ws k fun j hj => h.long j (by omega), front_ws k fun j hj => h.long j (by omega)]
  exact ⟨front_more k fun j hj => ⟨(h.paces (by omega)).1, Int.le_trans (V.val.sorted hj hk) ht⟩, front_more k fun j hj => ⟨(h.paces (by omega)).2.2, Int.le_trans (V.val.sorted hj hk) ht⟩⟩
theorem Nrw.passed (h : Nrw ws us) (V : LV r c ws sts cb) {k : Nat} (hk : k < ws.length) {p : Int} :
    passed ws sts (his ws) k p ≤ passed us sts (his us) k p ∧ passed us sts (los us) k p ≤ passed ws sts (los ws) k p := by
  rw [passed_ws fun j hj => h.long j (by omega), passed_ws fun j hj => h.long j (by omega)]
  exact ⟨passed_more fun j hj => by have := h.paces (show j < ws.length by omega); have := V.val.los1 (show j < ws.length by omega); omega, passed_more fun j hj => by have := h.paces (show j < ws.length by omega); have := V.val.los1 (show j < ws.length by omega); omega⟩
theorem Nrw.lasts (h : Nrw ws us) (V : LV r c ws sts cb) : lasF r ws sts (his ws) ≤ lasF r us sts (his us) ∧ lasF r us sts (los us) ≤ lasF r ws sts (los ws) := by
  have hl := h.len
  have hn := V.n1
  have := h.passed V (k := ws.length - 1) (by omega) (p := r + (gW ws (ws.length - 1)).len)
  unfold lasF
  rw [hl, h.long _ (by omega)]
  omega
theorem Nrw.gap (h : Nrw ws us) (V : LV r c ws sts cb) {k : Nat} (hk : k < ws.length) (h0 : k ≠ 0) {t : Int} (ht : gI sts k ≤ t) :
    gapF ws sts (los ws) (gW ws k).hi t k ≤ gapF us sts (los us) (gW us k).hi t k ∧ gapF us sts (his us) (gW us k).lo t k ≤ gapF ws sts (his ws) (gW ws k).lo t k := by
  have hf := h.front V (k := k - 1) (by omega) (t := t) (Int.le_trans (V.val.sorted (by omega) hk) ht)
  have hp := h.pace k hk
  have e1 : (gW us k).hi * (t - gI sts k) ≤ (gW ws k).hi * (t - gI sts k) := Int.mul_le_mul_of_nonneg_right hp.2.2 (by omega)
  have e2 : (gW ws k).lo * (t - gI sts k) ≤ (gW us k).lo * (t - gI sts k) := Int.mul_le_mul_of_nonneg_right hp.1 (by omega)
  unfold gapF
  rw [h.long (k - 1) (by omega)]
  omega
end

/-- What is Sure or Never stays. -/
theorem verd_less {a b x y x' y' : Int} (h1 : x ≤ x') (h2 : x' ≤ y') (h3 : y' ≤ y) : verd a b x y = 3 ∨ verd a b x y = verd a b x' y' := by
  by_cases c1 : a ≤ x ∧ y ≤ b
  · rw [verd_sure c1.1 c1.2, verd_sure (by omega) (by omega)]; exact .inr rfl
  · by_cases c2 : b < x ∨ y < a
    · rw [verd_never c1 c2, verd_never (by omega) (by omega)]; exact .inr rfl
    · exact .inl (verd_open c1 c2)

/-- A wing's paces are stored. -/
theorem SlW.pace {w : World} {b : Nat} {us : List Wg} {cs : Array Value} {fz : Nat × Nat} (hb : w.heap[b]? = some (.cells cs 29 fz)) (hc : ∀ (j : Nat) (u : Value), (us.flatMap Wg.cells)[j]? = some u → cs[j]? = some u) {i : Nat} (hi : i < us.length) (x y : Int) :
    ∃ cs', ((w.setCell ⟨b, i * 4 + 2, none⟩ (I x)).setCell ⟨b, i * 4 + 3, none⟩ (I y)).heap[b]? = some (.cells cs' 29 fz) ∧ ∀ (j : Nat) (u : Value), ((us.set i ⟨(gW us i).name, (gW us i).len, x, y⟩).flatMap Wg.cells)[j]? = some u → cs'[j]? = some u := by
  refine ⟨(cs.setIfInBounds (i * 4 + 2) (I x)).setIfInBounds (i * 4 + 3) (I y), by simp [World.setCell, Array.getElem?_modify, hb], fun j u hu => ?_⟩
  have hlen : i * 4 + 3 < cs.size := by
    have := hc (4 * i + 3) _ (by rw [wing_at us i 3 (by omega), List.getElem?_eq_getElem hi]; rfl)
    have := (Array.getElem?_eq_some_iff.1 this).1
    omega
  have hj : j < 4 * us.length := by
    have := (List.getElem?_eq_some_iff.1 hu).1
    rw [length_wings] at this
    simpa using this
  obtain ⟨k, m, hm, rfl⟩ : ∃ k m, m < 4 ∧ j = 4 * k + m := ⟨j / 4, j % 4, by omega, by omega⟩
  have hk : k < us.length := by omega
  rw [wing_at _ _ _ hm] at hu
  have hold := hc (4 * k + m)
  rw [wing_at _ _ _ hm, List.getElem?_eq_getElem hk] at hold
  rw [List.getElem?_set] at hu
  by_cases e : i = k
  · subst e
    simp only [hi, if_true, Option.bind_some] at hu
    rw [gW_lt hi] at hu
    simp only [Option.bind_some] at hold
    match m, hm with
    | 0, _ => rw [Array.getElem?_setIfInBounds_ne (by omega), Array.getElem?_setIfInBounds_ne (by omega)]; exact hold u hu
    | 1, _ => rw [Array.getElem?_setIfInBounds_ne (by omega), Array.getElem?_setIfInBounds_ne (by omega)]; exact hold u hu
    | 2, _ =>
      rw [Array.getElem?_setIfInBounds_ne (by omega), show 4 * i + 2 = i * 4 + 2 by omega, Array.getElem?_setIfInBounds_self_of_lt (by omega)]
      exact hu
    | 3, _ =>
      rw [show 4 * i + 3 = i * 4 + 3 by omega, Array.getElem?_setIfInBounds_self_of_lt (by simp; omega)]
      exact hu
  · rw [Array.getElem?_setIfInBounds_ne (by omega), Array.getElem?_setIfInBounds_ne (by omega)]
    simp only [e, if_false] at hu
    rw [List.getElem?_eq_getElem hk] at hu
    exact hold u hu
end Go.Proofs.Ytnihkgdkdinliaa
/- Copies of schools; narrower paces of a drum. Own work. -/
namespace Go.Proofs.Ytnihkgdkdinliaa
open Go.RowKit
set_option linter.unusedVariables false
set_option linter.unusedSimpArgs false

/-- A block of wings that reads so. -/
def WB (w : World) (b : Nat) (us : List Wg) : Prop := ∃ cs fz, w.heap[b]? = some (.cells cs 29 fz) ∧ fz = (0, 0) ∧ ∀ (j : Nat) (u : Value), (us.flatMap Wg.cells)[j]? = some u → cs[j]? = some u
theorem WB.lt {w : World} {b : Nat} {us : List Wg} (h : WB w b us) : b < w.heap.size := by obtain ⟨_, _, h, _⟩ := h; exact lt_of_heap h
theorem WB.sl {w : World} {b : Nat} {us : List Wg} (h : WB w b us) : SlW w 29 (some ⟨b, 0, none⟩) us := by
  obtain ⟨cs, fz, h1, _, h2⟩ := h
  exact .inr ⟨b, 0, cs, fz, rfl, h1, fun j u hu => by simpa using h2 j u hu⟩
theorem WB.free {w : World} {b : Nat} {us : List Wg} (h : WB w b us) : ∀ j, w.frozen? ⟨b, j, none⟩ = false := by
  obtain ⟨cs, fz, h1, rfl, h2⟩ := h
  intro j; simp [World.frozen?, h1]
theorem WB.same {w w' : World} {b : Nat} {us : List Wg} (h : WB w b us) (e : w'.heap[b]? = w.heap[b]?) : WB w' b us := by
  obtain ⟨cs, fz, h1, h2, h3⟩ := h; exact ⟨cs, fz, e.trans h1, h2, h3⟩
theorem WB.below {w w' : World} {b : Nat} {us : List Wg} (h : WB w b us) (hb : Below w.heap.size w w') : WB w' b us := h.same (hb.block b h.lt)
theorem WB.kp {w w' : World} {b d : Nat} {us : List Wg} (h : WB w b us) (hk : w.grownBy w' (some d)) (hne : b ≠ d) : WB w' b us := h.same (hk.block b h.lt (fun e => hne (by injection e)))
theorem WB.put {w : World} {b : Nat} {us : List Wg} (h : WB w b us) {i : Nat} (hi : i < us.length) (x y : Int) :
    WB ((w.setCell ⟨b, i * 4 + 2, none⟩ (I x)).setCell ⟨b, i * 4 + 3, none⟩ (I y)) b (us.set i ⟨(gW us i).name, (gW us i).len, x, y⟩) := by
  obtain ⟨cs, fz, h1, h2, h3⟩ := h
  obtain ⟨cs', e1, e2⟩ := SlW.pace h1 h3 hi x y
  exact ⟨cs', fz, e1, h2, e2⟩

set_option maxRecDepth 100000 in
set_option maxHeartbeats 1000000 in
theorem ownSchool_c (r : Int) (A : Option Addr) (c : Nat) (ws : List Wg) (w : World) (h1 : SlW w 29 A ws) (hn : 1 ≤ ws.length) (h8 : ws.length ≤ 8) :
    Calls Try.prog 18 #[.agg #[I r, .slice A ws.length c]] w fun e w' => ∃ q c', e = .returned (.agg #[I r, .slice (some ⟨q, 0, none⟩) ws.length c']) ∧ w.heap.size ≤ q ∧ WB w' q ws ∧ ws.length ≤ c' ∧ Below w.heap.size w w' := by
  obtain ⟨b1, o1, rfl, hb1⟩ := SlW.some_ h1 (show 0 < ws.length by omega)
  have x1 := (Bx.new w 24 #[I r, .slice (some ⟨b1, o1, none⟩) ws.length c]).alloc (.cells #[I 0, .slice none 0 0] 24)
  have x2 := Bx.new' (w.alloc (.cells #[I r, .slice (some ⟨b1, o1, none⟩) ws.length c] 24)) 24 #[I 0, .slice none 0 0] (w.heap.size + 1) (by simp)
  have hW := ((Below.refl w.heap.size w).alloc (Nat.le_refl _) (.cells #[I r, .slice (some ⟨b1, o1, none⟩) ws.length c] 24)).alloc (by simp) (.cells #[I 0, .slice none 0 0] 24)
  have hc1 := x1.cell
  go_enter Try.func18, Try.ntmps18
  obtain ⟨i0, hi0, hz0, hz1, hz2⟩ := info_parts infoWing
  have hsz : ((w.alloc (.cells #[I r, .slice (some ⟨b1, o1, none⟩) ws.length c] 24)).alloc (.cells #[I 0, .slice none 0 0] 24)).heap.size = w.heap.size + 2 := by simp
  have hnews : ∀ j u, (ws.flatMap Wg.cells)[j]? = some u → (((w.alloc (.cells #[I r, .slice (some ⟨b1, o1, none⟩) ws.length c] 24)).alloc (.cells #[I 0, .slice none 0 0] 24)).alloc (.cells #[] 29)).cell? ((⟨b1, o1, none⟩ : Addr).add j) = some u := fun j u hu => by
    have h3 : SlW (((w.alloc (.cells #[I r, .slice (some ⟨b1, o1, none⟩) ws.length c] 24)).alloc (.cells #[I 0, .slice none 0 0] 24)).alloc (.cells #[] 29)) 29 (some ⟨b1, o1, none⟩) ws := ((h1.alloc _).alloc _).alloc _
    have e : (⟨b1, o1, none⟩ : Addr).add j = ⟨b1, o1 + j, none⟩ := by unfold Addr.add; split <;> simp_all
    rw [e]
    exact Sl.cells h3 hu
  have hown : (((w.alloc (.cells #[I r, .slice (some ⟨b1, o1, none⟩) ws.length c] 24)).alloc (.cells #[I 0, .slice none 0 0] 24)).alloc (.cells #[] 29)).ownsRow (w.heap.size + 2) 29 4 (.slice (some ⟨w.heap.size + 2, 0, none⟩) 0 0) 0 [] := by
    have := World.ownsRow_made (base := w.heap.size + 2) (e := 29) (size := 4) ((w.alloc (.cells #[I r, .slice (some ⟨b1, o1, none⟩) ws.length c] 24)).alloc (.cells #[I 0, .slice none 0 0] 24)) #[] 0 (by simp) (by decide) rfl
    rwa [hsz] at this
  go_wp2_with (at_builtin; refine wpList_append_own _ rfl _ _ 22 rfl (w.heap.size + 2) 29 i0 _ 4 40 Try.underlying22 hi0 hz0 hz1 hz2 rfl (by decide) _ _ _ rfl hown ⟨b1, o1, none⟩ ws.length c (ws.flatMap Wg.cells) rfl ?c1 ?c2 ?c3 ?c4 ?c5 ?c6 ?_)
  case c1 => rw [length_wings]; omega
  case c2 => exact hnews
  case c3 => intro u hu; obtain ⟨g, _, hg⟩ := List.mem_flatMap.1 hu; simp [Wg.cells] at hg; rcases hg with rfl | rfl | rfl | rfl <;> rfl
  case c4 => unfold maxLen; omega
  case c5 => omega
  case c6 => simp
  intro V' w7 hown7 hgr7 hnil
  have hB7 := below_own (hW.alloc (by simp; omega) (.cells #[] 29)) hown (by omega) (by simp; omega) hgr7
  have y1 := (x1.alloc (.cells #[] 29)).grown hgr7 (by simp [Value.ownBlock])
  have y2 := (x2.alloc (.cells #[] 29)).grown hgr7 (by simp [Value.ownBlock])
  obtain ⟨g, cap, cur, rfl, hg1, hg2, hg3, _, _, hg4⟩ : ∃ g cap cur, V' = .slice (some ⟨g, 0, none⟩) ws.length cap ∧ w.heap.size + 2 ≤ g ∧ w7.heap[g]? = some (.cells cur 29 (0, 0)) ∧ ws.length ≤ cap ∧ cap ≤ maxLen ∧ cur.size = cap * 4 ∧ cur.toList.take (ws.length * 4) = ws.flatMap Wg.cells := by
    rcases hown7.2 with ⟨_, h0⟩ | h
    · omega
    · simpa using h
  have hwb : WB w7 g ws := ⟨cur, (0, 0), hg2, rfl, fun j u hu => by
    rw [← hg4, List.getElem?_take] at hu
    split at hu
    · simpa using hu
    · cases hu⟩
  clear hown hown7 hgr7 hnews hW hc1 hnil x1 x2 hsz
  have hc1 := y1.cell
  have hf1 := y1.free
  have hc2 := y2.cell
  have hf2 := y2.free
  have y3 := (y2.far (p := ⟨w.heap.size, 1, none⟩) (by simp only []; omega) (.slice (some ⟨g, 0, none⟩) ws.length cap))
  have y4 := (y3.set_ 0 (I r)).set_ 1 (.slice (some ⟨g, 0, none⟩) ws.length cap)
  have hce := y4.cell
  go_wp2
  refine bodyPost_ret (v := .agg #[I r, .slice (some ⟨g, 0, none⟩) ws.length cap]) (by simp [results, Try.results18, go_sem, hce]) rfl ⟨g, cap, rfl, by omega, ?_, hg3, ?_⟩
  · refine hwb.same ?_
    rw [Below.heap_setCell _ _ _ _ (by simp only []; omega), Below.heap_setCell _ _ _ _ (by simp only []; omega), Below.heap_setCell _ _ _ _ (by simp only []; omega)]
  · exact ((hB7.setCell (p := ⟨w.heap.size, 1, none⟩) (Nat.le_refl _) _).setCell (p := ⟨w.heap.size + 1, 0, none⟩) (by simp only []; omega) _).setCell (p := ⟨w.heap.size + 1, 1, none⟩) (by simp only []; omega) _

/-- A narrower span came back. -/
def LessPost (d : Nat) (a b : Int) (w : World) (e : Ending) (w' : World) : Prop := ∃ x y : Int, e = .returned (Sp x y) ∧ a ≤ x ∧ x ≤ y ∧ y ≤ b ∧ Dr w' d ∧ w.grownBy w' (some d)

set_option maxRecDepth 100000 in
set_option maxHeartbeats 1000000 in
theorem less_c (d : Nat) (a b : Int) (w : World) (hd : Dr w d) (h1 : 0 ≤ a) (h2 : a ≤ b) (h3 : b ≤ 1000000) :
    Calls Try.prog 57 #[.pointer (some ⟨d, 0, none⟩), Sp a b] w (LessPost d a b w) := by
  have hlt := hd.lt
  have x3 := (Bx.new w 27 #[I a, I b]).alloc (.cells #[I 0, I 0] 27)
  have x4 := Bx.new' (w.alloc (.cells #[I a, I b] 27)) 27 #[I 0, I 0] (w.heap.size + 1) (by simp)
  have hd0 := (hd.alloc (.cells #[I a, I b] 27)).alloc (.cells #[I 0, I 0] 27)
  have g0 : w.grownBy ((w.alloc (.cells #[I a, I b] 27)).alloc (.cells #[I 0, I 0] 27)) (some d) := kp_alloc (World.grownBy_alloc _ _ _) _
  go_enter Try.func57, Try.ntmps57
  go_wp2_with fail
  refine wp_region_list_s (by kernel_rfl) (R := (fun w' => Dr w' d ∧ Bx w' w.heap.size 27 #[I a, I b] ∧ Bx w' (w.heap.size + 1) 27 #[I 0, I 0] ∧ w.grownBy w' (some d))) (F := DF d) [] [] []
      [As.is _ _ (.pointer (some ⟨d, 0, none⟩)),
      As.is _ _ (Sp a b),
      asInt _ _ a b,
      As.is _ _ (.pointer (some ⟨d, 0, none⟩)),
      As.is _ _ (Sp a b),
      asInt _ _ a b,
      asInt _ _ a b,
      asInt _ _ a b] 20 (by kernel_rfl) rfl (⟨hd0, x3, x4, kp_drew g0⟩) (by simp) (by simp) ?_ (fun _ => World.grownBy.refl _ _) ?_ ?_ ?_
  · intro i' hi' o' ho k' b' hg u w' hR hu
    match i', hi', ho with
    | 0, _, ho => cases ho; cases hg
    | 1, _, ho => cases ho; cases hg
    | 2, _, ho => cases ho; cases hg
    | 3, _, ho => cases ho; cases hg
    | 4, _, ho => cases ho; cases hg
    | 5, _, ho => cases ho; cases hg
    | 6, _, ho => cases ho; cases hg
    | 7, _, ho => cases ho; cases hg
    | n + 8, hi, _ => exact absurd hi (by simp)
  · intro i' hi' hsk; cases hsk
  · intro i' hi' hsk o' ho ev w' hR hc hf hg hs hd
    match i', hi', ho with
    | 0, _, ho =>
      clear hsk
      cases ho
      have e0 : ev (.tmp 0) = .pointer (some ⟨d, 0, none⟩) := hs 0 (by kernel_rfl)
      go_simp
      first | exact ⟨rfl, hR, World.grownBy.refl _ _⟩ | exact ⟨⟨rfl, rfl⟩, hR, World.grownBy.refl _ _⟩ | exact ⟨⟨rfl, fun h => absurd h (by decide)⟩, hR, World.grownBy.refl _ _⟩ | exact ⟨⟨rfl, rfl, fun h => absurd h (by decide)⟩, hR, World.grownBy.refl _ _⟩
    | 1, _, ho =>
      clear hsk
      cases ho
      have e3 : ev (.tmp 3) = .pointer (some ⟨w.heap.size, 0, none⟩) := hs 3 (by kernel_rfl)
      have m4 := hR.2.1.cell
      go_simp
      first | exact ⟨rfl, hR, World.grownBy.refl _ _⟩ | exact ⟨⟨rfl, rfl⟩, hR, World.grownBy.refl _ _⟩ | exact ⟨⟨rfl, fun h => absurd h (by decide)⟩, hR, World.grownBy.refl _ _⟩ | exact ⟨⟨rfl, rfl, fun h => absurd h (by decide)⟩, hR, World.grownBy.refl _ _⟩
    | 2, _, ho =>
      clear hsk
      cases ho
      have e7 : ev (.tmp 7) = .pointer (some ⟨d, 0, none⟩) := hd 0 7 (by kernel_rfl)
      have e8 : ev (.tmp 8) = Sp a b := hd 1 8 (by kernel_rfl)
      go_simp
      refine (of_c d a b _ hR.1 h1 h2 (by omega)).mono ?_
      rintro e w1 ⟨z, rfl, hz1, hz2, hd1, hk1⟩
      first | exact ⟨⟨z, rfl, hz1, hz2⟩, ⟨hd1, hR.2.1.kp hk1 (by omega), hR.2.2.1.kp hk1 (by omega), kp_trans hR.2.2.2 hk1⟩, hk1⟩ | exact ⟨⟨rfl, ⟨z, rfl, hz1, hz2⟩⟩, ⟨hd1, hR.2.1.kp hk1 (by omega), hR.2.2.1.kp hk1 (by omega), kp_trans hR.2.2.2 hk1⟩, hk1⟩ | exact ⟨⟨⟨z, rfl, hz1, hz2⟩, fun h => absurd h (by decide)⟩, ⟨hd1, hR.2.1.kp hk1 (by omega), hR.2.2.1.kp hk1 (by omega), kp_trans hR.2.2.2 hk1⟩, hk1⟩ | exact ⟨⟨rfl, ⟨z, rfl, hz1, hz2⟩, fun h => absurd h (by decide)⟩, ⟨hd1, hR.2.1.kp hk1 (by omega), hR.2.2.1.kp hk1 (by omega), kp_trans hR.2.2.2 hk1⟩, hk1⟩
    | 3, _, ho =>
      clear hsk
      cases ho
      have e0 : ev (.tmp 0) = .pointer (some ⟨d, 0, none⟩) := hs 0 (by kernel_rfl)
      go_simp
      first | exact ⟨rfl, hR, World.grownBy.refl _ _⟩ | exact ⟨⟨rfl, rfl⟩, hR, World.grownBy.refl _ _⟩ | exact ⟨⟨rfl, fun h => absurd h (by decide)⟩, hR, World.grownBy.refl _ _⟩ | exact ⟨⟨rfl, rfl, fun h => absurd h (by decide)⟩, hR, World.grownBy.refl _ _⟩
    | 4, _, ho =>
      clear hsk
      cases ho
      have e3 : ev (.tmp 3) = .pointer (some ⟨w.heap.size, 0, none⟩) := hs 3 (by kernel_rfl)
      have m4 := hR.2.1.cell
      go_simp
      first | exact ⟨rfl, hR, World.grownBy.refl _ _⟩ | exact ⟨⟨rfl, rfl⟩, hR, World.grownBy.refl _ _⟩ | exact ⟨⟨rfl, fun h => absurd h (by decide)⟩, hR, World.grownBy.refl _ _⟩ | exact ⟨⟨rfl, rfl, fun h => absurd h (by decide)⟩, hR, World.grownBy.refl _ _⟩
    | 5, _, ho =>
      clear hsk
      cases ho
      have e10 : ev (.tmp 10) = .pointer (some ⟨d, 0, none⟩) := hd 3 10 (by kernel_rfl)
      have e11 : ev (.tmp 11) = Sp a b := hd 4 11 (by kernel_rfl)
      go_simp
      refine (of_c d a b _ hR.1 h1 h2 (by omega)).mono ?_
      rintro e w1 ⟨z, rfl, hz1, hz2, hd1, hk1⟩
      first | exact ⟨⟨z, rfl, hz1, hz2⟩, ⟨hd1, hR.2.1.kp hk1 (by omega), hR.2.2.1.kp hk1 (by omega), kp_trans hR.2.2.2 hk1⟩, hk1⟩ | exact ⟨⟨rfl, ⟨z, rfl, hz1, hz2⟩⟩, ⟨hd1, hR.2.1.kp hk1 (by omega), hR.2.2.1.kp hk1 (by omega), kp_trans hR.2.2.2 hk1⟩, hk1⟩ | exact ⟨⟨⟨z, rfl, hz1, hz2⟩, fun h => absurd h (by decide)⟩, ⟨hd1, hR.2.1.kp hk1 (by omega), hR.2.2.1.kp hk1 (by omega), kp_trans hR.2.2.2 hk1⟩, hk1⟩ | exact ⟨⟨rfl, ⟨z, rfl, hz1, hz2⟩, fun h => absurd h (by decide)⟩, ⟨hd1, hR.2.1.kp hk1 (by omega), hR.2.2.1.kp hk1 (by omega), kp_trans hR.2.2.2 hk1⟩, hk1⟩
    | 6, _, ho =>
      clear hsk
      cases ho
      obtain ⟨z9, e9, hz91, hz92⟩ : ∃ r' : Int, ev (.tmp 9) = I r' ∧ a ≤ r' ∧ r' ≤ b := hd 2 9 (by kernel_rfl)
      go_simp
      first | exact ⟨⟨z9, rfl, hz91, hz92⟩, hR, World.grownBy.refl _ _⟩ | exact ⟨⟨rfl, ⟨z9, rfl, hz91, hz92⟩⟩, hR, World.grownBy.refl _ _⟩ | exact ⟨⟨⟨z9, rfl, hz91, hz92⟩, fun h => absurd h (by decide)⟩, hR, World.grownBy.refl _ _⟩ | exact ⟨⟨rfl, ⟨z9, rfl, hz91, hz92⟩, fun h => absurd h (by decide)⟩, hR, World.grownBy.refl _ _⟩
    | 7, _, ho =>
      clear hsk
      cases ho
      obtain ⟨z12, e12, hz121, hz122⟩ : ∃ r' : Int, ev (.tmp 12) = I r' ∧ a ≤ r' ∧ r' ≤ b := hd 5 12 (by kernel_rfl)
      go_simp
      first | exact ⟨⟨z12, rfl, hz121, hz122⟩, hR, World.grownBy.refl _ _⟩ | exact ⟨⟨rfl, ⟨z12, rfl, hz121, hz122⟩⟩, hR, World.grownBy.refl _ _⟩ | exact ⟨⟨⟨z12, rfl, hz121, hz122⟩, fun h => absurd h (by decide)⟩, hR, World.grownBy.refl _ _⟩ | exact ⟨⟨rfl, ⟨z12, rfl, hz121, hz122⟩, fun h => absurd h (by decide)⟩, hR, World.grownBy.refl _ _⟩
    | n + 8, hi, _ => exact absurd hi (by simp)
  intro ρ wE hR hρ hne K hK
  obtain ⟨x, p6, hx1, hx2⟩ : ∃ r' : Int, ρ 6 = I r' ∧ a ≤ r' ∧ r' ≤ b := hρ 6 (by simp)
  obtain ⟨y, p7, hy1, hy2⟩ : ∃ r' : Int, ρ 7 = I r' ∧ a ≤ r' ∧ r' ≤ b := hρ 7 (by simp)
  show K (putAll _ _ ρ 8) _
  simp only [putAll, dOf, List.getElem?_toArray, List.getElem?_cons_zero, List.getElem?_cons_succ, Option.bind_some, Act.put, List.setIfInBounds_toArray, List.set_cons_zero, List.set_cons_succ]
  rw [p6, p7]
  refine hK _ _ ?_
  change wpList _ _ _ [] _ _
  clear hK K p6 p7 hρ hne
  obtain ⟨hdE, x3E, x4E, gE⟩ := hR
  have hc4 := x4E.cell
  have hf4 := x4E.free
  have hend : ∀ lo hi : Int, a ≤ lo → lo ≤ hi → hi ≤ b → ∀ W, W = (wE.setCell ⟨w.heap.size + 1, 0, none⟩ (I lo)).setCell ⟨w.heap.size + 1, 1, none⟩ (I hi) → LessPost d a b w (.returned (Sp lo hi)) W ∧ ∀ j, W.cell? ⟨w.heap.size + 1, j, none⟩ = (#[I lo, I hi] : Array Value)[j]? := by
    intro lo hi e1 e2 e3 W hW
    subst hW
    exact ⟨⟨lo, hi, rfl, e1, e2, e3, (hdE.far (p := ⟨w.heap.size + 1, 0, none⟩) (by simp only []; omega) _).far (p := ⟨w.heap.size + 1, 1, none⟩) (by simp only []; omega) _, kp_setNew (kp_setNew gE (by simp only []; omega) _) (by simp only []; omega) _⟩, ((x4E.set_ 0 (I lo)).set_ 1 (I hi)).cell⟩
  rcases Int.lt_trichotomy x y with h | h | h
  · have n1 : ¬ y < x := by omega
    have hh := hend x y (by omega) (by omega) (by omega) _ rfl
    clear hend
    go_wp2
    exact bodyPost_ret (v := Sp x y) (by simp [results, Try.results57, go_sem, hh.2]) rfl hh.1
  · subst h
    have n1 : ¬ x < x := by omega
    have hh := hend x x (by omega) (by omega) (by omega) _ rfl
    clear hend
    go_wp2
    exact bodyPost_ret (v := Sp x x) (by simp [results, Try.results57, go_sem, hh.2]) rfl hh.1
  · have n1 : ¬ x < y := by omega
    have hh := hend y x (by omega) (by omega) (by omega) _ rfl
    clear hend
    go_wp2
    exact bodyPost_ret (v := Sp y x) (by simp [results, Try.results57, go_sem, hh.2]) rfl hh.1

set_option maxHeartbeats 400000 in
theorem inside_c (a b c d : Int) (w : World) (h1 : c ≤ a) (h2 : b ≤ d) :
    Calls Try.prog 58 #[Sp a b, Sp c d] w fun e w' => e = .returned (.bool true) ∧ Below w.heap.size w w' := by
  have x3 := (Bx.new w 27 #[I a, I b]).alloc (.cells #[I c, I d] 27)
  have hc3 := x3.cell
  go_enter Try.func58, Try.ntmps58
  go_wp2
  go_ret
  exact ⟨rfl, ((Below.refl _ _).alloc (Nat.le_refl _) _).alloc (by simp) _⟩
end Go.Proofs.Ytnihkgdkdinliaa
/- Copies of lists and schools, and what compares them. Own work. -/
namespace Go.Proofs.Ytnihkgdkdinliaa
open Go.RowKit
set_option linter.unusedVariables false
set_option linter.unusedSimpArgs false

/-- A number is taken into 0 to n - 1. -/
theorem fit_c (x n : Int) (w : World) (h1 : 1 ≤ n) (h2 : n ≤ 1000000) :
    Calls Try.prog 20 #[I x, I n] w fun e w' => ∃ y : Int, e = .returned (I y) ∧ 0 ≤ y ∧ y < n ∧ Below w.heap.size w w' := by
  by_cases hn : n < 2
  · go_enter Try.func20, Try.ntmps20
    go_wp2
    go_ret
    exact ⟨0, rfl, by omega, by omega, Below.refl _ _⟩
  · have hz : ¬ n = 0 := by omega
    have b1 := Int.lt_tmod_of_pos x (show 0 < n by omega)
    have b2 := Int.tmod_lt_of_pos x (show 0 < n by omega)
    have ew : IntKind.i64.wrap (x.tmod n) = x.tmod n := IntWalk.i64_in _ (by omega)
    by_cases hs : x.tmod n < 0
    · have ew2 : IntKind.i64.wrap (x.tmod n + n) = x.tmod n + n := IntWalk.i64_in _ (by omega)
      go_enter Try.func20, Try.ntmps20
      go_wp2
      go_ret
      exact ⟨_, rfl, by omega, by omega, Below.refl _ _⟩
    · go_enter Try.func20, Try.ntmps20
      go_wp2
      go_ret
      exact ⟨_, rfl, by omega, by omega, Below.refl _ _⟩

/-- A slice without an address is nil. -/
def OkS (A : Option Addr) (n c : Nat) : Prop := A = none → n = 0 ∧ c = 0
theorem sl_add {w : World} {T : TypeId} {a : Addr} {xs : List Value} (h : Sl w T (some a) xs) : ∀ j u, xs[j]? = some u → w.cell? (a.add j) = some u := by
  intro j u hu
  rcases h with rfl | ⟨b, o, cs, fz, hA, hh, hc⟩
  · simp at hu
  · injection hA with hA
    subst hA
    have e : (⟨b, o, none⟩ : Addr).add j = ⟨b, o + j, none⟩ := by unfold Addr.add; split <;> simp_all
    rw [e]
    simp [World.cell?, hh, hc j u hu]

set_option maxHeartbeats 1000000 in
theorem ints2_c (A : Option Addr) (c : Nat) (zs : List Int) (T : TypeId) (w : World) (h1 : SlI w T A zs) (hA : OkS A zs.length c) (hl : zs.length ≤ 1000000) :
    Calls Try.prog 19 #[.slice A zs.length c] w fun e w' => ∃ v, e = .returned v ∧ w'.ownsRow w.heap.size 3 1 v zs.length (zs.map I) ∧ Below w.heap.size w w' := by
  obtain ⟨i0, hi0, hz0, hz1, hz2⟩ := info_parts infoInt
  have hown : (w.alloc (.cells #[] 3)).ownsRow w.heap.size 3 1 (.slice (some ⟨w.heap.size, 0, none⟩) 0 0) 0 [] := World.ownsRow_made (base := w.heap.size) (e := 3) (size := 1) w #[] 0 (by simp) (by decide) rfl
  have hB := (Below.refl w.heap.size w).alloc (Nat.le_refl _) (.cells #[] 3)
  go_enter Try.func19, Try.ntmps19
  cases A with
  | none =>
    obtain ⟨h0, rfl⟩ := hA rfl
    obtain rfl : zs = [] := List.eq_nil_of_length_eq_zero h0
    simp only [List.length_nil, List.map_nil] at *
    go_wp2_with (at_builtin; refine wpList_append_own_none rfl _ _ 25 rfl w.heap.size 3 i0 1 Try.underlying25 hi0 _ 0 [] rfl hown rfl ?_)
    go_ret
    exact ⟨_, rfl, hown, hB⟩
  | some ad =>
    have hnews := sl_add (h1.alloc (.cells #[] 3))
    go_wp2_with (at_builtin; refine wpList_append_own _ rfl _ _ 25 rfl w.heap.size 3 i0 _ 1 8 Try.underlying25 hi0 hz0 hz1 hz2 rfl (by decide) _ _ _ rfl hown ad zs.length c (zs.map I) rfl ?c1 ?c2 ?c3 ?c4 ?c5 ?c6 ?_)
    case c1 => simp
    case c2 => exact hnews
    case c3 => intro u hu; obtain ⟨z, _, rfl⟩ := List.mem_map.1 hu; rfl
    case c4 => unfold maxLen; omega
    case c5 => omega
    case c6 => simp
    intro V' w7 hown7 hgr7 _
    have hB7 := below_own hB hown (Nat.le_refl _) (by simp) hgr7
    (try simp only [List.nil_append, Nat.zero_add] at hown7)
    go_wp2
    go_ret
    exact ⟨_, rfl, hown7, hB7⟩

set_option maxRecDepth 100000 in
set_option maxHeartbeats 1000000 in
theorem ownSchool2_c (r : Int) (A : Option Addr) (c : Nat) (ws : List Wg) (T : TypeId) (w : World) (h1 : SlW w T A ws) (hA : OkS A ws.length c) (h8 : ws.length ≤ 1000000) :
    Calls Try.prog 18 #[.agg #[I r, .slice A ws.length c]] w fun e w' => ∃ v, e = .returned (.agg #[I r, v]) ∧ w'.ownsRow w.heap.size 29 4 v ws.length (ws.flatMap Wg.cells) ∧ Below w.heap.size w w' := by
  have x1 := (Bx.new w 24 #[I r, .slice A ws.length c]).alloc (.cells #[I 0, .slice none 0 0] 24)
  have x2 := Bx.new' (w.alloc (.cells #[I r, .slice A ws.length c] 24)) 24 #[I 0, .slice none 0 0] (w.heap.size + 1) (by simp)
  have hW := ((Below.refl w.heap.size w).alloc (Nat.le_refl _) (.cells #[I r, .slice A ws.length c] 24)).alloc (by simp) (.cells #[I 0, .slice none 0 0] 24)
  have hc1 := x1.cell
  go_enter Try.func18, Try.ntmps18
  obtain ⟨i0, hi0, hz0, hz1, hz2⟩ := info_parts infoWing
  have hsz : ((w.alloc (.cells #[I r, .slice A ws.length c] 24)).alloc (.cells #[I 0, .slice none 0 0] 24)).heap.size = w.heap.size + 2 := by simp
  have hown : (((w.alloc (.cells #[I r, .slice A ws.length c] 24)).alloc (.cells #[I 0, .slice none 0 0] 24)).alloc (.cells #[] 29)).ownsRow (w.heap.size + 2) 29 4 (.slice (some ⟨w.heap.size + 2, 0, none⟩) 0 0) 0 [] := by
    have := World.ownsRow_made (base := w.heap.size + 2) (e := 29) (size := 4) ((w.alloc (.cells #[I r, .slice A ws.length c] 24)).alloc (.cells #[I 0, .slice none 0 0] 24)) #[] 0 (by simp) (by decide) rfl
    rwa [hsz] at this
  have hnn := (((h1.alloc (.cells #[I r, .slice A ws.length c] 24)).alloc (.cells #[I 0, .slice none 0 0] 24)).alloc (.cells #[] 29))
  cases A with
  | none =>
    obtain ⟨h0, rfl⟩ := hA rfl
    obtain rfl : ws = [] := List.eq_nil_of_length_eq_zero h0
    simp only [List.length_nil, List.flatMap_nil] at *
    go_wp2_with (at_builtin; refine wpList_append_own_none rfl _ _ 22 rfl (w.heap.size + 2) 29 i0 4 Try.underlying22 hi0 _ 0 [] rfl hown rfl ?_)
    have hc1 := (x1.alloc (.cells #[] 29)).cell
    have hf1 := (x1.alloc (.cells #[] 29)).free
    have hc2 := (x2.alloc (.cells #[] 29)).cell
    have hf2 := (x2.alloc (.cells #[] 29)).free
    have y3 := ((x2.alloc (.cells #[] 29)).far (p := ⟨w.heap.size, 1, none⟩) (by simp only []; omega) (.slice (some ⟨w.heap.size + 2, 0, none⟩) 0 0))
    have y4 := (y3.set_ 0 (I r)).set_ 1 (.slice (some ⟨w.heap.size + 2, 0, none⟩) 0 0)
    have hce := y4.cell
    have hmk := fun X Y : Obj => World.ownsRow_made (base := w.heap.size) (e := 29) (size := 4) ((w.alloc X).alloc Y) #[] 0 (by simp; omega) (by decide) rfl
    clear hown hnn
    go_wp2
    refine bodyPost_ret (v := .agg #[I r, .slice (some ⟨w.heap.size + 2, 0, none⟩) 0 0]) (by simp [results, Try.results18, go_sem, hce]) rfl ⟨_, rfl, by simpa using hmk _ _, (((Below.refl _ _).alloc (Nat.le_refl _) _).alloc (by simp) _).alloc (by simp; omega) _⟩
  | some ad =>
    have hnews := sl_add hnn
    go_wp2_with (at_builtin; refine wpList_append_own _ rfl _ _ 22 rfl (w.heap.size + 2) 29 i0 _ 4 40 Try.underlying22 hi0 hz0 hz1 hz2 rfl (by decide) _ _ _ rfl hown ad ws.length c (ws.flatMap Wg.cells) rfl ?c1 ?c2 ?c3 ?c4 ?c5 ?c6 ?_)
    case c1 => rw [length_wings]; omega
    case c2 => exact hnews
    case c3 => intro u hu; obtain ⟨g, _, hg⟩ := List.mem_flatMap.1 hu; simp [Wg.cells] at hg; rcases hg with rfl | rfl | rfl | rfl <;> rfl
    case c4 => unfold maxLen; omega
    case c5 => omega
    case c6 => simp
    intro V' w7 hown7 hgr7 hnil
    (try simp only [List.nil_append, Nat.zero_add] at hown7)
    have hB7 := below_own (hW.alloc (by simp; omega) (.cells #[] 29)) hown (by omega) (by simp; omega) hgr7
    have y1 := (x1.alloc (.cells #[] 29)).grown hgr7 (by simp [Value.ownBlock])
    have y2 := (x2.alloc (.cells #[] 29)).grown hgr7 (by simp [Value.ownBlock])
    obtain ⟨A', cap, rfl, _, _⟩ := Sl.ofOwn2 hown7
    have hkeep : ∀ u1 u2 u3 : Value, (((w7.setCell ⟨w.heap.size, 1, none⟩ u1).setCell ⟨w.heap.size + 1, 0, none⟩ u2).setCell ⟨w.heap.size + 1, 1, none⟩ u3).ownsRow w.heap.size 29 4 (.slice A' ws.length cap) ws.length (ws.flatMap Wg.cells) := by
      intro u1 u2 u3
      refine ⟨hown7.1, ?_⟩
      rcases hown7.2 with h | ⟨g, cp, cur, e, hg, hh, rest⟩
      · exact .inl h
      · exact .inr ⟨g, cp, cur, e, by omega, by rw [Below.heap_setCell _ _ _ _ (by simp only []; omega), Below.heap_setCell _ _ _ _ (by simp only []; omega), Below.heap_setCell _ _ _ _ (by simp only []; omega)]; exact hh, rest⟩
    clear hown hown7 hW hc1 hnn x1 x2 hsz hgr7 hnews hnil
    have hc1 := y1.cell
    have hf1 := y1.free
    have hc2 := y2.cell
    have hf2 := y2.free
    have y3 := (y2.far (p := ⟨w.heap.size, 1, none⟩) (by simp only []; omega) (.slice A' ws.length cap))
    have y4 := (y3.set_ 0 (I r)).set_ 1 (.slice A' ws.length cap)
    have hce := y4.cell
    go_wp2
    refine bodyPost_ret (v := .agg #[I r, .slice A' ws.length cap]) (by simp [results, Try.results18, go_sem, hce]) rfl ⟨_, rfl, hkeep _ _ _, ?_⟩
    exact ((hB7.setCell (p := ⟨w.heap.size, 1, none⟩) (Nat.le_refl _) _).setCell (p := ⟨w.heap.size + 1, 0, none⟩) (by simp only []; omega) _).setCell (p := ⟨w.heap.size + 1, 1, none⟩) (by simp only []; omega) _

set_option maxRecDepth 100000 in
set_option maxHeartbeats 1000000 in
theorem eqSchools_c (r : Int) (A B : Option Addr) (c d : Nat) (ws : List Wg) (T T' : TypeId) (w : World) (h1 : SlW w T A ws) (h2 : SlW w T' B ws) (hl : ws.length ≤ 1000000) :
    Calls Try.prog 28 #[.agg #[I r, .slice A ws.length c], .agg #[I r, .slice B ws.length d]] w fun e w' => e = .returned (.bool true) ∧ Below w.heap.size w w' := by
  have x0 := (Bx.new w 24 #[I r, .slice A ws.length c]).alloc (.cells #[I r, .slice B ws.length d] 24)
  have y0 := Bx.new' (w.alloc (.cells #[I r, .slice A ws.length c] 24)) 24 #[I r, .slice B ws.length d] (w.heap.size + 1) (by simp)
  have hB0 := ((Below.refl w.heap.size w).alloc (Nat.le_refl _) (.cells #[I r, .slice A ws.length c] 24)).alloc (by simp) (.cells #[I r, .slice B ws.length d] 24)
  have hcx := x0.cell
  have hcy := y0.cell
  go_enter Try.func28, Try.ntmps28
  go_wp2
  clear hcx hcy
  go_loopw [5] (fun i wr => ∃ k : Nat, i = .int .i64 k ∧ k ≤ ws.length ∧ Below w.heap.size w wr ∧ Bx wr w.heap.size 24 #[I r, .slice A ws.length c] ∧ Bx wr (w.heap.size + 1) 24 #[I r, .slice B ws.length d]) (fun i _ => ws.length - (intOf i).toNat)
  case atStart => exact ⟨0, rfl, by omega, hB0, x0, y0⟩
  case round =>
    obtain ⟨k, rfl, hk, hbel, hx, hy⟩ := hrel
    have hcx := hx.cell
    have hcy := hy.cell
    by_cases hlt : k < ws.length
    · obtain ⟨b1, o1, rfl, _⟩ := SlW.some_ h1 hlt
      obtain ⟨b2, o2, rfl, _⟩ := SlW.some_ h2 hlt
      go_wp2_with fail
      refine wp_region_list_s (by kernel_rfl) (R := RB wr.heap.size wr) (F := FB) [] [] []
          [As.is _ _ (.pointer (some ⟨w.heap.size, 1, none⟩)),
          As.is _ _ (.slice (some ⟨b1, o1, none⟩) ws.length c),
          As.is _ _ (I (k : Int)),
          As.is _ _ (.pointer (some ⟨b1, o1 + k * 4, none⟩)),
          As.is _ _ (.agg #[.string (gW ws k).name, I (gW ws k).len, I (gW ws k).lo, I (gW ws k).hi]),
          As.is _ _ (.pointer (some ⟨w.heap.size + 1, 1, none⟩)),
          As.is _ _ (.slice (some ⟨b2, o2, none⟩) ws.length d),
          As.is _ _ (I (k : Int)),
          As.is _ _ (.pointer (some ⟨b2, o2 + k * 4, none⟩)),
          As.is _ _ (.agg #[.string (gW ws k).name, I (gW ws k).len, I (gW ws k).lo, I (gW ws k).hi]),
          As.is _ _ (.bool false)] 38 (by kernel_rfl) rfl ((Below.refl _ _).drew) (by simp) (by simp) ?_ (fun _ => Below.refl _ _) ?_ ?_ ?_
      · intro i' hi' o' ho k' b' hg u w' hR hu
        match i', hi', ho with
        | 0, _, ho => cases ho; cases hg
        | 1, _, ho => cases ho; cases hg
        | 2, _, ho => cases ho; cases hg
        | 3, _, ho => cases ho; cases hg
        | 4, _, ho => cases ho; cases hg
        | 5, _, ho => cases ho; cases hg
        | 6, _, ho => cases ho; cases hg
        | 7, _, ho => cases ho; cases hg
        | 8, _, ho => cases ho; cases hg
        | 9, _, ho => cases ho; cases hg
        | 10, _, ho => cases ho; cases hg
        | n + 11, hi, _ => exact absurd hi (by simp)
      · intro i' hi' hsk; cases hsk
      · intro i' hi' hsk o' ho ev w' hR hc hf hg hs hd
        match i', hi', ho with
        | 0, _, ho =>
          clear hsk
          cases ho
          have e2 : ev (.tmp 2) = .pointer (some ⟨w.heap.size, 0, none⟩) := hs 2 (by kernel_rfl)
          go_simp
          first | exact ⟨rfl, hR, Below.refl _ _⟩ | exact ⟨⟨rfl, rfl⟩, hR, Below.refl _ _⟩ | exact ⟨⟨rfl, fun h => absurd h (by decide)⟩, hR, Below.refl _ _⟩ | exact ⟨⟨rfl, rfl, fun h => absurd h (by decide)⟩, hR, Below.refl _ _⟩
        | 1, _, ho =>
          clear hsk
          cases ho
          have e27 : ev (.tmp 27) = .pointer (some ⟨w.heap.size, 1, none⟩) := hd 0 27 (by kernel_rfl)
          have m2 := (hx.below hR hx.lt).cell
          go_simp
          first | exact ⟨rfl, hR, Below.refl _ _⟩ | exact ⟨⟨rfl, rfl⟩, hR, Below.refl _ _⟩ | exact ⟨⟨rfl, fun h => absurd h (by decide)⟩, hR, Below.refl _ _⟩ | exact ⟨⟨rfl, rfl, fun h => absurd h (by decide)⟩, hR, Below.refl _ _⟩
        | 2, _, ho =>
          clear hsk
          cases ho
          have e5 : ev (.tmp 5) = I (k : Int) := hs 5 (by kernel_rfl)
          go_simp
          first | exact ⟨rfl, hR, Below.refl _ _⟩ | exact ⟨⟨rfl, rfl⟩, hR, Below.refl _ _⟩ | exact ⟨⟨rfl, fun h => absurd h (by decide)⟩, hR, Below.refl _ _⟩ | exact ⟨⟨rfl, rfl, fun h => absurd h (by decide)⟩, hR, Below.refl _ _⟩
        | 3, _, ho =>
          clear hsk
          cases ho
          have e28 : ev (.tmp 28) = .slice (some ⟨b1, o1, none⟩) ws.length c := hd 1 28 (by kernel_rfl)
          have e29 : ev (.tmp 29) = I (k : Int) := hd 2 29 (by kernel_rfl)
          have hkl : (k : Int) < (ws.length : Int) := by omega
          go_simp
          first | exact ⟨rfl, hR, Below.refl _ _⟩ | exact ⟨⟨rfl, rfl⟩, hR, Below.refl _ _⟩ | exact ⟨⟨rfl, fun h => absurd h (by decide)⟩, hR, Below.refl _ _⟩ | exact ⟨⟨rfl, rfl, fun h => absurd h (by decide)⟩, hR, Below.refl _ _⟩
        | 4, _, ho =>
          clear hsk
          cases ho
          have e30 : ev (.tmp 30) = .pointer (some ⟨b1, o1 + k * 4, none⟩) := hd 3 30 (by kernel_rfl)
          obtain ⟨m4, m5, m6, m7⟩ := SlW.cellG (h1.below (hbel.trans (hR.mono hbel.size)) (Nat.le_refl _)) hlt
          go_simp
          first | exact ⟨rfl, hR, Below.refl _ _⟩ | exact ⟨⟨rfl, rfl⟩, hR, Below.refl _ _⟩ | exact ⟨⟨rfl, fun h => absurd h (by decide)⟩, hR, Below.refl _ _⟩ | exact ⟨⟨rfl, rfl, fun h => absurd h (by decide)⟩, hR, Below.refl _ _⟩
        | 5, _, ho =>
          clear hsk
          cases ho
          have e3 : ev (.tmp 3) = .pointer (some ⟨w.heap.size + 1, 0, none⟩) := hs 3 (by kernel_rfl)
          go_simp
          first | exact ⟨rfl, hR, Below.refl _ _⟩ | exact ⟨⟨rfl, rfl⟩, hR, Below.refl _ _⟩ | exact ⟨⟨rfl, fun h => absurd h (by decide)⟩, hR, Below.refl _ _⟩ | exact ⟨⟨rfl, rfl, fun h => absurd h (by decide)⟩, hR, Below.refl _ _⟩
        | 6, _, ho =>
          clear hsk
          cases ho
          have e32 : ev (.tmp 32) = .pointer (some ⟨w.heap.size + 1, 1, none⟩) := hd 5 32 (by kernel_rfl)
          have m3 := (hy.below hR hy.lt).cell
          go_simp
          first | exact ⟨rfl, hR, Below.refl _ _⟩ | exact ⟨⟨rfl, rfl⟩, hR, Below.refl _ _⟩ | exact ⟨⟨rfl, fun h => absurd h (by decide)⟩, hR, Below.refl _ _⟩ | exact ⟨⟨rfl, rfl, fun h => absurd h (by decide)⟩, hR, Below.refl _ _⟩
        | 7, _, ho =>
          clear hsk
          cases ho
          have e5 : ev (.tmp 5) = I (k : Int) := hs 5 (by kernel_rfl)
          go_simp
          first | exact ⟨rfl, hR, Below.refl _ _⟩ | exact ⟨⟨rfl, rfl⟩, hR, Below.refl _ _⟩ | exact ⟨⟨rfl, fun h => absurd h (by decide)⟩, hR, Below.refl _ _⟩ | exact ⟨⟨rfl, rfl, fun h => absurd h (by decide)⟩, hR, Below.refl _ _⟩
        | 8, _, ho =>
          clear hsk
          cases ho
          have e33 : ev (.tmp 33) = .slice (some ⟨b2, o2, none⟩) ws.length d := hd 6 33 (by kernel_rfl)
          have e34 : ev (.tmp 34) = I (k : Int) := hd 7 34 (by kernel_rfl)
          have hkl : (k : Int) < (ws.length : Int) := by omega
          go_simp
          first | exact ⟨rfl, hR, Below.refl _ _⟩ | exact ⟨⟨rfl, rfl⟩, hR, Below.refl _ _⟩ | exact ⟨⟨rfl, fun h => absurd h (by decide)⟩, hR, Below.refl _ _⟩ | exact ⟨⟨rfl, rfl, fun h => absurd h (by decide)⟩, hR, Below.refl _ _⟩
        | 9, _, ho =>
          clear hsk
          cases ho
          have e35 : ev (.tmp 35) = .pointer (some ⟨b2, o2 + k * 4, none⟩) := hd 8 35 (by kernel_rfl)
          obtain ⟨m4, m5, m6, m7⟩ := SlW.cellG (h2.below (hbel.trans (hR.mono hbel.size)) (Nat.le_refl _)) hlt
          go_simp
          first | exact ⟨rfl, hR, Below.refl _ _⟩ | exact ⟨⟨rfl, rfl⟩, hR, Below.refl _ _⟩ | exact ⟨⟨rfl, fun h => absurd h (by decide)⟩, hR, Below.refl _ _⟩ | exact ⟨⟨rfl, rfl, fun h => absurd h (by decide)⟩, hR, Below.refl _ _⟩
        | 10, _, ho =>
          clear hsk
          cases ho
          have e31 : ev (.tmp 31) = .agg #[.string (gW ws k).name, I (gW ws k).len, I (gW ws k).lo, I (gW ws k).hi] := hd 4 31 (by kernel_rfl)
          have e36 : ev (.tmp 36) = .agg #[.string (gW ws k).name, I (gW ws k).len, I (gW ws k).lo, I (gW ws k).hi] := hd 9 36 (by kernel_rfl)
          go_simp
          first | exact ⟨rfl, hR, Below.refl _ _⟩ | exact ⟨⟨rfl, rfl⟩, hR, Below.refl _ _⟩ | exact ⟨⟨rfl, fun h => absurd h (by decide)⟩, hR, Below.refl _ _⟩ | exact ⟨⟨rfl, rfl, fun h => absurd h (by decide)⟩, hR, Below.refl _ _⟩
        | n + 11, hi, _ => exact absurd hi (by simp)
      intro ρ wE hR hρ hne K hK
      have p10 : ρ 10 = .bool false := hρ 10 (by simp)
      show K (putAll _ _ ρ 11) _
      simp only [putAll, dOf, List.getElem?_toArray, List.getElem?_cons_zero, List.getElem?_cons_succ, Option.bind_some, Act.put, List.setIfInBounds_toArray, List.set_cons_zero, List.set_cons_succ]
      rw [p10]
      refine hK _ _ ?_
      change wpList _ _ _ [] _ _
      have hb' := hbel.trans (hR.mono hbel.size)
      have hx' := hx.below hR hx.lt
      have hy' := hy.below hR hy.lt
      clear hcx hcy hx hy hK K p10 hρ hne hR hbel
      go_wp2
      go_roundw
      case rel => exact ⟨k + 1, by go_num, by omega, hb', hx', hy'⟩
      case measure => simp [intOf]; omega
    · go_wp2
      go_ret
      exact ⟨rfl, hbel⟩
end Go.Proofs.Ytnihkgdkdinliaa
