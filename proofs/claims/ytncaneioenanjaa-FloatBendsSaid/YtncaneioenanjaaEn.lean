/- The engine, part 14: a region that draws its order comes to what its operations come to in the text's order. Own work; imports no translation. -/
import Derived.Test.YtncaneioenanjaaEm
namespace Go.Proofs.Ytncaneioenanjaa
open Go.RowKit
set_option linter.unusedVariables false
set_option linter.unusedSimpArgs false

theorem tail_anyD {P : Program} {ops : Array Oper} {xs : List AOper} {Q : Exit → Act → World → Prop} {m : Nat} (hok : okD ops xs m = true) :
    ∀ (r k : Nat) (listed : Array Bool) (a : Act) (w : World), k + r = ops.size → m ≤ k → listed.size = ops.size →
      (∀ i, i < k → listed.getD i true = true) → (∀ i, k ≤ i → i < ops.size → listed.getD i true = false) →
      wpOps P ops Q (List.range' k r) a w → wpAny P .any ops Q r listed a w := by
  obtain ⟨_, _, _, hsp⟩ := okD_spec hok
  intro r
  induction r with
  | zero =>
    intro k listed a w hk hm hs h1 h2 h
    refine ⟨?_, by simpa [wpOps] using h⟩
    apply List.eq_nil_iff_forall_not_mem.2
    intro j hj
    obtain ⟨hj1, o, ho, _⟩ := ready_iff.1 hj
    have hjn : j < ops.size := (Array.getElem?_eq_some_iff.1 ho).1
    rw [h1 j (by omega)] at hj1
    cases hj1
  | succ r ih =>
    intro k listed a w hk hm hs h1 h2 h
    obtain ⟨o, x, ho, hx, hlt, _, _, _⟩ := hsp k (by omega)
    have hready : ∀ j, j ∈ Region.ready .any ops listed ↔ j = k := by
      intro j
      rw [ready_iff]
      constructor
      · rintro ⟨hj1, oj, hoj, hall⟩
        have hjn : j < ops.size := (Array.getElem?_eq_some_iff.1 hoj).1
        by_cases hjk : j < k
        · rw [h1 j hjk] at hj1; cases hj1
        · by_cases he : j = k
          · exact he
          · obtain ⟨oj', xj, hoj', _, _, _, _, haf⟩ := hsp j hjn
            rw [hoj] at hoj'
            cases hoj'
            have h3 := hall (j - 1) (haf (by omega))
            have h4 := h2 (j - 1) (by omega) (by omega)
            have hkn : j - 1 < listed.size := by omega
            simp [hkn] at h3 h4
            rw [h3] at h4
            cases h4
      · rintro rfl
        refine ⟨h2 j (Nat.le_refl _) (by omega), o, ho, fun i hi => ?_⟩
        have h3 := h1 i (hlt i hi)
        have hin : i < listed.size := by have := hlt i hi; omega
        simp [hin] at h3 ⊢
        exact h3
    have hsub : ∀ i, i ∈ Region.ready .any ops listed → wpOp P ops Q i (wpAny P .any ops Q r (listed.setIfInBounds i true)) a w := by
      intro i hi
      have hik := (hready i).1 hi
      subst hik
      rw [List.range'_succ, wpOps_cons] at h
      refine wpOp_mono (fun a' w' h' => ih (i + 1) _ a' w' (by omega) (by omega) (by simp [hs]) (fun j hj => ?_) (fun j hj hjn => ?_) h') h
      · by_cases hji : j = i
        · subst hji
          have : j < listed.size := by omega
          simp [Array.getElem?_setIfInBounds, this]
        · have hne : i ≠ j := fun e => hji e.symm
          have := h1 j (by omega)
          simpa [Array.getElem?_setIfInBounds_ne hne] using this
      · have hne : i ≠ j := by omega
        have := h2 j (by omega) hjn
        simpa [Array.getElem?_setIfInBounds_ne hne] using this
    exact ⟨fun he => (by have := (hready k).2 rfl; rw [he] at this; cases this), hsub⟩

theorem mapM_at {α β : Type} {f : α → Option β} : ∀ {l : List α} {m : List β}, l.mapM f = some m → ∀ (i : Nat) x y, l[i]? = some x → m[i]? = some y → f x = some y := by
  intro l m h i x y hx hy
  obtain ⟨x', hx', hf⟩ := (mapM_get h).2 i y hy
  rw [hx] at hx'; cases hx'; exact hf

theorem putA_getD_ne (a : List AV) (d : Option Nat) (v : AV) (t : Nat) (h : d ≠ some t) : (putA a d v).getD t .junk = a.getD t .junk := by
  cases d with
  | none => rfl
  | some d =>
    have : d ≠ t := fun e => h (by rw [e])
    simp only [putA, List.getD]
    rw [List.getElem?_set_ne this]
theorem putA_getD_same (a : List AV) (d : Nat) (v : AV) (h : d < a.length) : (putA a (some d) v).getD d .junk = v := by
  simp only [putA, List.getD]
  rw [List.getElem?_set_self h]
  rfl
theorem putA_length (a : List AV) (d : Option Nat) (v : AV) : (putA a d v).length = a.length := by cases d <;> simp [putA]

section
variable {P : Program} {orc : Clr} {ops : Array Oper} {xs : List AOper} {Q : Exit → Act → World → Prop} {m : Nat} {a a1 : List AV} {v : Nat → AV} {st : Nat → St} {eff : Nat → Bool} {bid tid : Nat → Option Nat} {G0 : Gh} {S0 : St} {w0 : World} {act0 : Act}

theorem draw_any (ho : ClrOk P orc) (hok : okD ops xs m = true) (hc : ops.toList.mapM (compOper P ops) = some xs) (hlen : a1.length = a.length)
    (h1 : ∀ i, i < m → ∀ t, dO xs i = some t → t < a.length ∧ a1.getD t .junk = v i)
    (h0 : ∀ t, (∀ i, i < m → dO xs i ≠ some t) → a1.getD t .junk = a.getD t .junk)
    (am : Nat → List AV) (ham : ∀ i, i < m → ∀ t, ((∀ k, k < i → dO xs k ≠ some t) → (am i).getD t .junk = a.getD t .junk) ∧ ((∃ k, k < i ∧ dO xs k = some t) → (am i).getD t .junk = a1.getD t .junk))
    (hF : ∀ i, i < m → ∀ x, xs[i]? = some x → OpFact orc a1 (am i) st (lvl eff m) (lvl eff i) x (v i) (eff i) (bid i) (tid i))
    (hE : ∀ i, i < m → eff i = true → isLoud ops i = true)
    (hb : ∀ i j id, i < m → j < m → bid i = some id → bid j = some id → i = j)
    (ht : ∀ i j id, i < m → j < m → tid i = some id → tid j = some id → i = j)
    (hbn : ∀ i id, i < m → bid i = some id → S0.bx.length ≤ id) (htnn : ∀ i id, i < m → tid i = some id → S0.lv.length ≤ id)
    (hend : ∀ G act w, Inv G (st (lvl eff m)) w → Rel G a1 act → Gro G0 S0 w0 G (st (lvl eff m)) w → Keep G0 S0 G (st (lvl eff m)) → act.defers = act0.defers → wpOps P ops Q (List.range' m (ops.size - m)) act w) :
    ∀ (fuel : Nat) (listed : Array Bool) (act : Act) (w : World), fuel = toCome ops.size listed → listed.size = ops.size → (∃ G aD, Mid ops xs m a v st eff bid tid G0 S0 w0 act0 listed act w G aD) →
      (∀ k, m ≤ k → k < ops.size → listed.getD k true = false) →
      (∀ i, listed.getD i false = true → ∀ o, ops[i]? = some o → ∀ k ∈ aftOf o, listed.getD k false = true) →
      wpAny P .any ops Q fuel listed act w := by
  obtain ⟨_, hm, hxl, hsp⟩ := okD_spec hok
  have hfinal : ∀ (listed : Array Bool) (act : Act) (w : World), (∀ i, i < m → listed.getD i true = true) → (∃ G aD, Mid ops xs m a v st eff bid tid G0 S0 w0 act0 listed act w G aD) → wpOps P ops Q (List.range' m (ops.size - m)) act w := by
    rintro listed act w hall ⟨G, aD, M⟩
    have hcnt : cnt eff m listed = lvl eff m := by
      unfold cnt lvl
      congr 1
      apply List.filter_congr
      intro i hi
      rw [hall i (List.mem_range.1 hi)]
      simp
    have haD : aD = a1 := getD_ext (by rw [M.len, hlen]) fun t => by
      by_cases hex : ∃ i, i < m ∧ dO xs i = some t
      · obtain ⟨i, hi, hd⟩ := hex
        rw [M.done i hi (hall i hi) t hd, (h1 i hi t hd).2]
      · have hno : ∀ i, i < m → dO xs i ≠ some t := fun i hi he => hex ⟨i, hi, he⟩
        rw [M.rest t fun i hi _ => hno i hi, h0 t hno]
    have hi := M.inv
    have hg := M.gro
    have hk := M.keep
    rw [hcnt] at hi hg hk
    exact hend G act w hi (haD ▸ M.rel) hg hk M.def_
  intro fuel
  induction fuel with
  | zero =>
    intro listed act w hf hs hM h3 h4
    have hall : ∀ i, i < ops.size → listed.getD i true = true := by
      intro i hi
      cases hl : listed.getD i true with
      | true => rfl
      | false => have := toCome_pos hi hl; omega
    have hmn : m = ops.size := by
      rcases Nat.lt_or_ge m ops.size with h | h
      · have := hall m h
        rw [h3 m (Nat.le_refl _) h] at this
        cases this
      · omega
    have hfin := hfinal listed act w (fun i hi => hall i (by omega)) hM
    have hr : ops.size - m = 0 := by omega
    rw [hr] at hfin
    refine ⟨?_, by simpa [wpOps] using hfin⟩
    apply List.eq_nil_iff_forall_not_mem.2
    intro j hj
    obtain ⟨hj1, o, ho, _⟩ := ready_iff.1 hj
    have hjn : j < ops.size := (Array.getElem?_eq_some_iff.1 ho).1
    rw [hall j hjn] at hj1
    cases hj1
  | succ fuel ih =>
    intro listed act w hf hs hM h3 h4
    by_cases hall : ∀ i, i < m → listed.getD i true = true
    · have hfin := hfinal listed act w hall hM
      have hcount : toCome ops.size listed = ops.size - m := by
        unfold toCome
        have : (List.range ops.size).filter (fun i => !listed.getD i true) = List.range' m (ops.size - m) := by
          have e0 : List.range ops.size = List.range m ++ List.range' m (ops.size - m) := by
            have e := List.range'_append (s := 0) (m := m) (n := ops.size - m) (step := 1)
            rw [Nat.zero_add, Nat.one_mul] at e
            rw [List.range_eq_range', List.range_eq_range', e]
            congr 1
            omega
          rw [e0, List.filter_append]
          have e1 : (List.range m).filter (fun i => !listed.getD i true) = [] := by
            apply List.filter_eq_nil_iff.2
            intro i hi
            rw [hall i (List.mem_range.1 hi)]
            decide
          have e2 : (List.range' m (ops.size - m)).filter (fun i => !listed.getD i true) = List.range' m (ops.size - m) := by
            apply List.filter_eq_self.2
            intro i hi
            have := List.mem_range'_1.1 hi
            rw [h3 i (by omega) (by omega)]
            decide
          rw [e1, e2, List.nil_append]
        rw [this, List.length_range']
      rw [hf, hcount]
      exact tail_anyD hok (ops.size - m) m listed act w (by omega) (Nat.le_refl _) hs hall h3 hfin
    · have hne : ∃ i, i < m ∧ listed.getD i true = false := by
        simp only [Classical.not_forall] at hall
        obtain ⟨i, hi, h⟩ := hall
        exact ⟨i, hi, by simpa using h⟩
      obtain ⟨i0, hi0, hl0⟩ := hne
      obtain ⟨j0, hj0⟩ := some_ready hs (fun i hi => by obtain ⟨o, x, ho, _, h, _⟩ := hsp i hi; exact ⟨o, ho, h⟩) i0 (by omega) hl0
      refine ⟨fun he => (by rw [he] at hj0; cases hj0), fun i hi => ?_⟩
      obtain ⟨hli, o, hoi, hall'⟩ := ready_iff.1 hi
      have hin : i < ops.size := (Array.getElem?_eq_some_iff.1 hoi).1
      obtain ⟨o', x, ho', hx, hlt, hmain, haft, haft'⟩ := hsp i hin
      rw [hoi] at ho'
      cases ho'
      have him : i < m := by
        rcases Nat.lt_or_ge i m with h | h
        · exact h
        · exfalso
          rcases Nat.lt_or_ge m i with hlt' | hge'
          · have h5 := hall' (i - 1) (haft' hlt')
            have h6 := h3 (i - 1) (by omega) (by omega)
            have : i - 1 < listed.size := by omega
            simp [this] at h5 h6
            rw [h5] at h6
            cases h6
          · have him' : m = i := by omega
            have hdown : ∀ r k, k + r = m → k < m → listed.getD k false = true := by
              intro r
              induction r using Nat.strongRecOn with
              | ind r ihr =>
                intro k hk hkm
                obtain ⟨s, os, hs1, hs2, hos, hks⟩ := haft him' k hkm
                rcases Nat.lt_or_ge s m with hsm | hsm
                · exact h4 s (ihr (m - s) (by omega) s (by omega) hsm) os hos k hks
                · have : s = i := by omega
                  subst this
                  rw [hoi] at hos
                  cases hos
                  exact hall' k hks
            have h5 := hdown (m - i0) i0 (by omega) hi0
            have : i0 < listed.size := by omega
            simp [this] at h5 hl0
            rw [h5] at hl0
            cases hl0
      obtain ⟨hdist, hgd, hlook, hlch, _⟩ := hmain him
      obtain ⟨G, aD, M⟩ := hM
      have hcomp : compOper P ops o = some x := mapM_at hc i o x (by simpa using hoi) hx
      obtain ⟨hcop, hdst, _⟩ := compOper_ok hcomp
      have hdO : dO xs i = x.dst := by simp [dO, hx]
      have hgt : ∀ k, k < ops.size → listed.getD k false = true → listed.getD k true = true := fun k hk h => by
        have hks : k < listed.size := by omega
        simp [hks] at h ⊢; exact h
      -- what it reads is what it will be
      have hagree : ∀ t, (∀ k, k < m → dO xs k = some t → k ∈ aftOf o) → aD.getD t .junk = a1.getD t .junk := by
        intro t hw
        by_cases hex : ∃ k, k < m ∧ dO xs k = some t
        · obtain ⟨k, hk, hd⟩ := hex
          have hkl := hgt k (by omega) (hall' k (hw k hk hd))
          rw [M.done k hk hkl t hd, (h1 k hk t hd).2]
        · have hno : ∀ k, k < m → dO xs k ≠ some t := fun k hk he => hex ⟨k, hk, he⟩
          rw [M.rest t fun k hk _ => hno k hk, h0 t hno]
      have hopd : ∀ y ∈ x.op.opds, evd aD y = evd (am i) y := by
        intro y hy
        cases y with
        | con z => rfl
        | tmp t =>
          show aD.getD t .junk = (am i).getD t .junk
          by_cases hex : ∃ k, k < m ∧ dO xs k = some t
          · obtain ⟨k, hk, hd⟩ := hex
            rcases hlook t hy k hk hd with hka | ⟨ok, hok', hka⟩
            · have hkl := hgt k (by omega) (hall' k hka)
              rw [(ham i him t).2 ⟨k, hlt k hka, hd⟩, M.done k hk hkl t hd, (h1 k hk t hd).2]
            · -- it is turned later
              have hki : i < k := by
                obtain ⟨ok2, _, hok2, _, hlt2, _⟩ := hsp k (by omega)
                rw [hok'] at hok2
                cases hok2
                exact hlt2 i hka
              have huniq : ∀ k', k' < m → dO xs k' = some t → k' = k := by
                intro k' hk' hd'
                obtain ⟨_, x2, _, hx2, _, hmain2, _⟩ := hsp k (by omega)
                by_cases he : k' = k
                · exact he
                · exact absurd hd' ((hmain2 hk).1 k' hk' he t (by have := hd; simp only [dO, hx2, Option.bind_some] at this; exact this))
              have hkl : listed.getD k true = false := by
                cases hl : listed.getD k true with
                | false => rfl
                | true =>
                  exfalso
                  have hks : k < listed.size := by omega
                  have hl' : listed.getD k false = true := by simp [hks] at hl ⊢; exact hl
                  have := h4 k hl' ok hok' i hka
                  rw [hgt i (by omega) this] at hli
                  cases hli
              rw [(ham i him t).1 fun k' hk' hd' => by have := huniq k' (by omega) hd'; omega]
              exact M.rest t fun k' hk' hl' hd' => by
                have := huniq k' hk' hd'
                rw [this, hkl] at hl'
                cases hl'
          · have hno : ∀ k, k < m → dO xs k ≠ some t := fun k hk he => hex ⟨k, hk, he⟩
            rw [M.rest t fun k hk _ => hno k hk, (ham i him t).1 fun k hk => hno k (by omega)]
      have hguard : wantedA x.guard aD = wantedA x.guard a1 := by
        cases hgx : x.guard with
        | none => rfl
        | some g =>
          obtain ⟨d, wnt⟩ := g
          simp only [wantedA]
          rw [hagree d fun k hk hd => hgd d wnt hgx k hk hd]
      -- how many have turned something
      have hcle : cnt eff m listed ≤ lvl eff m := by
        unfold cnt lvl
        rw [← List.filter_filter]
        exact (List.filter_sublist).length_le
      have hlv : eff i = true → cnt eff m listed = lvl eff i := by
        intro he
        rw [← lvl_of (eff := eff) (Nat.le_of_lt him)]
        unfold cnt
        congr 1
        apply List.filter_congr
        intro j hj
        have hjm := List.mem_range.1 hj
        cases hej : eff j with
        | false => simp
        | true =>
          simp only [Bool.and_true]
          have hlj := hE j hjm hej
          have hlI := hE i him he
          by_cases hji : j < i
          · have := loud_down hok h4 i him hlI (fun o2 ho2 => by rw [hoi] at ho2; cases ho2; exact hall') j hji hlj
            rw [hgt j (by omega) this]; simp [hji]
          · have : listed.getD j true = false := by
              by_cases hje : j = i
              · rw [hje]; exact hli
              · cases hl : listed.getD j true with
                | false => rfl
                | true =>
                  exfalso
                  have hjs : j < listed.size := by omega
                  have hl' : listed.getD j false = true := by simp [hjs] at hl ⊢; exact hl
                  have := loud_down hok h4 j hjm hlj (fun o2 ho2 => h4 j hl' o2 ho2) i (by omega) hlI
                  rw [hgt i (by omega) this] at hli
                  cases hli
            rw [this]; simp [hji]
      -- one more
      have hnext : ∀ (G' : Gh) (u : Value) (w' : World), VR G' (v i) u → Inv G' (st (cnt eff m listed + if eff i then 1 else 0)) w' → Gro G (st (cnt eff m listed)) w G' (st (cnt eff m listed + if eff i then 1 else 0)) w' → Keep G0 S0 G' (st (cnt eff m listed + if eff i then 1 else 0)) →
          (∀ k, k < m → k ≠ i → listed.getD k true = false → ∀ id, bid k = some id → G'.al id = none) → (∀ k, k < m → k ≠ i → listed.getD k true = false → ∀ id, tid k = some id → ∀ n, G'.tb id n = none) → wpAny P .any ops Q fuel (listed.setIfInBounds i true) (act.put o.dst u) w' := by
        intro G' u w' hv hI' hg' hkp hbx htk
        have hset : ∀ k, k ≠ i → (listed.setIfInBounds i true).getD k true = listed.getD k true := fun k hk => by
          have hne' : i ≠ k := fun e => hk e.symm
          simp [Array.getElem?_setIfInBounds_ne hne']
        have hcs := cnt_set (eff := eff) him (by omega : i < listed.size) hli
        refine ih _ _ _ ?_ (by simp [hs]) ⟨G', putA aD x.dst (v i), ⟨by rw [hcs]; exact hI', hdst ▸ (M.rel.mono hg'.le).put x.dst hv, by rw [putA_length, M.len], ?_, ?_, ?_, ?_, by rw [hcs]; exact M.gro.trans hg', by rw [hcs]; exact hkp, ?_⟩⟩ ?_ ?_
        · have := toCome_set hin hs hli
          omega
        · intro k hk hkl t hkt
          by_cases hki : k = i
          · subst hki
            rw [hdO] at hkt
            rw [hkt, putA_getD_same _ _ _ (by rw [M.len]; exact (h1 k hk t (by rw [hdO, hkt])).1)]
          · rw [hset k hki] at hkl
            rw [putA_getD_ne _ _ _ _ fun e => hdist k hk hki t e hkt]
            exact M.done k hk hkl t hkt
        · intro t hno
          have hdt : x.dst ≠ some t := by
            have := hno i him (by have : i < listed.size := by omega
                                  simp [Array.getElem?_setIfInBounds, this])
            rw [hdO] at this
            exact this
          rw [putA_getD_ne _ _ _ _ hdt]
          refine M.rest t fun k hk hkl => ?_
          by_cases hki : k = i
          · subst hki; rw [hdO]; exact hdt
          · exact hno k hk (by rw [hset k hki]; exact hkl)
        · intro k hk hkl id hid
          by_cases hki : k = i
          · subst hki
            have : k < listed.size := by omega
            simp [Array.getElem?_setIfInBounds, this] at hkl
          · rw [hset k hki] at hkl
            exact hbx k hk hki hkl id hid
        · intro k hk hkl id hid
          by_cases hki : k = i
          · subst hki
            have : k < listed.size := by omega
            simp [Array.getElem?_setIfInBounds, this] at hkl
          · rw [hset k hki] at hkl
            exact htk k hk hki hkl id hid
        · rw [← M.def_]; cases o.dst <;> rfl
        · intro k hk hkn
          rw [hset k (by omega)]
          exact h3 k hk hkn
        · intro k hkl ok hok' j hj
          have hjl : listed.getD j false = true := by
            by_cases hki : k = i
            · subst hki
              rw [hoi] at hok'
              cases hok'
              exact hall' j hj
            · have hne' : i ≠ k := fun e => hki e.symm
              exact h4 k (by simpa [Array.getElem?_setIfInBounds_ne hne'] using hkl) ok hok' j hj
          by_cases hji : j = i
          · subst hji
            have : j < listed.size := by omega
            simp [Array.getElem?_setIfInBounds, this]
          · have hne' : i ≠ j := fun e => hji e.symm
            simpa [Array.getElem?_setIfInBounds_ne hne'] using hjl
      have hidx : ∀ k id, k < m → bid k = some id → ∀ cs, (st (cnt eff m listed)).bx[id]? = some cs → id < (st (cnt eff m listed)).bx.length := fun k id _ _ cs h => (List.getElem?_eq_some_iff.1 h).1
      unfold wpOp
      simp only [hoi]
      rcases hF i him x hx with ⟨hw, hvi, hef, hbi, hti⟩ | ⟨hw, hFi⟩
      · rw [if_neg (by rw [wantedA_ok hcomp M.rel (hguard.trans hw)]; simp)]
        refine hnext G undef w (by rw [hvi]; exact VR.undef G) ?_ ?_ (by rw [hef]; exact M.keep) (fun k hk hki hkl => M.bx k hk hkl) (fun k hk hki hkl => M.tk k hk hkl)
        · rw [hef]; exact M.inv
        · rw [hef]; exact .refl _ _ _
      · rw [if_pos (wantedA_ok hcomp M.rel (hguard.trans hw))]
        refine .inl ?_
        have hz : eff i = false → (cnt eff m listed + if eff i then 1 else 0) = cnt eff m listed := fun h => by rw [h]; rfl
        -- a step by evOp
        have hop : ∀ k', evOp orc x.op (am i) (st (cnt eff m listed)) = some (v i, st k') → k' = (cnt eff m listed + if eff i then 1 else 0) → (∀ k id, k < m → bid k = some id → id < (st (cnt eff m listed)).bx.length) → (∀ k id, k < m → tid k = some id → id < (st (cnt eff m listed)).lv.length) → o.wp P act w (wpAny P .any ops Q fuel (listed.setIfInBounds i true)) Q := by
          rintro k' hev rfl hbl htl
          rw [← evOp_congr x.op _ hopd] at hev
          exact evOp_wp ho hcop hev M.inv M.rel fun G' u w' hv hI' hg' hkp => hnext G' u w' hv hI' hg' (M.keep.trans hkp)
            (fun k hk hki hkl id hid => hkp.al id (hbl k id hk hid) (M.bx k hk hkl id hid)) (fun k hk hki hkl id hid => hkp.tb id (htl k id hk hid) (M.tk k hk hkl id hid))
        -- where the boxes that were laid ahead lie
        have hbl : ∀ k id, k < m → bid k = some id → id < (st (cnt eff m listed)).bx.length := by
          intro k id hk hid
          have hkx : k < xs.length := by omega
          rcases hF k hk _ (List.getElem?_eq_getElem hkx) with ⟨_, _, _, h, _⟩ | ⟨_, ⟨_, h, _⟩ | ⟨_, _, cs, id', h, _, hall2⟩ | ⟨_, h, _⟩ | ⟨_, h, _⟩⟩ <;> rw [hid] at h <;> cases h
          exact (List.getElem?_eq_some_iff.1 (hall2 _ hcle).2).1
        have htl : ∀ k id, k < m → tid k = some id → id < (st (cnt eff m listed)).lv.length := by
          intro k id hk hid
          have hkx : k < xs.length := by omega
          rcases hF k hk _ (List.getElem?_eq_getElem hkx) with ⟨_, _, _, _, h⟩ | ⟨_, ⟨_, _, h, _⟩ | ⟨_, h, _⟩ | ⟨_, _, s, els, id', h, _, hall2⟩ | ⟨_, _, h, _⟩⟩ <;> rw [hid] at h <;> cases h
          exact (List.getElem?_eq_some_iff.1 (hall2 _ hcle).2).1
        rcases hFi with ⟨hef, hbi, hti, hv⟩ | ⟨hef, hti, cs, id, hbi, hvi, hv⟩ | ⟨hef, hbi, s, els, id, hti, hvi, hv⟩ | ⟨hef, hbi, hti, hle, hv⟩
        · refine hop (cnt eff m listed) ?_ (by rw [hef]; rfl) hbl htl
          rcases hv _ hcle with h5 | ⟨f, as, h5, h6⟩
          · rw [evOp_fin h5 (fun _ _ h => by cases h)]; rfl
          · rw [evOp_call h5]; exact h6
        · obtain ⟨h5, h6⟩ := hv _ hcle
          rw [← aop_congr x.op _ hopd] at h5
          obtain ⟨us, T, hrun, hrel⟩ := step_ok hcop (fun _ => rfl) M.rel.opd M.inv h5
          obtain ⟨k1, k2, k3⟩ := fill_box M.inv h6 (M.bx i him hli id hbi) hrel
          unfold Oper.wp
          rw [hrun]
          refine hnext (G.box id w.heap.size) _ _ (by rw [hvi]; exact .ptr _ _ _ k1) (by rw [hz hef]; exact k2) (by rw [hz hef]; exact k3) (by rw [hz hef]; exact ⟨M.keep.bl, M.keep.ll, fun b hb' h0 => by
            simp only [Gh.box]
            rw [if_neg (by have := hbn i id him hbi; omega)]
            exact M.keep.al b hb' h0, M.keep.tb⟩) (fun k hk hki hkl id' hid => ?_) (fun k hk hki hkl => M.tk k hk hkl)
          simp only [Gh.box]
          rw [if_neg (by rintro rfl; exact hki (hb _ _ _ hk him hid hbi))]
          exact M.bx k hk hkl id' hid
        · obtain ⟨h5, h6⟩ := hv _ hcle
          rw [← aop_congr x.op _ hopd] at h5
          obtain ⟨us, T, c, hrun, hn, hsz, hss, hvv⟩ := step_ok hcop (fun _ => rfl) M.rel.opd M.inv h5
          have htn := M.tk i him hli id hti
          obtain ⟨k1, k2, k3⟩ := new_lit M.inv _ id els s c us T h6 (fun _ _ _ => Iff.rfl) (fun n v h => by rw [htn n] at h; cases h) hn hsz hss hvv
          unfold Oper.wp
          rw [hrun]
          refine hnext (G.lit id els.length w.heap.size s c us) _ _ (by rw [hvi]; exact k1) (by rw [hz hef]; exact k2) (by rw [hz hef]; exact k3) (by rw [hz hef]; exact ⟨M.keep.bl, M.keep.ll, M.keep.al, fun t ht' h0 n => by
            simp only [Gh.lit]
            rw [if_neg (by rintro ⟨rfl, _⟩; have := htnn i _ him hti; omega)]
            exact M.keep.tb t ht' h0 n⟩) (fun k hk hki hkl => M.bx k hk hkl) (fun k hk hki hkl id' hid n => ?_)
          simp only [Gh.lit]
          rw [if_neg (by rintro ⟨rfl, _⟩; exact hki (ht _ _ _ hk him hid hti))]
          exact M.tk k hk hkl id' hid n
        · rw [← hlv hef] at hv
          exact hop _ hv (by rw [hef]; rfl) hbl htl
end
end Go.Proofs.Ytncaneioenanjaa
