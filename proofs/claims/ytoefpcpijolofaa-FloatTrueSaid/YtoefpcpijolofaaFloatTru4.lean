/- Part 5 of what the law needs: own work, put together. -/
import Derived.KernelRfl
import Derived.Test.YtoefpcpijolofaaFloatTru3
section
namespace Go.Proofs.Ytoefpcpijolofaa
open Go.RowKit
set_option linter.unusedVariables false
set_option linter.unusedSimpArgs false

def solid1 (x : AV) : Bool := match x with
  | .int _ _ | .bool _ | .str _ | .nilp | .nils | .nilf | .junk | .ptr _ _ | .ms _ _ _ => true
  | _ => false
def solid (x : AV) : Bool := match x with
  | .agg cs | .tup cs => cs.all solid1
  | .fn _ ps cs => ps.all solid1 && cs.all solid1
  | x => solid1 x
theorem VR.solid1 {G G2 : Gh} {x : AV} {u : Value} (h : VR G x u) (hs : solid1 x = true) (hal : ∀ b B, G.al b = some B → G2.al b = some B) : VR G2 x u := by
  cases h <;> first
    | (simp [Proofs.Ytoefpcpijolofaa.solid1] at hs; done)
    | exact .int _ _
    | exact .bool _
    | exact .str _
    | exact .nilp
    | exact .nils
    | exact .nilf
    | exact .junk _
    | (rename_i h; exact .ptr _ _ _ (hal _ _ h))
    | (rename_i h hn; exact .ms _ _ _ _ _ (hal _ _ h) hn)
theorem VR.solid {G G2 : Gh} {x : AV} {u : Value} (h : VR G x u) (hs : solid x = true) (hal : ∀ b B, G.al b = some B → G2.al b = some B) : VR G2 x u := by
  cases x with
  | agg cs =>
    cases h with
    | agg _ us hl h => exact .agg cs us hl fun i z v hz hv => (h i z v hz hv).solid1 (List.all_eq_true.1 hs z (List.mem_of_getElem? hz)) hal
  | tup cs =>
    cases h with
    | tup _ us hl h => exact .tup cs us hl fun i z v hz hv => (h i z v hz hv).solid1 (List.all_eq_true.1 hs z (List.mem_of_getElem? hz)) hal
  | fn f ps cs =>
    obtain ⟨vs, us, rfl, hp, hl, hv⟩ := h.inv_fn
    simp only [Proofs.Ytoefpcpijolofaa.solid, Bool.and_eq_true] at hs
    exact .fn f ps cs vs us hp.1 (fun i z v hz hv' => (hp.2 i z v hz hv').solid1 (List.all_eq_true.1 hs.1 z (List.mem_of_getElem? hz)) hal) hl fun i z v hz hv' => (hv i z v hz hv').solid1 (List.all_eq_true.1 hs.2 z (List.mem_of_getElem? hz)) hal
  | _ => exact h.solid1 (by simpa [Proofs.Ytoefpcpijolofaa.solid] using hs) hal

def flat (els : List AV) : List AV := els.flatMap AV.cells
theorem flat_get (s : Nat) (hs0 : 0 < s) : ∀ (els : List AV) (o : Nat) (x : AV), (∀ (i : Nat) e, els[i]? = some e → e.cells.length = s) → (flat els)[o]? = some x → ∃ e, els[o / s]? = some e ∧ e.cells[o % s]? = some x
  | [], o, x, hl, h => by simp [flat] at h
  | e :: els, o, x, hl, h => by
    have he := hl 0 e rfl
    simp only [flat, List.flatMap_cons] at h
    by_cases ho : o < s
    · rw [List.getElem?_append_left (by rw [he]; exact ho)] at h
      rw [Nat.div_eq_of_lt ho, Nat.mod_eq_of_lt ho]
      exact ⟨e, rfl, h⟩
    · rw [List.getElem?_append_right (by rw [he]; omega), he] at h
      obtain ⟨e', h1, h2⟩ := flat_get s hs0 els (o - s) x (fun i e h => hl (i + 1) e (by simpa using h)) h
      obtain ⟨p, rfl⟩ : ∃ p, o = s + p := ⟨o - s, by omega⟩
      rw [Nat.add_sub_cancel_left] at h1 h2
      rw [Nat.add_div_left _ hs0, Nat.add_mod_left]
      exact ⟨e', by simpa using h1, h2⟩
theorem flat_len (s : Nat) : ∀ (els : List AV), (∀ (i : Nat) e, els[i]? = some e → e.cells.length = s) → (flat els).length = els.length * s
  | [], _ => by simp [flat]
  | e :: els, hl => by
    have := flat_len s els (fun i e h => hl (i + 1) e (by simpa using h))
    simp only [flat, List.flatMap_cons, List.length_append, List.length_cons] at this ⊢
    rw [this, hl 0 e rfl, Nat.add_mul]
    omega

def thawV (t : Nat) (n b s : Nat) (x : AV) : Option AV := match x with
  | .sl els (some t') => if t' = t ∧ els.length = n then some (.ms b n s) else none
  | x => if solid1 x then some x else none
def thawS (t n b s : Nat) (x : AV) : Option AV := match x with
  | .agg cs => (cs.mapM (thawV t n b s)).map .agg
  | .sl els (some t') => if t' = t ∧ els.length = n then some (.ms b n s) else none
  | x => if solid x then some x else none
def thawL (t n b s : Nat) : List Bool → List AV → List AV
  | c :: bs, x :: l => (if c then (thawS t n b s x).getD .junk else .junk) :: thawL t n b s bs l
  | [], x :: l => (thawS t n b s x).getD .junk :: thawL t n b s [] l
  | _, [] => []
theorem thawL_get (t n b s : Nat) : ∀ (bs : List Bool) (l : List AV), (thawL t n b s bs l).length = l.length ∧ ∀ (i : Nat) y, (thawL t n b s bs l)[i]? = some y → y = .junk ∨ ∃ x, l[i]? = some x ∧ thawS t n b s x = some y
  | bs, [] => by cases bs <;> exact ⟨rfl, fun i y h => by simp [thawL] at h⟩
  | [], x :: l => by
    obtain ⟨h1, h2⟩ := thawL_get t n b s [] l
    refine ⟨by simp [thawL, h1], fun i y h => ?_⟩
    cases i with
    | zero =>
      simp only [thawL, List.getElem?_cons_zero, Option.some.injEq] at h
      cases hr : thawS t n b s x with
      | none => rw [hr] at h; exact .inl h.symm
      | some z => rw [hr] at h; exact .inr ⟨x, rfl, by rw [hr]; simpa using h⟩
    | succ i => exact h2 i y (by simpa [thawL] using h)
  | c :: bs, x :: l => by
    obtain ⟨h1, h2⟩ := thawL_get t n b s bs l
    refine ⟨by simp [thawL, h1], fun i y h => ?_⟩
    cases i with
    | zero =>
      simp only [thawL, List.getElem?_cons_zero, Option.some.injEq] at h
      cases c with
      | false => exact .inl (by simpa using h.symm)
      | true =>
        simp only [if_true] at h
        cases hr : thawS t n b s x with
        | none => rw [hr] at h; exact .inl h.symm
        | some z => rw [hr] at h; exact .inr ⟨x, rfl, by rw [hr]; simpa using h⟩
    | succ i => exact h2 i y (by simpa [thawL] using h)

theorem VR.thawV {G G2 : Gh} {t n b s B c : Nat} {x y : AV} {u : Value} (h : VR G x u) (hn : 0 < n) (htb : G.tb t n = some (.blk B s c)) (hnc : n ≤ c) (hal : ∀ b B, G.al b = some B → G2.al b = some B) (hb : G2.al b = some B) (hr : thawV t n b s x = some y) : VR G2 y u := by
  unfold Proofs.Ytoefpcpijolofaa.thawV at hr
  split at hr
  · rename_i els t'
    split at hr
    · rename_i hc
      cases hr
      obtain ⟨rfl, hl⟩ := hc
      cases h with
      | slt els t s' B' c' us hb' hn' hs hf hv =>
        rw [hl] at hb' ⊢
        rw [htb] at hb'
        cases hb'
        exact .ms b n s B c hb hnc
      | slt0 t hb' => simp at hl; omega
    · cases hr
  · split at hr
    · rename_i hs
      cases hr
      exact h.solid1 hs hal
    · cases hr
theorem VR.thawS {G G2 : Gh} {t n b s B c : Nat} {x y : AV} {u : Value} (h : VR G x u) (hn : 0 < n) (htb : G.tb t n = some (.blk B s c)) (hnc : n ≤ c) (hal : ∀ b B, G.al b = some B → G2.al b = some B) (hb : G2.al b = some B) (hr : thawS t n b s x = some y) : VR G2 y u := by
  unfold Proofs.Ytoefpcpijolofaa.thawS at hr
  split at hr
  · rename_i cs
    simp only [Option.map_eq_some_iff] at hr
    obtain ⟨ds, hds, rfl⟩ := hr
    obtain ⟨h1, h2⟩ := mapM_get hds
    cases h with
    | agg _ us hl h =>
      refine .agg ds us (by rw [hl, h1]) fun i z v hz hv => ?_
      obtain ⟨z', hz', hr'⟩ := h2 i z hz
      exact (h i z' v hz' hv).thawV hn htb hnc hal hb hr'
  · rename_i els t'
    split at hr
    · rename_i hc
      refine h.thawV (x := .sl els (some t')) hn htb hnc hal hb ?_
      unfold Proofs.Ytoefpcpijolofaa.thawV
      simp only [if_pos hc]
      exact hr
    · cases hr
  · split at hr
    · rename_i hs
      cases hr
      exact h.solid hs hal
    · cases hr

theorem thaw {n0 : Nat} {a : List AV} {S : St} (t n s i0 : Nat) (els : List AV) (live : List Bool) {bx2 : List (List AV)} (hn : 0 < n) (hs : 0 < s) (hlv : S.lv[t]? = some (n, s)) (hl : els.length = n) (hi : ∃ x, a[i0]? = some x ∧ (x = .sl els (some t) ∨ ∃ cs, x = .agg cs ∧ AV.sl els (some t) ∈ cs)) (hsol : (flat els).all solid1 = true) (hcl : ∀ e ∈ els, e.cells.length = s)
    (hbx : S.bx.mapM (fun cs => cs.mapM (thawV t n S.bx.length s)) = some bx2) :
    Forgets n0 a S (thawL t n S.bx.length s live a) ⟨bx2 ++ [flat els], []⟩ := by
  intro E hE act w ⟨G, hI, hR, hg, hk, hd⟩
  obtain ⟨b1, b2⟩ := mapM_get hbx
  obtain ⟨x0, hx0, hor⟩ := hi
  have hlt : i0 < act.tmps.size := by rw [hR.size]; exact (List.getElem?_eq_some_iff.1 hx0).1
  have hvx := hR.slot i0 _ _ hx0 (Array.getElem?_eq_getElem hlt)
  generalize act.tmps[i0] = u1 at hvx
  obtain ⟨u0, hvr⟩ : ∃ u0, VR G (.sl els (some t)) u0 := by
    rcases hor with rfl | ⟨cs, rfl, hm⟩
    · exact ⟨_, hvx⟩
    · cases hvx with
      | agg _ us hl h =>
        obtain ⟨j, hj⟩ := List.mem_iff_getElem?.1 hm
        have hjl : j < us.size := by rw [hl]; exact (List.getElem?_eq_some_iff.1 hj).1
        exact ⟨us[j], h j _ _ hj (Array.getElem?_eq_getElem hjl)⟩
  obtain ⟨B, c, us, htb, hnc, hss, hf, hv⟩ : ∃ (B c : Nat) (us : Nat → Value), G.tb t n = some (.blk B s c) ∧ n ≤ c ∧ (∀ (i : Nat) e, els[i]? = some e → e.cells.length = s) ∧ (∀ (i : Nat) e (j : Nat) x, els[i]? = some e → e.cells[j]? = some x → G.fz B (i * s + j) = some (us (i * s + j))) ∧ (∀ (i : Nat) e (j : Nat) x, els[i]? = some e → e.cells[j]? = some x → VR G x (us (i * s + j))) := by
    cases hvr with
    | slt _ _ s' B c us hb hn' hs' hf hv =>
      rw [hl] at hb hn'
      obtain ⟨e1, _⟩ := hI.tok t n s B s' c hlv hb
      subst e1
      exact ⟨B, c, us, hb, hn', hs', hf, hv⟩
    | slt0 _ hb => simp at hl; omega
  obtain ⟨_, ⟨us0, T, hheap, hsize⟩, _, hfzn⟩ := hI.tok t n s B s c hlv htb
  have hBlt := hI.toklt hlv htb
  have hsepB : ∀ b, G.al b ≠ some B := fun b h => hI.sep b B t n s s c h hlv htb
  have hEtb : ∀ t k, E.G.tb t k = none := by
    intro t k
    cases h : E.G.tb t k with
    | none => rfl
    | some v =>
      obtain ⟨m, s, h1, _⟩ := E.inv.dtb t k v h
      rw [E.lv] at h1
      simp at h1
  have hEB : E.w.heap.size ≤ B := by
    rcases hg.own B (.inr ⟨t, n, s, s, c, hlv, htb⟩) with (⟨b, hb⟩ | ⟨t', n', s0', s', c', h1, _⟩) | h
    · exact absurd (hg.le.al b B hb) (hsepB b)
    · rw [E.lv] at h1; simp at h1
    · exact h
  have hEfz : ∀ k o v, E.G.fz k o = some v → k ≠ B := by
    rintro k o v h rfl
    have := E.inv.fz k o v h
    have hlt : k < E.w.heap.size := by
      cases hh : E.w.heap[k]? with
      | none => simp [World.cell?, hh] at this
      | some r => exact (Array.getElem?_eq_some_iff.1 hh).1
    omega
  have hbl : bx2.length = S.bx.length := b1
  obtain ⟨G2, hG2⟩ : ∃ G2 : Gh, G2 = ⟨fun b => if b < S.bx.length then G.al b else if b = S.bx.length then some B else none, fun _ _ => none, fun k o => if k = B then none else G.fz k o⟩ := ⟨_, rfl⟩
  have hal : ∀ b B', G.al b = some B' → G2.al b = some B' := fun b B' h => by
    rw [hG2]
    simp only
    rw [if_pos (hI.dal b B' h).1]; exact h
  have hab : G2.al S.bx.length = some B := by rw [hG2]; simp
  have hinv : ∀ b B', G2.al b = some B' → (b < S.bx.length ∧ G.al b = some B') ∨ (b = S.bx.length ∧ B' = B) := fun b B' h => by
    rw [hG2] at h
    simp only at h
    split at h
    · rename_i hb; exact .inl ⟨hb, h⟩
    · split at h
      · rename_i hb; cases h; exact .inr ⟨hb, rfl⟩
      · cases h
  have hfz2 : ∀ k o, G2.fz k o = if k = B then none else G.fz k o := fun k o => by rw [hG2]
  have htb2 : ∀ t' k, G2.tb t' k = none := fun t' k => by rw [hG2]
  refine ⟨G2, ⟨?_, ?_, ?_, ?_, ?_, ?_, ?_, ?_⟩, ⟨?_, ?_⟩, ⟨⟨?_, ?_, ?_⟩, hg.os, hg.tape, hg.output, hg.size, ?_, ?_⟩, ⟨?_, ?_, ?_, ?_⟩, hd⟩
  · intro b B' cs hb hcs
    rcases hinv b B' hb with ⟨hlt', hb'⟩ | ⟨rfl, rfl⟩
    · rw [List.getElem?_append_left (by rw [hbl]; exact hlt')] at hcs
      obtain ⟨cs0, hcs0, hm⟩ := b2 b cs hcs
      obtain ⟨m1, m2⟩ := mapM_get hm
      rcases hI.box b B' cs0 hb' hcs0 with rfl | ⟨us', T', k1, k2, k3, k4⟩
      · exact .inl (List.eq_nil_of_length_eq_zero (by rw [m1]; rfl))
      · refine .inr ⟨us', T', k1, by rw [m1]; exact k2, fun i x u hx hu => ?_, fun o => by rw [hfz2]; split; rfl; exact k4 o⟩
        obtain ⟨x0, hx0, hr⟩ := m2 i x hx
        exact (k3 i x0 u hx0 hu).thawV hn htb hnc hal hab hr
    · rw [List.getElem?_append_right (by omega), hbl, Nat.sub_self] at hcs
      simp only [List.getElem?_cons_zero, Option.some.injEq] at hcs
      subst hcs
      refine .inr ⟨us0, T, hheap, by rw [flat_len s els hss, hl, hsize]; exact Nat.mul_le_mul_right _ hnc, fun o x u hx hu => ?_, fun o => by rw [hfz2, if_pos rfl]⟩
      obtain ⟨e, he, hex⟩ := flat_get s hs els o x hss hx
      have g1 := hf _ e _ x he hex
      have g2 := hv _ e _ x he hex
      rw [show o / s * s + o % s = o by rw [Nat.mul_comm]; exact Nat.div_add_mod o s] at g1 g2
      have g3 := hI.fz _ _ _ g1
      simp only [World.cell?, hheap] at g3
      have g4 : us0[o]? = some (us o) := by simpa using g3
      rw [hu] at g4
      cases g4
      exact g2.solid1 (List.all_eq_true.1 hsol x (List.mem_of_getElem? hx)) hal
  · intro t' k s0 B' s' c' h1 h2
    simp at h1
  · intro k o u h
    rw [hfz2] at h
    split at h
    · cases h
    · exact hI.fz k o u h
  · intro b B' hb
    rcases hinv b B' hb with ⟨hlt', hb'⟩ | ⟨rfl, rfl⟩
    · exact ⟨by simp [hbl]; omega, (hI.dal b B' hb').2⟩
    · exact ⟨by simp [hbl], hBlt⟩
  · intro t' k v h
    rw [htb2] at h; cases h
  · intro b b' B' h1 h2
    rcases hinv b B' h1 with ⟨_, h1'⟩ | ⟨rfl, rfl⟩
    · rcases hinv b' B' h2 with ⟨_, h2'⟩ | ⟨rfl, rfl⟩
      · exact hI.injA b b' B' h1' h2'
      · exact absurd h1' (hsepB b)
    · rcases hinv b' B' h2 with ⟨_, h2'⟩ | ⟨rfl, _⟩
      · exact absurd h2' (hsepB b')
      · rfl
  · intro t' t'' k k' s0 s0' B' s' s'' c' c'' h1
    simp at h1
  · intro b B' t' k s0 s' c' h1 h2
    simp at h2
  · rw [hR.size, (thawL_get t n S.bx.length s live a).1]
  · intro i y u hy hu
    rcases (thawL_get t n S.bx.length s live a).2 i y hy with rfl | ⟨x, hx, hr⟩
    · exact .junk u
    · exact (hR.slot i x u hx hu).thawS hn htb hnc hal hab hr
  · intro b B' h
    exact hal b B' (hg.le.al b B' h)
  · intro t' k v h
    rw [hEtb] at h; cases h
  · intro k o v h
    rw [hfz2, if_neg (hEfz k o v h)]
    exact hg.le.fz k o v h
  · intro B' hB' hno
    obtain ⟨h1, h2⟩ := hg.fr B' hB' hno
    exact ⟨h1, fun o => by rw [hfz2, if_neg (by omega)]; exact h2 o⟩
  · rintro B' (⟨b, hb⟩ | ⟨t', k, s0, s', c', h1, _⟩)
    · rcases hinv b B' hb with ⟨_, hb'⟩ | ⟨_, rfl⟩
      · exact hg.own B' (.inl ⟨b, hb'⟩)
      · exact .inr hEB
    · simp at h1
  · have := hk.bl
    simp [hbl]; omega
  · rw [E.lv]; exact Nat.zero_le _
  · intro b hb h
    have h1 := hk.al b hb h
    rw [hG2]
    simp only
    rw [if_pos (by have := hk.bl; omega)]
    exact h1
  · intro t' ht' _ k
    exact htb2 t' k

theorem ExO.inl {n0 : Nat} {P : Program} {a : List AV} {S : St} {R : List AV → St → Prop} {x : AOper} {l : List AOper} {f : FuncId} {F : AFn} {xs : List AV} (hF : compFn P f = some F) (hlv : S.lv = []) (hw : wantedA x.guard a = some true) (hv : aop x.op (evd a) S = some (.call f xs))
    (h : Ex S.bx.length .plain P F.code (start F xs) S fun z a' S' => (z = .norm ∨ z = .ret) ∧ ∃ v, evRes a' S' F.res = some v ∧ ExO n0 P l (putA a x.dst v) S' R) : ExO n0 P (x :: l) a S R := by
  intro E hn ops l0 Q hco hq act w hA
  obtain ⟨o, l', rfl, hx, hl'⟩ := mapM_cons_inv hco
  obtain ⟨h1, h2, _⟩ := compOper_ok hx
  obtain ⟨G, hI, hR, hg, hk, hd⟩ := hA
  simp only [wpList]
  rw [if_pos (wantedA_ok hx hR hw)]
  refine .inl ?_
  unfold Oper.wp
  have hs := step_ok h1 (fun _ => rfl) hR.opd hI hv
  obtain ⟨us, hrun, hvs⟩ := hs
  unfold compFn at hF
  split at hF
  · rename_i fn hf
    split at hF
    · rename_i c rs hb hrs
      split at hF
      · rename_i ac hac
        split at hF
        · cases hF
        · rename_i hname
          cases hF
          have hen : (callFunc f us).run P w = .ok (.enter f us) w := by
            simp only [callFunc, program, Sem.run, hf, Sem.run_bind, Result.andThen_ok, hname, hb]
            rfl
          rw [hrun, hen]
          simp only [Oper.upon_enter]
          refine calls_of_wp hf hb ?_
          have hR0 : Rel G (start ⟨fn.params.size, fn.ntmps, rs, ac⟩ xs) { tmps := us ++ Array.replicate (fn.ntmps - us.size) undef, defers := [] } := by
            refine ⟨by simp [start, hvs.1], fun i y u hy hu => ?_⟩
            simp only [start] at hy
            simp only at hu
            rw [List.getElem?_append] at hy
            rw [Array.getElem?_append, hvs.1] at hu
            split at hy
            · rename_i hlt
              rw [if_pos hlt] at hu
              exact hvs.2 i y u hy hu
            · rename_i hlt
              rw [if_neg hlt] at hu
              have e1 := List.eq_of_mem_replicate (List.mem_of_getElem? hy)
              have e2 : u ∈ (Array.replicate (fn.ntmps - xs.length) undef) := Array.mem_of_getElem? hu
              have e3 := (Array.mem_replicate.1 e2).2
              rw [e1, e3]
              exact .undef G
          refine wp_mono (h ⟨G, S, w, [], hI, hlv⟩ rfl c hac _ w ⟨G, hI, hR0, .refl _ _ _, .refl _ _, rfl⟩) ?_
          rintro e act' w' ⟨z, a', S', he, ⟨hz, v, hres, hrest⟩, G', hI', hR', hg', hk', hd'⟩
          obtain ⟨u, g1, g2⟩ := res_ok hI' hR' hrs hres
          rcases hz with rfl | rfl
          · subst he
            exact ⟨hd', u, g1, hrest E hn ops l' Q hl' hq _ _ ⟨G', hI', h2 ▸ (hR.mono hg'.le).put x.dst g2, hg.trans hg', hk.trans hk', by cases o.dst <;> exact hd⟩⟩
          · subst he
            exact ⟨hd', u, g1, hrest E hn ops l' Q hl' hq _ _ ⟨G', hI', h2 ▸ (hR.mono hg'.le).put x.dst g2, hg.trans hg', hk.trans hk', by cases o.dst <;> exact hd⟩⟩
      · cases hF
    · cases hF
  · cases hF
end Go.Proofs.Ytoefpcpijolofaa
end
section
namespace Go.Proofs.Ytoefpcpijolofaa
open Go.RowKit
set_option linter.unusedVariables false
set_option linter.unusedSimpArgs false

theorem flat_at (s : Nat) : ∀ (els : List AV) (i : Nat) (e : AV) (j : Nat) (x : AV), (∀ (i : Nat) e, els[i]? = some e → e.cells.length = s) → els[i]? = some e → e.cells[j]? = some x → (flat els)[i * s + j]? = some x
  | [], i, e, j, x, _, h, _ => by simp at h
  | e0 :: els, 0, e, j, x, hl, h, hx => by
    have h' : e0 = e := by simpa using h
    subst h'
    have hj := (List.getElem?_eq_some_iff.1 hx).1
    simp only [flat, List.flatMap_cons, Nat.zero_mul, Nat.zero_add]
    rw [List.getElem?_append_left hj]
    exact hx
  | e0 :: els, i + 1, e, j, x, hl, h, hx => by
    have he := hl 0 e0 rfl
    have ih := flat_at s els i e j x (fun i e h => hl (i + 1) e (by simpa using h)) (by simpa using h) hx
    simp only [flat, List.flatMap_cons] at ih ⊢
    rw [List.getElem?_append_right (by rw [he, Nat.add_mul]; omega), he]
    rw [show (i + 1) * s + j - s = i * s + j by rw [Nat.add_mul]; omega]
    exact ih

def chillV (b n s : Nat) (els : List AV) (x : AV) : AV := match x with
  | .ms b' n' s' => if b' = b ∧ n' = n ∧ s' = s then .sl els none else x
  | x => x
def chillS (b n s : Nat) (els : List AV) (x : AV) : AV := match x with
  | .agg cs => .agg (cs.map (chillV b n s els))
  | x => chillV b n s els x
def chillL (f : AV → AV) : List Bool → List AV → List AV
  | c :: bs, x :: l => (if c then f x else x) :: chillL f bs l
  | [], l => l
  | _ :: _, [] => []
def chillB (f : AV → AV) : List (List Bool) → List (List AV) → List (List AV)
  | c :: bs, x :: l => chillL f c x :: chillB f bs l
  | [], l => l
  | _ :: _, [] => []
theorem chillL_get (f : AV → AV) : ∀ (bs : List Bool) (l : List AV), (chillL f bs l).length = l.length ∧ ∀ (i : Nat) y, (chillL f bs l)[i]? = some y → ∃ x, l[i]? = some x ∧ (y = x ∨ y = f x)
  | [], l => ⟨by simp [chillL], fun i y h => ⟨y, by simpa [chillL] using h, .inl rfl⟩⟩
  | _ :: _, [] => ⟨rfl, fun i y h => by simp [chillL] at h⟩
  | c :: bs, x :: l => by
    obtain ⟨h1, h2⟩ := chillL_get f bs l
    refine ⟨by simp [chillL, h1], fun i y h => ?_⟩
    cases i with
    | zero =>
      simp only [chillL, List.getElem?_cons_zero, Option.some.injEq] at h
      refine ⟨x, rfl, ?_⟩
      cases c
      · exact .inl (by simpa using h.symm)
      · exact .inr (by simpa using h.symm)
    | succ i => exact h2 i y (by simpa [chillL] using h)
theorem chillB_get (f : AV → AV) : ∀ (bs : List (List Bool)) (l : List (List AV)), (chillB f bs l).length = l.length ∧ ∀ (i : Nat) y, (chillB f bs l)[i]? = some y → ∃ x bs', l[i]? = some x ∧ y = chillL f bs' x
  | [], l => ⟨by simp [chillB], fun i y h => ⟨y, [], by simpa [chillB] using h, by simp [chillL]⟩⟩
  | _ :: _, [] => ⟨rfl, fun i y h => by simp [chillB] at h⟩
  | c :: bs, x :: l => by
    obtain ⟨h1, h2⟩ := chillB_get f bs l
    refine ⟨by simp [chillB, h1], fun i y h => ?_⟩
    cases i with
    | zero =>
      simp only [chillB, List.getElem?_cons_zero, Option.some.injEq] at h
      exact ⟨x, c, rfl, h.symm⟩
    | succ i => exact h2 i y (by simpa [chillB] using h)

theorem VR.chillV {G G2 : Gh} {b n s : Nat} {els : List AV} {x : AV} {u : Value} (h : VR G x u) (hle : G.le G2) (hsl : ∀ B c, G.al b = some B → n ≤ c → VR G2 (.sl els none) (.slice (some ⟨B, 0, none⟩) n c)) : VR G2 (chillV b n s els x) u := by
  unfold Proofs.Ytoefpcpijolofaa.chillV
  split
  · split
    · rename_i hc
      obtain ⟨rfl, rfl, rfl⟩ := hc
      cases h with
      | ms _ _ _ B c h hn => exact hsl B c h hn
    · exact h.mono hle
  · exact h.mono hle
theorem VR.chillS {G G2 : Gh} {b n s : Nat} {els : List AV} {x : AV} {u : Value} (h : VR G x u) (hle : G.le G2) (hsl : ∀ B c, G.al b = some B → n ≤ c → VR G2 (.sl els none) (.slice (some ⟨B, 0, none⟩) n c)) : VR G2 (chillS b n s els x) u := by
  unfold Proofs.Ytoefpcpijolofaa.chillS
  split
  · rename_i cs
    cases h with
    | agg _ us hl h =>
      refine .agg _ us (by simpa using hl) fun i z v hz hv => ?_
      simp only [List.getElem?_map, Option.map_eq_some_iff] at hz
      obtain ⟨z', hz', rfl⟩ := hz
      exact (h i z' v hz' hv).chillV hle hsl
  · exact h.chillV hle hsl

theorem chill {n0 : Nat} {a : List AV} {S : St} (b n s : Nat) (els : List AV) (live : List Bool) (lives : List (List Bool)) (hb : S.bx[b]? = some (flat els)) (hne : flat els ≠ []) (hl : els.length = n) (hss : ∀ e ∈ els, e.cells.length = s) :
    Forgets n0 a S (chillL (chillS b n s els) live a) ⟨chillB (chillV b n s els) lives (S.bx.set b []), S.lv⟩ := by
  intro E hE act w ⟨G, hI, hR, hg, hk, hd⟩
  have hs' : ∀ (i : Nat) e, els[i]? = some e → e.cells.length = s := fun i e h => hss e (List.mem_of_getElem? h)
  obtain ⟨F, hF⟩ : ∃ F : Nat → Option Value, ∀ B, G.al b = some B → (∀ o, G.fz B o = none) ∧ (∀ o u, F o = some u → w.cell? ⟨B, o, none⟩ = some u) ∧ ∀ o x, (flat els)[o]? = some x → ∃ u, F o = some u ∧ VR G x u := by
    cases hal : G.al b with
    | none => exact ⟨fun _ => none, fun B h => by cases h⟩
    | some B =>
      rcases hI.box b B _ hal hb with h | ⟨us, T, k1, k2, k3, k4⟩
      · exact absurd h hne
      · refine ⟨fun o => us[o]?, fun B' h => ?_⟩
        cases h
        refine ⟨k4, fun o u h => by simp [World.cell?, k1, h], fun o x hx => ?_⟩
        have hlt : o < us.size := Nat.lt_of_lt_of_le (List.getElem?_eq_some_iff.1 hx).1 k2
        have hu : us[o]? = some us[o] := Array.getElem?_eq_getElem hlt
        exact ⟨us[o], hu, k3 o x _ hx hu⟩
  obtain ⟨G2, hG2⟩ : ∃ G2 : Gh, G2 = ⟨G.al, G.tb, fun k o => if G.al b = some k then F o else G.fz k o⟩ := ⟨_, rfl⟩
  have hal2 : G2.al = G.al := by rw [hG2]
  have htb2 : G2.tb = G.tb := by rw [hG2]
  have hfz2 : ∀ k o, G2.fz k o = if G.al b = some k then F o else G.fz k o := fun k o => by rw [hG2]
  have hle : G.le G2 := ⟨fun b B h => by rw [hal2]; exact h, fun t k v h => by rw [htb2]; exact h, fun k o u h => by
    rw [hfz2]
    split
    · rename_i hB
      rw [(hF k hB).1 o] at h; cases h
    · exact h⟩
  have hsl : ∀ B c, G.al b = some B → n ≤ c → VR G2 (.sl els none) (.slice (some ⟨B, 0, none⟩) n c) := fun B c hB hn => by
    have := VR.sl (G := G2) els s B 0 c (fun k => (F k).getD undef) (by rw [hl]; exact hn) hs' (fun i e j x he hx => by
      obtain ⟨u, h1, _⟩ := (hF B hB).2.2 _ x (flat_at s els i e j x hs' he hx)
      rw [hfz2, if_pos hB, Nat.zero_add, h1]; rfl) (fun i e j x he hx => by
      obtain ⟨u, h1, h2⟩ := (hF B hB).2.2 _ x (flat_at s els i e j x hs' he hx)
      rw [h1]; exact h2.mono hle)
    rw [hl] at this
    exact this
  obtain ⟨c1, c2⟩ := chillB_get (chillV b n s els) lives (S.bx.set b [])
  have hbl : (chillB (chillV b n s els) lives (S.bx.set b [])).length = S.bx.length := by rw [c1]; simp
  have hsepb : ∀ {B t k s0 s' c}, G.al b = some B → S.lv[t]? = some (k, s0) → G.tb t k = some (.blk B s' c) → False := fun h1 h2 h3 => hI.sep _ _ _ _ _ _ _ h1 h2 h3
  refine ⟨G2, ⟨?_, ?_, ?_, ?_, ?_, ?_, ?_, ?_⟩, ⟨?_, ?_⟩, ⟨hg.le.trans hle, hg.os, hg.tape, hg.output, hg.size, ?_, ?_⟩, ⟨?_, ?_, ?_, ?_⟩, hd⟩
  · intro b' B cs h1 h2
    rw [hal2] at h1
    obtain ⟨cs0, bs', hc, rfl⟩ := c2 b' cs h2
    obtain ⟨d1, d2⟩ := chillL_get (chillV b n s els) bs' cs0
    by_cases hbb : b = b'
    · subst hbb
      rw [List.getElem?_set] at hc
      simp only [if_true] at hc
      split at hc
      · cases hc
        exact .inl (List.eq_nil_of_length_eq_zero (by rw [d1]; rfl))
      · cases hc
    · rw [List.getElem?_set_ne hbb] at hc
      rcases hI.box b' B cs0 h1 hc with rfl | ⟨us, T, k1, k2, k3, k4⟩
      · exact .inl (List.eq_nil_of_length_eq_zero (by rw [d1]; rfl))
      · refine .inr ⟨us, T, k1, by rw [d1]; exact k2, fun i x u hx hu => ?_, fun o => ?_⟩
        · obtain ⟨x0, hx0, rfl | rfl⟩ := d2 i x hx
          · exact (k3 i _ u hx0 hu).mono hle
          · exact (k3 i x0 u hx0 hu).chillV hle hsl
        · rw [hfz2, if_neg (fun h => hbb (hI.injA b b' B h h1))]
          exact k4 o
  · intro t k s0 B s' c h1 h2
    rw [htb2] at h2
    obtain ⟨e1, e2, e3, e4⟩ := hI.tok t k s0 B s' c h1 h2
    exact ⟨e1, e2, e3, fun o ho => by rw [hfz2, if_neg (fun h => hsepb h h1 h2)]; exact e4 o ho⟩
  · intro k o u h
    rw [hfz2] at h
    split at h
    · rename_i hB
      exact (hF k hB).2.1 o u h
    · exact hI.fz k o u h
  · intro b' B h
    rw [hal2] at h
    exact ⟨by simp only [hbl]; exact (hI.dal b' B h).1, (hI.dal b' B h).2⟩
  · intro t k v h
    rw [htb2] at h
    exact hI.dtb t k v h
  · intro b1 b2 B h1 h2
    rw [hal2] at h1 h2
    exact hI.injA b1 b2 B h1 h2
  · intro t t' k k' s0 s0' B s1 s2 c c' h1 h2 h3 h4
    rw [htb2] at h3 h4
    exact hI.injT t t' k k' s0 s0' B s1 s2 c c' h1 h2 h3 h4
  · intro b' B t k s0 s' c h1 h2
    rw [hal2] at h1
    rw [htb2]
    exact hI.sep b' B t k s0 s' c h1 h2
  · rw [hR.size, (chillL_get _ live a).1]
  · intro i y u hy hu
    obtain ⟨x, hx, rfl | rfl⟩ := (chillL_get _ live a).2 i y hy
    · exact (hR.slot i _ u hx hu).mono hle
    · exact (hR.slot i x u hx hu).chillS hle hsl
  · intro B hB hno
    obtain ⟨h1, h2⟩ := hg.fr B hB hno
    refine ⟨h1, fun o => ?_⟩
    rw [hfz2, if_neg (fun h => ?_)]
    · exact h2 o
    · rcases hg.own B (.inl ⟨b, h⟩) with h' | h'
      · exact hno h'
      · omega
  · rintro B (⟨b', hb'⟩ | ⟨t, k, s0, s', c, h1, h2⟩)
    · rw [hal2] at hb'
      exact hg.own B (.inl ⟨b', hb'⟩)
    · rw [htb2] at h2
      exact hg.own B (.inr ⟨t, k, s0, s', c, h1, h2⟩)
  · simp only [hbl]
    exact hk.bl
  · exact hk.ll
  · intro b' hb' h
    rw [hal2]
    exact hk.al b' hb' h
  · intro t ht h k
    rw [htb2]
    exact hk.tb t ht h k

end Go.Proofs.Ytoefpcpijolofaa
end
section
namespace Go.Proofs.Ytoefpcpijolofaa
open Go.RowKit
set_option linter.unusedVariables false
set_option linter.unusedSimpArgs false

def fadeV (x : AV) : AV := match x with
  | .nils => .sl [] none
  | .sl els _ => .sl els none
  | x => x
def fadeS (x : AV) : AV := match x with
  | .agg cs => .agg (cs.map fadeV)
  | x => fadeV x
theorem VR.fadeV {G : Gh} {x : AV} {u : Value} (h : VR G x u) : VR G (fadeV x) u := by
  unfold Proofs.Ytoefpcpijolofaa.fadeV
  split
  · cases h
    exact .sl0 none 0
  · exact h.plain1
  · exact h
theorem VR.fadeS {G : Gh} {x : AV} {u : Value} (h : VR G x u) : VR G (fadeS x) u := by
  unfold Proofs.Ytoefpcpijolofaa.fadeS
  split
  · rename_i cs
    cases h with
    | agg _ us hl h =>
      refine .agg _ us (by simpa using hl) fun i z v hz hv => ?_
      simp only [List.getElem?_map, Option.map_eq_some_iff] at hz
      obtain ⟨z', hz', rfl⟩ := hz
      exact (h i z' v hz' hv).fadeV
  · exact h.fadeV

theorem fade {n0 : Nat} {a : List AV} {S : St} (live : List Bool) (lives : List (List Bool)) : Forgets n0 a S (chillL fadeS live a) ⟨chillB fadeV lives S.bx, S.lv⟩ := by
  intro E hE act w ⟨G, hI, hR, hg, hk, hd⟩
  obtain ⟨c1, c2⟩ := chillB_get fadeV lives S.bx
  refine ⟨G, ⟨?_, hI.tok, hI.fz, ?_, hI.dtb, hI.injA, hI.injT, hI.sep⟩, ⟨?_, ?_⟩, ⟨hg.le, hg.os, hg.tape, hg.output, hg.size, hg.fr, ?_⟩, ⟨?_, hk.ll, hk.al, hk.tb⟩, hd⟩
  · intro b' B cs h1 h2
    obtain ⟨cs0, bs', hc, rfl⟩ := c2 b' cs h2
    obtain ⟨d1, d2⟩ := chillL_get fadeV bs' cs0
    rcases hI.box b' B cs0 h1 hc with rfl | ⟨us, T, k1, k2, k3, k4⟩
    · exact .inl (List.eq_nil_of_length_eq_zero (by rw [d1]; rfl))
    · refine .inr ⟨us, T, k1, by rw [d1]; exact k2, fun i x u hx hu => ?_, k4⟩
      obtain ⟨x0, hx0, rfl | rfl⟩ := d2 i x hx
      · exact k3 i _ u hx0 hu
      · exact (k3 i x0 u hx0 hu).fadeV
  · intro b' B h
    exact ⟨by simp only [c1]; exact (hI.dal b' B h).1, (hI.dal b' B h).2⟩
  · rw [hR.size, (chillL_get _ live a).1]
  · intro i y u hy hu
    obtain ⟨x, hx, rfl | rfl⟩ := (chillL_get _ live a).2 i y hy
    · exact hR.slot i _ u hx hu
    · exact (hR.slot i x u hx hu).fadeS
  · rintro B (⟨b', hb'⟩ | ⟨t, k, s0, s', c, h1, h2⟩)
    · exact hg.own B (.inl ⟨b', hb'⟩)
    · exact hg.own B (.inr ⟨t, k, s0, s', c, h1, h2⟩)
  · simp only [c1]
    exact hk.bl

theorem grow {n0 : Nat} {a : List AV} {S : St} : Forgets n0 a S a ⟨S.bx ++ [[]], S.lv⟩ := by
  intro E hE act w ⟨G, hI, hR, hg, hk, hd⟩
  refine ⟨G, ⟨?_, hI.tok, hI.fz, ?_, hI.dtb, hI.injA, hI.injT, hI.sep⟩, hR, ⟨hg.le, hg.os, hg.tape, hg.output, hg.size, hg.fr, hg.own⟩, ⟨?_, hk.ll, hk.al, hk.tb⟩, hd⟩
  · intro b B cs h1 h2
    have hb := (hI.dal b B h1).1
    rw [List.getElem?_append_left hb] at h2
    exact hI.box b B cs h1 h2
  · intro b B h
    have := hI.dal b B h
    exact ⟨by simp; omega, this.2⟩
  · have := hk.bl
    simp; omega

theorem Forgets.trans {n0 : Nat} {a a1 a2 : List AV} {S S1 S2 : St} (h : Forgets n0 a S a1 S1) (k : Forgets n0 a1 S1 a2 S2) : Forgets n0 a S a2 S2 := fun E hE act w hA => k E hE act w (h E hE act w hA)

theorem Ex.join {n0 : Nat} {md : Md} {P : Program} {a : List AV} {S : St} {Q : AEx → List AV → St → Prop} {c d : ACode} (J : List AV → St → Prop) (h : Ex n0 md P c a S fun x a' S' => x = .norm ∧ ∃ a2 S2, Forgets n0 a' S' a2 S2 ∧ J a2 S2) (k : ∀ a2 S2, J a2 S2 → Ex n0 md P d a2 S2 Q) : Ex n0 md P (.seq c d) a S Q := by
  refine Ex.seq (h.mono ?_)
  rintro x a' S' ⟨rfl, a2, S2, hf, hj⟩
  exact Ex.forget hf (k a2 S2 hj)

end Go.Proofs.Ytoefpcpijolofaa
end
section
namespace Go.Proofs.Ytoefpcpijolofaa
open Go.RowKit
set_option linter.unusedVariables false
set_option linter.unusedSimpArgs false

structure DoesT (P : Program) (f : FuncId) (xs : List AV) (K : AV → List (Nat × Nat) → Prop) : Prop where
  enter : ∀ (us : Array Value) (w : World), (callFunc f us).run P w = .ok (.enter f us) w
  calls : ∀ (G : Gh) (w : World) (us : Array Value), Inv G ⟨[], []⟩ w → VRs G xs us → Calls P f us w fun e w' => ∃ u v G' bx lv, K v lv ∧ e = .returned u ∧ VR G' v u ∧ Inv G' ⟨bx, lv⟩ w' ∧ Gro G ⟨[], []⟩ w G' ⟨bx, lv⟩ w'

theorem DoesT.of {P : Program} {f : FuncId} {F : AFn} (hF : compFn P f = some F) {xs : List AV} {K : AV → List (Nat × Nat) → Prop}
    (h : Ex 0 .plain P F.code (start F xs) ⟨[], []⟩ fun x a' S' => (x = .norm ∨ x = .ret) ∧ ∃ v, evRes a' S' F.res = some v ∧ K v S'.lv) : DoesT P f xs K := by
  unfold compFn at hF
  split at hF
  · rename_i fn hf
    split at hF
    · rename_i c rs hb hrs
      split at hF
      · rename_i ac hac
        split at hF
        · cases hF
        · rename_i hname
          cases hF
          refine ⟨fun us w => ?_, fun G w us hI hvs => ?_⟩
          · simp only [callFunc, program, Sem.run, hf, Sem.run_bind, Result.andThen_ok, hname, hb]
            rfl
          · refine calls_of_wp hf hb ?_
            have hR : Rel G (start ⟨fn.params.size, fn.ntmps, rs, ac⟩ xs) { tmps := us ++ Array.replicate (fn.ntmps - us.size) undef, defers := [] } := by
              refine ⟨by simp [start, hvs.1], fun i y u hy hu => ?_⟩
              simp only [start] at hy
              simp only at hu
              rw [List.getElem?_append] at hy
              rw [Array.getElem?_append, hvs.1] at hu
              split at hy
              · rename_i hlt
                rw [if_pos hlt] at hu
                exact hvs.2 i y u hy hu
              · rename_i hlt
                rw [if_neg hlt] at hu
                have e1 := List.eq_of_mem_replicate (List.mem_of_getElem? hy)
                have e2 : u ∈ (Array.replicate (fn.ntmps - xs.length) undef) := Array.mem_of_getElem? hu
                have e3 := (Array.mem_replicate.1 e2).2
                rw [e1, e3]
                exact .undef G
            refine wp_mono (h ⟨G, ⟨[], []⟩, w, [], hI, rfl⟩ rfl c hac _ w ⟨G, hI, hR, .refl _ _ _, .refl _ _, rfl⟩) ?_
            rintro e act' w' ⟨x, a', S', he, ⟨hx, v, hv, hq⟩, G', hI', hR', hg, hk, hd⟩
            obtain ⟨u, h1, h2⟩ := res_ok hI' hR' hrs hv
            obtain ⟨S'bx, S'lv⟩ := S'
            rcases hx with rfl | rfl
            · subst he; exact ⟨hd, u, h1, u, v, G', S'bx, S'lv, hq, rfl, h2, hI', hg⟩
            · subst he; exact ⟨hd, u, h1, u, v, G', S'bx, S'lv, hq, rfl, h2, hI', hg⟩
      · cases hF
    · cases hF
  · cases hF

end Go.Proofs.Ytoefpcpijolofaa
end
section
namespace Go.Proofs.Ytoefpcpijolofaa
open Go.RowKit
set_option linter.unusedVariables false
set_option linter.unusedSimpArgs false
set_option maxRecDepth 10000

def Wt.av (w : Int × Int) : AV := .agg [.int .i64 w.1, .int .i64 w.2]
theorem Wt.av_cells (w : Int × Int) : (Wt.av w).cells = [.int .i64 w.1, .int .i64 w.2] := rfl
def WOk (w : Int × Int) : Prop := 0 ≤ w.1 ∧ w.1 ≤ 10000 ∧ 0 ≤ w.2 ∧ w.2 ≤ 10000
theorem clean_wts (ws : List (Int × Int)) : cleanL (ws.map Wt.av) = true := by
  rw [cleanL_iff]
  intro x hx
  obtain ⟨l, _, rfl⟩ := List.mem_map.1 hx
  simp [Wt.av, AV.clean, cleanL]
def mom (p : Int) (ws : List (Int × Int)) : Int := (ws.map fun w => w.1 * (w.2 - p)).sum
def tot (ws : List (Int × Int)) : Int := (ws.map fun w => w.1).sum
theorem mom_take (p : Int) (ws : List (Int × Int)) (i : Nat) (w : Int × Int) (h : ws[i]? = some w) : mom p (ws.take (i + 1)) = mom p (ws.take i) + w.1 * (w.2 - p) := by
  simp [mom, List.take_add_one, h]
theorem tot_take (ws : List (Int × Int)) (i : Nat) (w : Int × Int) (h : ws[i]? = some w) : tot (ws.take (i + 1)) = tot (ws.take i) + w.1 := by
  simp [tot, List.take_add_one, h]
theorem one_in (p : Int) (w : Int × Int) (hw : WOk w) (h0 : 0 ≤ p) (h1 : p ≤ 10000) : -100000000 ≤ w.1 * (w.2 - p) ∧ w.1 * (w.2 - p) ≤ 100000000 := by
  obtain ⟨a1, a2, a3, a4⟩ := hw
  have b1 : w.1 * (w.2 - p) ≤ w.1 * 10000 := Int.mul_le_mul_of_nonneg_left (by omega) a1
  have b2 : w.1 * (-10000) ≤ w.1 * (w.2 - p) := Int.mul_le_mul_of_nonneg_left (by omega) a1
  omega
theorem mom_in (p : Int) (h0 : 0 ≤ p) (h1 : p ≤ 10000) : ∀ (ws : List (Int × Int)), (∀ w ∈ ws, WOk w) → -(ws.length * 100000000 : Int) ≤ mom p ws ∧ mom p ws ≤ (ws.length * 100000000 : Int)
  | [], _ => by simp [mom]
  | w :: ws, h => by
    have h2 := mom_in p h0 h1 ws fun w hw => h w (List.mem_cons_of_mem _ hw)
    have h3 := one_in p w (h w (List.mem_cons_self ..)) h0 h1
    simp only [mom, List.map_cons, List.sum_cons, List.length_cons] at h2 ⊢
    omega
theorem tot_in : ∀ (ws : List (Int × Int)), (∀ w ∈ ws, WOk w) → 0 ≤ tot ws ∧ tot ws ≤ (ws.length * 10000 : Int)
  | [], _ => by simp [tot]
  | w :: ws, h => by
    have h2 := tot_in ws fun w hw => h w (List.mem_cons_of_mem _ hw)
    obtain ⟨a1, a2, a3, a4⟩ := h w (List.mem_cons_self ..)
    simp only [tot, List.map_cons, List.sum_cons, List.length_cons] at h2 ⊢
    omega

set_option maxHeartbeats 4000000 in
theorem moment_m (p : Int) (ws : List (Int × Int)) (hlen : ws.length ≤ 50) (hall : ∀ w ∈ ws, WOk w) (h0 : 0 ≤ p) (h1 : p ≤ 10000) : Does Try.prog 84 [.int .i64 p, .sl (ws.map Wt.av) none] [] fun v c' => v = .int .i64 (mom p ws) ∧ c' = [] := by
  refine Does.of comp84 ?_
  unfold F84
  simp only [start, List.length_cons, List.length_nil, List.replicate, List.cons_append, List.nil_append, Nat.reduceAdd, Nat.reduceSub]
  (repeat (first|((first|refine ExO.nil ?_|refine Ex.skip ?_|refine Ex.ret ?_|refine Ex.exit ?_); try dsimp only)|((first|(refine xI ?_; intro _ _)|refine xL ?_|(refine xB ?_; intro _ _)|refine xG ?_|refine xS ?_|refine xM ?_|(refine xC ?_; intro _ _)|refine xW ?_); try simp only [sA])|refine Ex.seq ?_|refine Ex.reg ?_|refine Ex.block ?_|refine eT ?_|refine eF ?_|simp only [reduceCtorEq, AEx.ex.injEq, Nat.reduceEqDiff, if_true, if_false]))
  refine Ex.loopF (fun k a S => ∃ i, i ≤ ws.length ∧ k = ws.length - i ∧ a = [.int .i64 p, .junk, .junk, .junk, .int .i64 0, .int .i64 (mom p (ws.take i)), .junk, .junk, .sl (ws.map Wt.av) none, .int .i64 ws.length, .int .i64 (i : Nat), .junk, .junk, .junk, .junk, .junk, .junk, .junk, .junk, .junk, .junk, .junk, .junk, .junk, .junk] ∧ S = ⟨[], []⟩) ws.length ?_ ?_
  · refine ⟨_, _, forgets 0 [] ([true, false, false, false, true, true, false, false, true, true, true, false, false, false, false, false, false, false, false, false, false, false, false, false, false]) (by decide) (by simp) (by rfl) (by rfl) (by decide), 0, by omega, by omega, ?_, by rfl⟩
    simp [keepS, re, re1, AV.clean, clean_wts, mom]
  · rintro k a S ⟨i, hi, rfl, rfl, rfl⟩
    (repeat (first|((first|refine ExO.nil ?_|refine Ex.skip ?_|refine Ex.ret ?_|refine Ex.exit ?_); try dsimp only)|((first|(refine xI ?_; intro _ _)|refine xL ?_|(refine xB ?_; intro _ _)|refine xG ?_|refine xS ?_|refine xM ?_|(refine xC ?_; intro _ _)|refine xW ?_); try simp only [sA])|refine Ex.seq ?_|refine Ex.reg ?_|refine Ex.block ?_|refine eT ?_|refine eF ?_|simp only [reduceCtorEq, AEx.ex.injEq, Nat.reduceEqDiff, if_true, if_false]))
    rename_i c hc
    cases c
    · (refine Ex.cond (b := false) (by first | rfl | simp [evd]) ?_; simp only [Bool.false_eq_true, if_false])
      (repeat (first|((first|refine ExO.nil ?_|refine Ex.skip ?_|refine Ex.ret ?_|refine Ex.exit ?_); try dsimp only)|((first|(refine xI ?_; intro _ _)|refine xL ?_|(refine xB ?_; intro _ _)|refine xG ?_|refine xS ?_|refine xM ?_|(refine xC ?_; intro _ _)|refine xW ?_); try simp only [sA])|refine Ex.seq ?_|refine Ex.reg ?_|refine Ex.block ?_|refine eT ?_|refine eF ?_|simp only [reduceCtorEq, AEx.ex.injEq, Nat.reduceEqDiff, if_true, if_false]))
      simp [evRes, evRes1, one, AV.names, takeCells]
      have : i = ws.length := by have := hc.symm; simp at this; omega
      subst this
      simp
    · have hil : i < ws.length := by have := hc.symm; simpa using this
      have e1 : ws[i]? = some ws[i] := List.getElem?_eq_getElem hil
      have hw := hall ws[i] (List.getElem_mem hil)
      have hs := mom_take p ws i _ e1
      have hb := one_in p _ hw h0 h1
      have ht := mom_in p h0 h1 (ws.take i) fun w hw => hall w (List.mem_of_mem_take hw)
      have htl : (ws.take i).length = i := by simp; omega
      rw [htl] at ht
      generalize ws[i] = w at e1 hw hs hb
      obtain ⟨wk, wa⟩ := w
      obtain ⟨a1, a2, a3, a4⟩ := hw
      simp only at a1 a2 a3 a4 hs hb
      have l1 : (i : Int) < (ws.length : Int) := by omega
      (refine Ex.cond (b := true) (by first | rfl | simp [evd]) ?_; simp only [if_true])
      (repeat (first|((first|refine ExO.nil ?_|refine Ex.skip ?_|refine Ex.ret ?_|refine Ex.exit ?_); try dsimp only)|((first|(refine xI ?_; intro _ _)|refine xL ?_|(refine xB ?_; intro _ _)|refine xG ?_|refine xS ?_|refine xM ?_|(refine xC ?_; intro _ _)|refine xW ?_); try simp only [sA])|refine Ex.seq ?_|refine Ex.reg ?_|refine Ex.block ?_|refine eT ?_|refine eF ?_|simp only [reduceCtorEq, AEx.ex.injEq, Nat.reduceEqDiff, if_true, if_false]))
      (apply ExO.stG; (case hk => rfl); (case hv => (simp [vA, fRes_eq, e1, l1, Wt.av_cells]; first|done|exact ⟨⟨rfl,rfl⟩,rfl⟩|exact ⟨rfl,rfl⟩|exact rfl)); (try simp only [sA]))
      (repeat (first|((first|refine ExO.nil ?_|refine Ex.skip ?_|refine Ex.ret ?_|refine Ex.exit ?_); try dsimp only)|((first|(refine xI ?_; intro _ _)|refine xL ?_|(refine xB ?_; intro _ _)|refine xG ?_|refine xS ?_|refine xM ?_|(refine xC ?_; intro _ _)|refine xW ?_); try simp only [sA])|refine Ex.seq ?_|refine Ex.reg ?_|refine Ex.block ?_|refine eT ?_|refine eF ?_|simp only [reduceCtorEq, AEx.ex.injEq, Nat.reduceEqDiff, if_true, if_false]))
      rename_i m1 g1 m2 g2 m3 g3 m4 g4
      rw [i64_in (by omega) (by omega)] at g1
      subst g1
      rw [i64_in (by omega) (by omega)] at g2
      subst g2
      rw [i64_in (by omega) (by omega)] at g3
      rw [i64_in (by omega) (by omega)] at g4
      have g5 : m4 = ((i + 1 : Nat) : Int) := by omega
      subst g5
      rw [← hs] at g3
      subst g3
      refine ⟨_, _, forgets 0 [] ([true, false, false, false, true, true, false, false, true, true, true, false, false, false, false, false, false, false, false, false, false, false, false, false, false]) (by decide) (by simp) (by rfl) (by rfl) (by decide), ws.length - (i + 1), by omega, i + 1, by omega, rfl, ?_, by rfl⟩
      simp [keepS, re, re1, AV.clean, clean_wts]
end Go.Proofs.Ytoefpcpijolofaa
end
section
namespace Go.Proofs.Ytoefpcpijolofaa
open Go.RowKit
set_option linter.unusedVariables false
set_option linter.unusedSimpArgs false
set_option maxRecDepth 10000
set_option maxHeartbeats 4000000

def IL (zs : List Int) : AV := .sl (zs.map fun z => AV.int .i64 z) none
theorem clean_ints (zs : List Int) : cleanL (zs.map fun z => AV.int .i64 z) = true := by
  rw [cleanL_iff]
  intro x hx
  obtain ⟨z, _, rfl⟩ := List.mem_map.1 hx
  rfl
theorem take_snoc {α : Type} {l : List α} {i : Nat} {x : α} (h : l[i]? = some x) : l.take (i + 1) = l.take i ++ [x] := by
  obtain ⟨hi, rfl⟩ := List.getElem?_eq_some_iff.1 h
  exact (List.take_append_getElem hi).symm

theorem least_m (len wid front rear turn kilos mid high : Int) (ls : List Ld) (hlen : ls.length ≤ 20) : Does Try.prog 78 [.agg [.int .i64 len, .int .i64 wid, .int .i64 front, .int .i64 rear, .int .i64 turn, .int .i64 kilos, .int .i64 mid, .int .i64 high, .sl (ls.map Ld.av) none]] [] fun v c' => v = .agg [IL (ls.map Ld.klo), IL (ls.map Ld.tlo)] ∧ c' = [] := by
  refine Does.of comp78 ?_
  unfold F78
  simp only [start, List.length_cons, List.length_nil, List.replicate, List.cons_append, List.nil_append, Nat.reduceAdd, Nat.reduceSub]
  (repeat (first|((first|refine ExO.nil ?_|refine Ex.skip ?_|refine Ex.ret ?_|refine Ex.exit ?_); try dsimp only)|((first|(refine xI ?_; intro _ _)|refine xL ?_|(refine xB ?_; intro _ _)|refine xG ?_|refine xS ?_|refine xM ?_|(refine xC ?_; intro _ _)|refine xW ?_); try simp only [sA])|refine Ex.seq ?_|refine Ex.reg ?_|refine Ex.block ?_|refine eT ?_|refine eF ?_|simp only [reduceCtorEq, AEx.ex.injEq, Nat.reduceEqDiff, if_true, if_false]))
  refine Ex.loopF (fun k a S => ∃ i ks ts tb lv, ks = (ls.take i).map Ld.klo ∧ ts = (ls.take i).map Ld.tlo ∧ i ≤ ls.length ∧ k = ls.length - i ∧ ((i = 0 ∧ tb = [.nils, .nils] ∧ lv = []) ∨ (tb = [.sl (ks.map fun z => AV.int .i64 z) (some 0), .sl (ts.map fun z => AV.int .i64 z) (some 1)] ∧ lv = [(ks.length, 1), (ts.length, 1)])) ∧ a = [.junk, .ptr 0 0, .ptr 1 0, .ptr 2 0, .int .i64 (i : Nat), .junk, .junk, .junk, .junk, .junk, .junk, .junk, .junk, .junk, .junk, .junk, .junk, .junk, .junk, .junk, .junk, .junk, .junk, .junk, .junk, .junk, .junk, .junk, .junk, .junk, .junk, .junk, .junk, .junk, .junk, .junk, .junk] ∧ S = ⟨[[.int .i64 len, .int .i64 wid, .int .i64 front, .int .i64 rear, .int .i64 turn, .int .i64 kilos, .int .i64 mid, .int .i64 high, .sl (ls.map Ld.av) none], [.nils, .nils], tb], lv⟩) ls.length ?_ ?_
  · exact ⟨_, _, forgets 3 [] ([false, true, true, true, true, false, false, false, false, false, false, false, false, false, false, false, false, false, false, false, false, false, false, false, false, false, false, false, false, false, false, false, false, false, false, false, false]) (by decide) (by simp) (bx2 := [[.int .i64 len, .int .i64 wid, .int .i64 front, .int .i64 rear, .int .i64 turn, .int .i64 kilos, .int .i64 mid, .int .i64 high, .sl (ls.map Ld.av) none], [.nils, .nils], [.nils, .nils]]) (by simp [re, re1, AV.clean, clean_lds]) (by rfl) (by decide), 0, [], [], _, _, rfl, rfl, by omega, rfl, .inl ⟨rfl, rfl, rfl⟩, by rfl, by rfl⟩
  · rintro k a S ⟨i, ks, ts, tb, lv, hks, hts, hi, rfl, htb, rfl, rfl⟩
    (repeat (first|((first|refine ExO.nil ?_|refine Ex.skip ?_|refine Ex.ret ?_|refine Ex.exit ?_); try dsimp only)|((first|(refine xI ?_; intro _ _)|refine xL ?_|(refine xB ?_; intro _ _)|refine xG ?_|refine xS ?_|refine xM ?_|(refine xC ?_; intro _ _)|refine xW ?_); try simp only [sA])|refine Ex.seq ?_|refine Ex.reg ?_|refine Ex.block ?_|refine eT ?_|refine eF ?_|simp only [reduceCtorEq, AEx.ex.injEq, Nat.reduceEqDiff, if_true, if_false]))
    rename_i c hc
    have hkl : ks.length = i := by rw [hks, List.length_map, List.length_take]; omega
    have htl : ts.length = i := by rw [hts, List.length_map, List.length_take]; omega
    have hck := clean_ints ks
    have hct := clean_ints ts
    cases c
    · have hge : ls.length ≤ i := by have := hc.symm; simp at this; omega
      have hie : i = ls.length := by omega
      subst hie
      rw [List.take_length] at hks hts
      (refine Ex.cond (b := false) (by first | rfl | simp [evd]) ?_; simp only [Bool.false_eq_true, if_false])
      (repeat (first|((first|refine ExO.nil ?_|refine Ex.skip ?_|refine Ex.ret ?_|refine Ex.exit ?_); try dsimp only)|((first|(refine xI ?_; intro _ _)|refine xL ?_|(refine xB ?_; intro _ _)|refine xG ?_|refine xS ?_|refine xM ?_|(refine xC ?_; intro _ _)|refine xW ?_); try simp only [sA])|refine Ex.seq ?_|refine Ex.reg ?_|refine Ex.block ?_|refine eT ?_|refine eF ?_|simp only [reduceCtorEq, AEx.ex.injEq, Nat.reduceEqDiff, if_true, if_false]))
      refine ExO.forget (fade [] [[], [], [true, true]]) ?_
      subst hks
      subst hts
      rcases htb with ⟨h0, rfl, rfl⟩ | ⟨rfl, rfl⟩
      · have hl0 := List.eq_nil_of_length_eq_zero h0
        subst hl0
        simp only [chillL, chillB, fadeV, if_true]
        (repeat (first|((first|refine ExO.nil ?_|refine Ex.skip ?_|refine Ex.ret ?_|refine Ex.exit ?_); try dsimp only)|((first|(refine xI ?_; intro _ _)|refine xL ?_|(refine xB ?_; intro _ _)|refine xG ?_|refine xS ?_|refine xM ?_|(refine xC ?_; intro _ _)|refine xW ?_); try simp only [sA])|refine Ex.seq ?_|refine Ex.reg ?_|refine Ex.block ?_|refine eT ?_|refine eF ?_|simp only [reduceCtorEq, AEx.ex.injEq, Nat.reduceEqDiff, if_true, if_false]))
        simp [evRes, evRes1, one, AV.names, takeCells, IL]
      · simp only [chillL, chillB, fadeV, if_true]
        (repeat (first|((first|refine ExO.nil ?_|refine Ex.skip ?_|refine Ex.ret ?_|refine Ex.exit ?_); try dsimp only)|((first|(refine xI ?_; intro _ _)|refine xL ?_|(refine xB ?_; intro _ _)|refine xG ?_|refine xS ?_|refine xM ?_|(refine xC ?_; intro _ _)|refine xW ?_); try simp only [sA])|refine Ex.seq ?_|refine Ex.reg ?_|refine Ex.block ?_|refine eT ?_|refine eF ?_|simp only [reduceCtorEq, AEx.ex.injEq, Nat.reduceEqDiff, if_true, if_false]))
        simp [evRes, evRes1, one, AV.names, takeCells, IL]
    · have hil : i < ls.length := by have := hc.symm; simpa using this
      have e1 : ls[i]? = some ls[i] := List.getElem?_eq_getElem hil
      generalize ls[i] = l at e1
      have hk2 : ks ++ [l.klo] = (ls.take (i + 1)).map Ld.klo := by rw [take_snoc e1, List.map_append, hks]; rfl
      have ht2 : ts ++ [l.tlo] = (ls.take (i + 1)).map Ld.tlo := by rw [take_snoc e1, List.map_append, hts]; rfl
      obtain ⟨pt, klo, khi, tlo, thi, kind, watts⟩ := l
      have l1 : (i : Int) < (ls.length : Int) := by omega
      (refine Ex.cond (b := true) (by first | rfl | simp [evd]) ?_; simp only [if_true])
      (repeat (first|((first|refine ExO.nil ?_|refine Ex.skip ?_|refine Ex.ret ?_|refine Ex.exit ?_); try dsimp only)|((first|(refine xI ?_; intro _ _)|refine xL ?_|(refine xB ?_; intro _ _)|refine xG ?_|refine xS ?_|refine xM ?_|(refine xC ?_; intro _ _)|refine xW ?_); try simp only [sA])|refine Ex.seq ?_|refine Ex.reg ?_|refine Ex.block ?_|refine eT ?_|refine eF ?_|simp only [reduceCtorEq, AEx.ex.injEq, Nat.reduceEqDiff, if_true, if_false]))
      rcases htb with ⟨h0, rfl, rfl⟩ | ⟨rfl, rfl⟩
      · subst h0
        have hks0 : ks = [] := by rw [hks]; rfl
        have hts0 : ts = [] := by rw [hts]; rfl
        subst hks0
        subst hts0
        have l0 : 0 < ls.length := hil
        have e0 := (List.getElem?_eq_some_iff.1 e1).2
        have l0' : (0 : Int) < (ls.length : Int) := by omega
        apply Ex.drawE (noClr_ok _) [] [(1, 1), (1, 1)] [⟨[[.int .i64 len, .int .i64 wid, .int .i64 front, .int .i64 rear, .int .i64 turn, .int .i64 kilos, .int .i64 mid, .int .i64 high, .sl (ls.map Ld.av) none], [.nils, .nils], [.nils, .nils]], [(1, 1), (1, 1), (1, 1)]⟩, ⟨[[.int .i64 len, .int .i64 wid, .int .i64 front, .int .i64 rear, .int .i64 turn, .int .i64 kilos, .int .i64 mid, .int .i64 high, .sl (ls.map Ld.av) none], [.nils, .nils], [.nils, .nils]], [(1, 1), (1, 1), (1, 1), (1, 1)]⟩]
        case hD =>
          simp only [List.take_succ_cons, List.take_zero, List.append_nil, List.nil_append]
          (repeat (first | exact DrO.nil rfl | (apply DrO.eff; (case hw => rfl); (case hd => rfl); (case hl => rfl); (case hs => rfl); (case hs' => rfl); (case hv => (simp [vA, fRes_eq, e0, l0, l0', Ld.av_cells]; first|done|exact ⟨⟨rfl,rfl⟩,rfl⟩|exact ⟨rfl,rfl⟩|exact rfl)); (try simp only [sA])) | (apply DrO.pure; (case hw => rfl); (case hd => rfl); (case hv => (simp only [List.mem_cons, List.not_mem_nil, or_false, forall_eq_or_imp, forall_eq]; simp [vA, fRes_eq, e0, l0, l0', Ld.av_cells]; first | done | exact ⟨⟨rfl, rfl⟩, rfl⟩ | exact ⟨rfl, rfl⟩ | exact rfl | (refine ⟨rfl, ?_⟩; first | done | rfl | simp))); (try simp only [sA]))))
          apply DrO.row 0 1 [.int .i64 klo] rfl rfl (fun st _ => rfl) (by simp) (by simp) (by simp)
          simp only [putA, List.set_cons_zero, List.set_cons_succ]
          (repeat (first | exact DrO.nil rfl | (apply DrO.eff; (case hw => rfl); (case hd => rfl); (case hl => rfl); (case hs => rfl); (case hs' => rfl); (case hv => (simp [vA, fRes_eq, e0, l0, l0', Ld.av_cells]; first|done|exact ⟨⟨rfl,rfl⟩,rfl⟩|exact ⟨rfl,rfl⟩|exact rfl)); (try simp only [sA])) | (apply DrO.pure; (case hw => rfl); (case hd => rfl); (case hv => (simp only [List.mem_cons, List.not_mem_nil, or_false, forall_eq_or_imp, forall_eq]; simp [vA, fRes_eq, e0, l0, l0', Ld.av_cells]; first | done | exact ⟨⟨rfl, rfl⟩, rfl⟩ | exact ⟨rfl, rfl⟩ | exact rfl | (refine ⟨rfl, ?_⟩; first | done | rfl | simp))); (try simp only [sA]))))
          apply DrO.row 1 1 [.int .i64 tlo] rfl rfl (fun st _ => rfl) (by simp) (by simp) (by simp)
          simp only [putA, List.set_cons_zero, List.set_cons_succ]
          (repeat (first | exact DrO.nil rfl | (apply DrO.eff; (case hw => rfl); (case hd => rfl); (case hl => rfl); (case hs => rfl); (case hs' => rfl); (case hv => (simp [vA, fRes_eq, e0, l0, l0', Ld.av_cells]; first|done|exact ⟨⟨rfl,rfl⟩,rfl⟩|exact ⟨rfl,rfl⟩|exact rfl)); (try simp only [sA])) | (apply DrO.pure; (case hw => rfl); (case hd => rfl); (case hv => (simp only [List.mem_cons, List.not_mem_nil, or_false, forall_eq_or_imp, forall_eq]; simp [vA, fRes_eq, e0, l0, l0', Ld.av_cells]; first | done | exact ⟨⟨rfl, rfl⟩, rfl⟩ | exact ⟨rfl, rfl⟩ | exact rfl | (refine ⟨rfl, ?_⟩; first | done | rfl | simp))); (try simp only [sA]))))
        simp only [List.drop_succ_cons, List.drop_zero, List.getLastD_cons, List.getLastD_nil, List.append_nil, List.cons_append, List.nil_append]
        (repeat (first|((first|refine ExO.nil ?_|refine Ex.skip ?_|refine Ex.ret ?_|refine Ex.exit ?_); try dsimp only)|((first|(refine xI ?_; intro _ _)|refine xL ?_|(refine xB ?_; intro _ _)|refine xG ?_|refine xS ?_|refine xM ?_|(refine xC ?_; intro _ _)|refine xW ?_); try simp only [sA])|refine Ex.seq ?_|refine Ex.reg ?_|refine Ex.block ?_|refine eT ?_|refine eF ?_|simp only [reduceCtorEq, AEx.ex.injEq, Nat.reduceEqDiff, if_true, if_false]))
        rename_i m hm
        rw [i64_in (by omega) (by omega)] at hm
        have hm2 : m = ((0 + 1 : Nat) : Int) := by omega
        subst hm2
        exact ⟨_, _, forgets 3 [2, 3] ([false, true, true, true, true, false, false, false, false, false, false, false, false, false, false, false, false, false, false, false, false, false, false, false, false, false, false, false, false, false, false, false, false, false, false, false, false]) (by decide) (by simp) (bx2 := [[.int .i64 len, .int .i64 wid, .int .i64 front, .int .i64 rear, .int .i64 turn, .int .i64 kilos, .int .i64 mid, .int .i64 high, .sl (ls.map Ld.av) none], [.nils, .nils], [.sl [.int .i64 klo] (some 0), .sl [.int .i64 tlo] (some 1)]]) (by simp [re, re1, AV.clean, cleanL, clean_lds, List.idxOf?, List.findIdx?, List.findIdx?.go]) (lv2 := [(1, 1), (1, 1)]) (by simp) (by decide), ls.length - 1, by omega, 1, [klo], [tlo], _, _, hk2, ht2, by omega, rfl, .inr ⟨rfl, rfl⟩, by rfl, by rfl⟩
      · have hz : i + 1 ≤ 65536 := by omega
        apply Ex.drawE (noClr_ok _) [] [(1, 1), (1, 1)] [⟨[[.int .i64 len, .int .i64 wid, .int .i64 front, .int .i64 rear, .int .i64 turn, .int .i64 kilos, .int .i64 mid, .int .i64 high, .sl (ls.map Ld.av) none], [.nils, .nils], [.sl (ks.map fun z => AV.int .i64 z) (some 0), .sl (ts.map fun z => AV.int .i64 z) (some 1)]], [(ks.length + 1, 1), (ts.length, 1), (1, 1), (1, 1)]⟩, ⟨[[.int .i64 len, .int .i64 wid, .int .i64 front, .int .i64 rear, .int .i64 turn, .int .i64 kilos, .int .i64 mid, .int .i64 high, .sl (ls.map Ld.av) none], [.nils, .nils], [.sl (ks.map fun z => AV.int .i64 z) (some 0), .sl (ts.map fun z => AV.int .i64 z) (some 1)]], [(ks.length + 1, 1), (ts.length + 1, 1), (1, 1), (1, 1)]⟩]
        case hD =>
          simp only [List.take_succ_cons, List.take_zero, List.append_nil, List.nil_append, List.cons_append]
          (repeat (first | exact DrO.nil rfl | (apply DrO.eff; (case hw => rfl); (case hd => rfl); (case hl => rfl); (case hs => rfl); (case hs' => rfl); (case hv => (simp [vA, fRes_eq, e1, l1, Ld.av_cells]; first|done|exact ⟨⟨rfl,rfl⟩,rfl⟩|exact ⟨rfl,rfl⟩|exact rfl)); (try simp only [sA])) | (apply DrO.pure; (case hw => rfl); (case hd => rfl); (case hv => (simp only [List.mem_cons, List.not_mem_nil, or_false, forall_eq_or_imp, forall_eq]; simp [vA, fRes_eq, e1, l1, Ld.av_cells]; first | done | exact ⟨⟨rfl, rfl⟩, rfl⟩ | exact ⟨rfl, rfl⟩ | exact rfl | (refine ⟨rfl, ?_⟩; first | done | rfl | simp))); (try simp only [sA]))))
          apply DrO.row 2 1 [.int .i64 klo] rfl rfl (fun st _ => rfl) (by simp) (by simp) (by simp)
          simp only [putA, List.set_cons_zero, List.set_cons_succ]
          apply DrO.eff (.sl ((ks.map fun z => AV.int .i64 z) ++ [.int .i64 klo]) (some 0)) (⟨[[.int .i64 len, .int .i64 wid, .int .i64 front, .int .i64 rear, .int .i64 turn, .int .i64 kilos, .int .i64 mid, .int .i64 high, .sl (ls.map Ld.av) none], [.nils, .nils], [.sl (ks.map fun z => AV.int .i64 z) (some 0), .sl (ts.map fun z => AV.int .i64 z) (some 1)]], [(ks.length, 1), (ts.length, 1), (1, 1), (1, 1)]⟩) (⟨[[.int .i64 len, .int .i64 wid, .int .i64 front, .int .i64 rear, .int .i64 turn, .int .i64 kilos, .int .i64 mid, .int .i64 high, .sl (ls.map Ld.av) none], [.nils, .nils], [.sl (ks.map fun z => AV.int .i64 z) (some 0), .sl (ts.map fun z => AV.int .i64 z) (some 1)]], [(ks.length + 1, 1), (ts.length, 1), (1, 1), (1, 1)]⟩) rfl rfl rfl rfl rfl (by simp [vA, fRes_eq, hkl, hz])
          simp only [putA, List.set_cons_zero, List.set_cons_succ]
          (repeat (first | exact DrO.nil rfl | (apply DrO.eff; (case hw => rfl); (case hd => rfl); (case hl => rfl); (case hs => rfl); (case hs' => rfl); (case hv => (simp [vA, fRes_eq, e1, l1, Ld.av_cells]; first|done|exact ⟨⟨rfl,rfl⟩,rfl⟩|exact ⟨rfl,rfl⟩|exact rfl)); (try simp only [sA])) | (apply DrO.pure; (case hw => rfl); (case hd => rfl); (case hv => (simp only [List.mem_cons, List.not_mem_nil, or_false, forall_eq_or_imp, forall_eq]; simp [vA, fRes_eq, e1, l1, Ld.av_cells]; first | done | exact ⟨⟨rfl, rfl⟩, rfl⟩ | exact ⟨rfl, rfl⟩ | exact rfl | (refine ⟨rfl, ?_⟩; first | done | rfl | simp))); (try simp only [sA]))))
          apply DrO.row 3 1 [.int .i64 tlo] rfl rfl (fun st _ => rfl) (by simp) (by simp) (by simp)
          simp only [putA, List.set_cons_zero, List.set_cons_succ]
          apply DrO.eff (.sl ((ts.map fun z => AV.int .i64 z) ++ [.int .i64 tlo]) (some 1)) (⟨[[.int .i64 len, .int .i64 wid, .int .i64 front, .int .i64 rear, .int .i64 turn, .int .i64 kilos, .int .i64 mid, .int .i64 high, .sl (ls.map Ld.av) none], [.nils, .nils], [.sl (ks.map fun z => AV.int .i64 z) (some 0), .sl (ts.map fun z => AV.int .i64 z) (some 1)]], [(ks.length + 1, 1), (ts.length, 1), (1, 1), (1, 1)]⟩) (⟨[[.int .i64 len, .int .i64 wid, .int .i64 front, .int .i64 rear, .int .i64 turn, .int .i64 kilos, .int .i64 mid, .int .i64 high, .sl (ls.map Ld.av) none], [.nils, .nils], [.sl (ks.map fun z => AV.int .i64 z) (some 0), .sl (ts.map fun z => AV.int .i64 z) (some 1)]], [(ks.length + 1, 1), (ts.length + 1, 1), (1, 1), (1, 1)]⟩) rfl rfl rfl rfl rfl (by simp [vA, fRes_eq, htl, hz])
          simp only [putA, List.set_cons_zero, List.set_cons_succ]
          (repeat (first | exact DrO.nil rfl | (apply DrO.eff; (case hw => rfl); (case hd => rfl); (case hl => rfl); (case hs => rfl); (case hs' => rfl); (case hv => (simp [vA, fRes_eq]; first|done|exact ⟨⟨rfl,rfl⟩,rfl⟩|exact ⟨rfl,rfl⟩|exact rfl)); (try simp only [sA])) | (apply DrO.pure; (case hw => rfl); (case hd => rfl); (case hv => (simp only [List.mem_cons, List.not_mem_nil, or_false, forall_eq_or_imp, forall_eq]; simp [vA, fRes_eq]; first | done | exact ⟨⟨rfl, rfl⟩, rfl⟩ | exact ⟨rfl, rfl⟩ | exact rfl | (refine ⟨rfl, ?_⟩; first | done | rfl | simp))); (try simp only [sA]))))
        simp only [List.drop_succ_cons, List.drop_zero, List.getLastD_cons, List.getLastD_nil, List.append_nil, List.cons_append, List.nil_append]
        (repeat (first|((first|refine ExO.nil ?_|refine Ex.skip ?_|refine Ex.ret ?_|refine Ex.exit ?_); try dsimp only)|((first|(refine xI ?_; intro _ _)|refine xL ?_|(refine xB ?_; intro _ _)|refine xG ?_|refine xS ?_|refine xM ?_|(refine xC ?_; intro _ _)|refine xW ?_); try simp only [sA])|refine Ex.seq ?_|refine Ex.reg ?_|refine Ex.block ?_|refine eT ?_|refine eF ?_|simp only [reduceCtorEq, AEx.ex.injEq, Nat.reduceEqDiff, if_true, if_false]))
        rename_i m hm
        rw [i64_in (by omega) (by omega)] at hm
        have hm2 : m = ((i + 1 : Nat) : Int) := by omega
        subst hm2
        have hck2 := clean_ints (ks ++ [klo])
        have hct2 := clean_ints (ts ++ [tlo])
        rw [List.map_append] at hck2 hct2
        refine ⟨_, _, forgets 3 [0, 1] ([false, true, true, true, true, false, false, false, false, false, false, false, false, false, false, false, false, false, false, false, false, false, false, false, false, false, false, false, false, false, false, false, false, false, false, false, false]) (by decide) (by simp) (bx2 := [[.int .i64 len, .int .i64 wid, .int .i64 front, .int .i64 rear, .int .i64 turn, .int .i64 kilos, .int .i64 mid, .int .i64 high, .sl (ls.map Ld.av) none], [.nils, .nils], [.sl ((ks.map fun z => AV.int .i64 z) ++ [.int .i64 klo]) (some 0), .sl ((ts.map fun z => AV.int .i64 z) ++ [.int .i64 tlo]) (some 1)]]) ?_ (lv2 := [(ks.length + 1, 1), (ts.length + 1, 1)]) (by simp) (by decide), ls.length - (i + 1), by omega, i + 1, ks ++ [klo], ts ++ [tlo], _, _, hk2, ht2, by omega, rfl, .inr ⟨by rw [List.map_append, List.map_append], by rw [List.length_append, List.length_append]⟩, by rfl, by rfl⟩
        simp only [List.map_cons, List.map_nil] at hck2 hct2
        simp [re, re1, AV.clean, cleanL, clean_lds, hck2, hct2, List.idxOf?, List.findIdx?, List.findIdx?.go]

theorem greatest_m (len wid front rear turn kilos mid high : Int) (ls : List Ld) (hlen : ls.length ≤ 20) : Does Try.prog 79 [.agg [.int .i64 len, .int .i64 wid, .int .i64 front, .int .i64 rear, .int .i64 turn, .int .i64 kilos, .int .i64 mid, .int .i64 high, .sl (ls.map Ld.av) none]] [] fun v c' => v = .agg [IL (ls.map Ld.khi), IL (ls.map Ld.thi)] ∧ c' = [] := by
  refine Does.of comp79 ?_
  unfold F79
  simp only [start, List.length_cons, List.length_nil, List.replicate, List.cons_append, List.nil_append, Nat.reduceAdd, Nat.reduceSub]
  (repeat (first|((first|refine ExO.nil ?_|refine Ex.skip ?_|refine Ex.ret ?_|refine Ex.exit ?_); try dsimp only)|((first|(refine xI ?_; intro _ _)|refine xL ?_|(refine xB ?_; intro _ _)|refine xG ?_|refine xS ?_|refine xM ?_|(refine xC ?_; intro _ _)|refine xW ?_); try simp only [sA])|refine Ex.seq ?_|refine Ex.reg ?_|refine Ex.block ?_|refine eT ?_|refine eF ?_|simp only [reduceCtorEq, AEx.ex.injEq, Nat.reduceEqDiff, if_true, if_false]))
  refine Ex.loopF (fun k a S => ∃ i ks ts tb lv, ks = (ls.take i).map Ld.khi ∧ ts = (ls.take i).map Ld.thi ∧ i ≤ ls.length ∧ k = ls.length - i ∧ ((i = 0 ∧ tb = [.nils, .nils] ∧ lv = []) ∨ (tb = [.sl (ks.map fun z => AV.int .i64 z) (some 0), .sl (ts.map fun z => AV.int .i64 z) (some 1)] ∧ lv = [(ks.length, 1), (ts.length, 1)])) ∧ a = [.junk, .ptr 0 0, .ptr 1 0, .ptr 2 0, .int .i64 (i : Nat), .junk, .junk, .junk, .junk, .junk, .junk, .junk, .junk, .junk, .junk, .junk, .junk, .junk, .junk, .junk, .junk, .junk, .junk, .junk, .junk, .junk, .junk, .junk, .junk, .junk, .junk, .junk, .junk, .junk, .junk, .junk, .junk] ∧ S = ⟨[[.int .i64 len, .int .i64 wid, .int .i64 front, .int .i64 rear, .int .i64 turn, .int .i64 kilos, .int .i64 mid, .int .i64 high, .sl (ls.map Ld.av) none], [.nils, .nils], tb], lv⟩) ls.length ?_ ?_
  · exact ⟨_, _, forgets 3 [] ([false, true, true, true, true, false, false, false, false, false, false, false, false, false, false, false, false, false, false, false, false, false, false, false, false, false, false, false, false, false, false, false, false, false, false, false, false]) (by decide) (by simp) (bx2 := [[.int .i64 len, .int .i64 wid, .int .i64 front, .int .i64 rear, .int .i64 turn, .int .i64 kilos, .int .i64 mid, .int .i64 high, .sl (ls.map Ld.av) none], [.nils, .nils], [.nils, .nils]]) (by simp [re, re1, AV.clean, clean_lds]) (by rfl) (by decide), 0, [], [], _, _, rfl, rfl, by omega, rfl, .inl ⟨rfl, rfl, rfl⟩, by rfl, by rfl⟩
  · rintro k a S ⟨i, ks, ts, tb, lv, hks, hts, hi, rfl, htb, rfl, rfl⟩
    (repeat (first|((first|refine ExO.nil ?_|refine Ex.skip ?_|refine Ex.ret ?_|refine Ex.exit ?_); try dsimp only)|((first|(refine xI ?_; intro _ _)|refine xL ?_|(refine xB ?_; intro _ _)|refine xG ?_|refine xS ?_|refine xM ?_|(refine xC ?_; intro _ _)|refine xW ?_); try simp only [sA])|refine Ex.seq ?_|refine Ex.reg ?_|refine Ex.block ?_|refine eT ?_|refine eF ?_|simp only [reduceCtorEq, AEx.ex.injEq, Nat.reduceEqDiff, if_true, if_false]))
    rename_i c hc
    have hkl : ks.length = i := by rw [hks, List.length_map, List.length_take]; omega
    have htl : ts.length = i := by rw [hts, List.length_map, List.length_take]; omega
    have hck := clean_ints ks
    have hct := clean_ints ts
    cases c
    · have hge : ls.length ≤ i := by have := hc.symm; simp at this; omega
      have hie : i = ls.length := by omega
      subst hie
      rw [List.take_length] at hks hts
      (refine Ex.cond (b := false) (by first | rfl | simp [evd]) ?_; simp only [Bool.false_eq_true, if_false])
      (repeat (first|((first|refine ExO.nil ?_|refine Ex.skip ?_|refine Ex.ret ?_|refine Ex.exit ?_); try dsimp only)|((first|(refine xI ?_; intro _ _)|refine xL ?_|(refine xB ?_; intro _ _)|refine xG ?_|refine xS ?_|refine xM ?_|(refine xC ?_; intro _ _)|refine xW ?_); try simp only [sA])|refine Ex.seq ?_|refine Ex.reg ?_|refine Ex.block ?_|refine eT ?_|refine eF ?_|simp only [reduceCtorEq, AEx.ex.injEq, Nat.reduceEqDiff, if_true, if_false]))
      refine ExO.forget (fade [] [[], [], [true, true]]) ?_
      subst hks
      subst hts
      rcases htb with ⟨h0, rfl, rfl⟩ | ⟨rfl, rfl⟩
      · have hl0 := List.eq_nil_of_length_eq_zero h0
        subst hl0
        simp only [chillL, chillB, fadeV, if_true]
        (repeat (first|((first|refine ExO.nil ?_|refine Ex.skip ?_|refine Ex.ret ?_|refine Ex.exit ?_); try dsimp only)|((first|(refine xI ?_; intro _ _)|refine xL ?_|(refine xB ?_; intro _ _)|refine xG ?_|refine xS ?_|refine xM ?_|(refine xC ?_; intro _ _)|refine xW ?_); try simp only [sA])|refine Ex.seq ?_|refine Ex.reg ?_|refine Ex.block ?_|refine eT ?_|refine eF ?_|simp only [reduceCtorEq, AEx.ex.injEq, Nat.reduceEqDiff, if_true, if_false]))
        simp [evRes, evRes1, one, AV.names, takeCells, IL]
      · simp only [chillL, chillB, fadeV, if_true]
        (repeat (first|((first|refine ExO.nil ?_|refine Ex.skip ?_|refine Ex.ret ?_|refine Ex.exit ?_); try dsimp only)|((first|(refine xI ?_; intro _ _)|refine xL ?_|(refine xB ?_; intro _ _)|refine xG ?_|refine xS ?_|refine xM ?_|(refine xC ?_; intro _ _)|refine xW ?_); try simp only [sA])|refine Ex.seq ?_|refine Ex.reg ?_|refine Ex.block ?_|refine eT ?_|refine eF ?_|simp only [reduceCtorEq, AEx.ex.injEq, Nat.reduceEqDiff, if_true, if_false]))
        simp [evRes, evRes1, one, AV.names, takeCells, IL]
    · have hil : i < ls.length := by have := hc.symm; simpa using this
      have e1 : ls[i]? = some ls[i] := List.getElem?_eq_getElem hil
      generalize ls[i] = l at e1
      have hk2 : ks ++ [l.khi] = (ls.take (i + 1)).map Ld.khi := by rw [take_snoc e1, List.map_append, hks]; rfl
      have ht2 : ts ++ [l.thi] = (ls.take (i + 1)).map Ld.thi := by rw [take_snoc e1, List.map_append, hts]; rfl
      obtain ⟨pt, klo, khi, tlo, thi, kind, watts⟩ := l
      have l1 : (i : Int) < (ls.length : Int) := by omega
      (refine Ex.cond (b := true) (by first | rfl | simp [evd]) ?_; simp only [if_true])
      (repeat (first|((first|refine ExO.nil ?_|refine Ex.skip ?_|refine Ex.ret ?_|refine Ex.exit ?_); try dsimp only)|((first|(refine xI ?_; intro _ _)|refine xL ?_|(refine xB ?_; intro _ _)|refine xG ?_|refine xS ?_|refine xM ?_|(refine xC ?_; intro _ _)|refine xW ?_); try simp only [sA])|refine Ex.seq ?_|refine Ex.reg ?_|refine Ex.block ?_|refine eT ?_|refine eF ?_|simp only [reduceCtorEq, AEx.ex.injEq, Nat.reduceEqDiff, if_true, if_false]))
      rcases htb with ⟨h0, rfl, rfl⟩ | ⟨rfl, rfl⟩
      · subst h0
        have hks0 : ks = [] := by rw [hks]; rfl
        have hts0 : ts = [] := by rw [hts]; rfl
        subst hks0
        subst hts0
        have l0 : 0 < ls.length := hil
        have e0 := (List.getElem?_eq_some_iff.1 e1).2
        have l0' : (0 : Int) < (ls.length : Int) := by omega
        apply Ex.drawE (noClr_ok _) [] [(1, 1), (1, 1)] [⟨[[.int .i64 len, .int .i64 wid, .int .i64 front, .int .i64 rear, .int .i64 turn, .int .i64 kilos, .int .i64 mid, .int .i64 high, .sl (ls.map Ld.av) none], [.nils, .nils], [.nils, .nils]], [(1, 1), (1, 1), (1, 1)]⟩, ⟨[[.int .i64 len, .int .i64 wid, .int .i64 front, .int .i64 rear, .int .i64 turn, .int .i64 kilos, .int .i64 mid, .int .i64 high, .sl (ls.map Ld.av) none], [.nils, .nils], [.nils, .nils]], [(1, 1), (1, 1), (1, 1), (1, 1)]⟩]
        case hD =>
          simp only [List.take_succ_cons, List.take_zero, List.append_nil, List.nil_append]
          (repeat (first | exact DrO.nil rfl | (apply DrO.eff; (case hw => rfl); (case hd => rfl); (case hl => rfl); (case hs => rfl); (case hs' => rfl); (case hv => (simp [vA, fRes_eq, e0, l0, l0', Ld.av_cells]; first|done|exact ⟨⟨rfl,rfl⟩,rfl⟩|exact ⟨rfl,rfl⟩|exact rfl)); (try simp only [sA])) | (apply DrO.pure; (case hw => rfl); (case hd => rfl); (case hv => (simp only [List.mem_cons, List.not_mem_nil, or_false, forall_eq_or_imp, forall_eq]; simp [vA, fRes_eq, e0, l0, l0', Ld.av_cells]; first | done | exact ⟨⟨rfl, rfl⟩, rfl⟩ | exact ⟨rfl, rfl⟩ | exact rfl | (refine ⟨rfl, ?_⟩; first | done | rfl | simp))); (try simp only [sA]))))
          apply DrO.row 0 1 [.int .i64 khi] rfl rfl (fun st _ => rfl) (by simp) (by simp) (by simp)
          simp only [putA, List.set_cons_zero, List.set_cons_succ]
          (repeat (first | exact DrO.nil rfl | (apply DrO.eff; (case hw => rfl); (case hd => rfl); (case hl => rfl); (case hs => rfl); (case hs' => rfl); (case hv => (simp [vA, fRes_eq, e0, l0, l0', Ld.av_cells]; first|done|exact ⟨⟨rfl,rfl⟩,rfl⟩|exact ⟨rfl,rfl⟩|exact rfl)); (try simp only [sA])) | (apply DrO.pure; (case hw => rfl); (case hd => rfl); (case hv => (simp only [List.mem_cons, List.not_mem_nil, or_false, forall_eq_or_imp, forall_eq]; simp [vA, fRes_eq, e0, l0, l0', Ld.av_cells]; first | done | exact ⟨⟨rfl, rfl⟩, rfl⟩ | exact ⟨rfl, rfl⟩ | exact rfl | (refine ⟨rfl, ?_⟩; first | done | rfl | simp))); (try simp only [sA]))))
          apply DrO.row 1 1 [.int .i64 thi] rfl rfl (fun st _ => rfl) (by simp) (by simp) (by simp)
          simp only [putA, List.set_cons_zero, List.set_cons_succ]
          (repeat (first | exact DrO.nil rfl | (apply DrO.eff; (case hw => rfl); (case hd => rfl); (case hl => rfl); (case hs => rfl); (case hs' => rfl); (case hv => (simp [vA, fRes_eq, e0, l0, l0', Ld.av_cells]; first|done|exact ⟨⟨rfl,rfl⟩,rfl⟩|exact ⟨rfl,rfl⟩|exact rfl)); (try simp only [sA])) | (apply DrO.pure; (case hw => rfl); (case hd => rfl); (case hv => (simp only [List.mem_cons, List.not_mem_nil, or_false, forall_eq_or_imp, forall_eq]; simp [vA, fRes_eq, e0, l0, l0', Ld.av_cells]; first | done | exact ⟨⟨rfl, rfl⟩, rfl⟩ | exact ⟨rfl, rfl⟩ | exact rfl | (refine ⟨rfl, ?_⟩; first | done | rfl | simp))); (try simp only [sA]))))
        simp only [List.drop_succ_cons, List.drop_zero, List.getLastD_cons, List.getLastD_nil, List.append_nil, List.cons_append, List.nil_append]
        (repeat (first|((first|refine ExO.nil ?_|refine Ex.skip ?_|refine Ex.ret ?_|refine Ex.exit ?_); try dsimp only)|((first|(refine xI ?_; intro _ _)|refine xL ?_|(refine xB ?_; intro _ _)|refine xG ?_|refine xS ?_|refine xM ?_|(refine xC ?_; intro _ _)|refine xW ?_); try simp only [sA])|refine Ex.seq ?_|refine Ex.reg ?_|refine Ex.block ?_|refine eT ?_|refine eF ?_|simp only [reduceCtorEq, AEx.ex.injEq, Nat.reduceEqDiff, if_true, if_false]))
        rename_i m hm
        rw [i64_in (by omega) (by omega)] at hm
        have hm2 : m = ((0 + 1 : Nat) : Int) := by omega
        subst hm2
        exact ⟨_, _, forgets 3 [2, 3] ([false, true, true, true, true, false, false, false, false, false, false, false, false, false, false, false, false, false, false, false, false, false, false, false, false, false, false, false, false, false, false, false, false, false, false, false, false]) (by decide) (by simp) (bx2 := [[.int .i64 len, .int .i64 wid, .int .i64 front, .int .i64 rear, .int .i64 turn, .int .i64 kilos, .int .i64 mid, .int .i64 high, .sl (ls.map Ld.av) none], [.nils, .nils], [.sl [.int .i64 khi] (some 0), .sl [.int .i64 thi] (some 1)]]) (by simp [re, re1, AV.clean, cleanL, clean_lds, List.idxOf?, List.findIdx?, List.findIdx?.go]) (lv2 := [(1, 1), (1, 1)]) (by simp) (by decide), ls.length - 1, by omega, 1, [khi], [thi], _, _, hk2, ht2, by omega, rfl, .inr ⟨rfl, rfl⟩, by rfl, by rfl⟩
      · have hz : i + 1 ≤ 65536 := by omega
        apply Ex.drawE (noClr_ok _) [] [(1, 1), (1, 1)] [⟨[[.int .i64 len, .int .i64 wid, .int .i64 front, .int .i64 rear, .int .i64 turn, .int .i64 kilos, .int .i64 mid, .int .i64 high, .sl (ls.map Ld.av) none], [.nils, .nils], [.sl (ks.map fun z => AV.int .i64 z) (some 0), .sl (ts.map fun z => AV.int .i64 z) (some 1)]], [(ks.length + 1, 1), (ts.length, 1), (1, 1), (1, 1)]⟩, ⟨[[.int .i64 len, .int .i64 wid, .int .i64 front, .int .i64 rear, .int .i64 turn, .int .i64 kilos, .int .i64 mid, .int .i64 high, .sl (ls.map Ld.av) none], [.nils, .nils], [.sl (ks.map fun z => AV.int .i64 z) (some 0), .sl (ts.map fun z => AV.int .i64 z) (some 1)]], [(ks.length + 1, 1), (ts.length + 1, 1), (1, 1), (1, 1)]⟩]
        case hD =>
          simp only [List.take_succ_cons, List.take_zero, List.append_nil, List.nil_append, List.cons_append]
          (repeat (first | exact DrO.nil rfl | (apply DrO.eff; (case hw => rfl); (case hd => rfl); (case hl => rfl); (case hs => rfl); (case hs' => rfl); (case hv => (simp [vA, fRes_eq, e1, l1, Ld.av_cells]; first|done|exact ⟨⟨rfl,rfl⟩,rfl⟩|exact ⟨rfl,rfl⟩|exact rfl)); (try simp only [sA])) | (apply DrO.pure; (case hw => rfl); (case hd => rfl); (case hv => (simp only [List.mem_cons, List.not_mem_nil, or_false, forall_eq_or_imp, forall_eq]; simp [vA, fRes_eq, e1, l1, Ld.av_cells]; first | done | exact ⟨⟨rfl, rfl⟩, rfl⟩ | exact ⟨rfl, rfl⟩ | exact rfl | (refine ⟨rfl, ?_⟩; first | done | rfl | simp))); (try simp only [sA]))))
          apply DrO.row 2 1 [.int .i64 khi] rfl rfl (fun st _ => rfl) (by simp) (by simp) (by simp)
          simp only [putA, List.set_cons_zero, List.set_cons_succ]
          apply DrO.eff (.sl ((ks.map fun z => AV.int .i64 z) ++ [.int .i64 khi]) (some 0)) (⟨[[.int .i64 len, .int .i64 wid, .int .i64 front, .int .i64 rear, .int .i64 turn, .int .i64 kilos, .int .i64 mid, .int .i64 high, .sl (ls.map Ld.av) none], [.nils, .nils], [.sl (ks.map fun z => AV.int .i64 z) (some 0), .sl (ts.map fun z => AV.int .i64 z) (some 1)]], [(ks.length, 1), (ts.length, 1), (1, 1), (1, 1)]⟩) (⟨[[.int .i64 len, .int .i64 wid, .int .i64 front, .int .i64 rear, .int .i64 turn, .int .i64 kilos, .int .i64 mid, .int .i64 high, .sl (ls.map Ld.av) none], [.nils, .nils], [.sl (ks.map fun z => AV.int .i64 z) (some 0), .sl (ts.map fun z => AV.int .i64 z) (some 1)]], [(ks.length + 1, 1), (ts.length, 1), (1, 1), (1, 1)]⟩) rfl rfl rfl rfl rfl (by simp [vA, fRes_eq, hkl, hz])
          simp only [putA, List.set_cons_zero, List.set_cons_succ]
          (repeat (first | exact DrO.nil rfl | (apply DrO.eff; (case hw => rfl); (case hd => rfl); (case hl => rfl); (case hs => rfl); (case hs' => rfl); (case hv => (simp [vA, fRes_eq, e1, l1, Ld.av_cells]; first|done|exact ⟨⟨rfl,rfl⟩,rfl⟩|exact ⟨rfl,rfl⟩|exact rfl)); (try simp only [sA])) | (apply DrO.pure; (case hw => rfl); (case hd => rfl); (case hv => (simp only [List.mem_cons, List.not_mem_nil, or_false, forall_eq_or_imp, forall_eq]; simp [vA, fRes_eq, e1, l1, Ld.av_cells]; first | done | exact ⟨⟨rfl, rfl⟩, rfl⟩ | exact ⟨rfl, rfl⟩ | exact rfl | (refine ⟨rfl, ?_⟩; first | done | rfl | simp))); (try simp only [sA]))))
          apply DrO.row 3 1 [.int .i64 thi] rfl rfl (fun st _ => rfl) (by simp) (by simp) (by simp)
          simp only [putA, List.set_cons_zero, List.set_cons_succ]
          apply DrO.eff (.sl ((ts.map fun z => AV.int .i64 z) ++ [.int .i64 thi]) (some 1)) (⟨[[.int .i64 len, .int .i64 wid, .int .i64 front, .int .i64 rear, .int .i64 turn, .int .i64 kilos, .int .i64 mid, .int .i64 high, .sl (ls.map Ld.av) none], [.nils, .nils], [.sl (ks.map fun z => AV.int .i64 z) (some 0), .sl (ts.map fun z => AV.int .i64 z) (some 1)]], [(ks.length + 1, 1), (ts.length, 1), (1, 1), (1, 1)]⟩) (⟨[[.int .i64 len, .int .i64 wid, .int .i64 front, .int .i64 rear, .int .i64 turn, .int .i64 kilos, .int .i64 mid, .int .i64 high, .sl (ls.map Ld.av) none], [.nils, .nils], [.sl (ks.map fun z => AV.int .i64 z) (some 0), .sl (ts.map fun z => AV.int .i64 z) (some 1)]], [(ks.length + 1, 1), (ts.length + 1, 1), (1, 1), (1, 1)]⟩) rfl rfl rfl rfl rfl (by simp [vA, fRes_eq, htl, hz])
          simp only [putA, List.set_cons_zero, List.set_cons_succ]
          (repeat (first | exact DrO.nil rfl | (apply DrO.eff; (case hw => rfl); (case hd => rfl); (case hl => rfl); (case hs => rfl); (case hs' => rfl); (case hv => (simp [vA, fRes_eq]; first|done|exact ⟨⟨rfl,rfl⟩,rfl⟩|exact ⟨rfl,rfl⟩|exact rfl)); (try simp only [sA])) | (apply DrO.pure; (case hw => rfl); (case hd => rfl); (case hv => (simp only [List.mem_cons, List.not_mem_nil, or_false, forall_eq_or_imp, forall_eq]; simp [vA, fRes_eq]; first | done | exact ⟨⟨rfl, rfl⟩, rfl⟩ | exact ⟨rfl, rfl⟩ | exact rfl | (refine ⟨rfl, ?_⟩; first | done | rfl | simp))); (try simp only [sA]))))
        simp only [List.drop_succ_cons, List.drop_zero, List.getLastD_cons, List.getLastD_nil, List.append_nil, List.cons_append, List.nil_append]
        (repeat (first|((first|refine ExO.nil ?_|refine Ex.skip ?_|refine Ex.ret ?_|refine Ex.exit ?_); try dsimp only)|((first|(refine xI ?_; intro _ _)|refine xL ?_|(refine xB ?_; intro _ _)|refine xG ?_|refine xS ?_|refine xM ?_|(refine xC ?_; intro _ _)|refine xW ?_); try simp only [sA])|refine Ex.seq ?_|refine Ex.reg ?_|refine Ex.block ?_|refine eT ?_|refine eF ?_|simp only [reduceCtorEq, AEx.ex.injEq, Nat.reduceEqDiff, if_true, if_false]))
        rename_i m hm
        rw [i64_in (by omega) (by omega)] at hm
        have hm2 : m = ((i + 1 : Nat) : Int) := by omega
        subst hm2
        have hck2 := clean_ints (ks ++ [khi])
        have hct2 := clean_ints (ts ++ [thi])
        rw [List.map_append] at hck2 hct2
        refine ⟨_, _, forgets 3 [0, 1] ([false, true, true, true, true, false, false, false, false, false, false, false, false, false, false, false, false, false, false, false, false, false, false, false, false, false, false, false, false, false, false, false, false, false, false, false, false]) (by decide) (by simp) (bx2 := [[.int .i64 len, .int .i64 wid, .int .i64 front, .int .i64 rear, .int .i64 turn, .int .i64 kilos, .int .i64 mid, .int .i64 high, .sl (ls.map Ld.av) none], [.nils, .nils], [.sl ((ks.map fun z => AV.int .i64 z) ++ [.int .i64 khi]) (some 0), .sl ((ts.map fun z => AV.int .i64 z) ++ [.int .i64 thi]) (some 1)]]) ?_ (lv2 := [(ks.length + 1, 1), (ts.length + 1, 1)]) (by simp) (by decide), ls.length - (i + 1), by omega, i + 1, ks ++ [khi], ts ++ [thi], _, _, hk2, ht2, by omega, rfl, .inr ⟨by rw [List.map_append, List.map_append], by rw [List.length_append, List.length_append]⟩, by rfl, by rfl⟩
        simp only [List.map_cons, List.map_nil] at hck2 hct2
        simp [re, re1, AV.clean, cleanL, clean_lds, hck2, hct2, List.idxOf?, List.findIdx?, List.findIdx?.go]

def wtk (kilos mid : Int) (ks : List Int) (ls : List Ld) : List (Int × Int) := (kilos, mid) :: List.zipWith (fun k l => (k, l.pt)) ks ls
theorem wtk_len (kilos mid : Int) (ks : List Int) (ls : List Ld) (h : ks.length = ls.length) : (wtk kilos mid ks ls).length = ks.length + 1 := by simp [wtk, h]
theorem wtk_get (kilos mid : Int) (ks : List Int) (ls : List Ld) {i : Nat} {k : Int} {l : Ld} (h1 : ks[i]? = some k) (h2 : ls[i]? = some l) : (wtk kilos mid ks ls)[i + 1]? = some (k, l.pt) := by
  simp [wtk, List.getElem?_zipWith, h1, h2]
theorem mem_take' {α : Type} {l : List α} {i : Nat} {P : α → Prop} (h : ∀ x ∈ l, P x) : ∀ x ∈ l.take i, P x := fun x hx => h x (List.mem_of_mem_take hx)
def TAV (ks ts : List Int) : AV := .agg [IL ks, IL ts]

theorem weighs_m (len wid front rear turn kilos mid high : Int) (ls : List Ld) (ks ts : List Int) (hlen : ls.length ≤ 20) (hkl : ks.length = ls.length) (hW : ∀ w ∈ wtk kilos mid ks ls, WOk w) : Does Try.prog 22 [.agg [.int .i64 len, .int .i64 wid, .int .i64 front, .int .i64 rear, .int .i64 turn, .int .i64 kilos, .int .i64 mid, .int .i64 high, .sl (ls.map Ld.av) none], .agg [IL ks, IL ts]] [] fun v c' => v = .int .i64 (tot (wtk kilos mid ks ls)) ∧ c' = [] := by
  have hck := clean_ints ks
  have hct := clean_ints ts
  have hwl := wtk_len kilos mid ks ls hkl
  unfold IL
  refine Does.of comp22 ?_
  unfold F22
  simp only [start, List.length_cons, List.length_nil, List.replicate, List.cons_append, List.nil_append, Nat.reduceAdd, Nat.reduceSub]
  (repeat (first|((first|refine ExO.nil ?_|refine Ex.skip ?_|refine Ex.ret ?_|refine Ex.exit ?_); try dsimp only)|((first|(refine xI ?_; intro _ _)|refine xL ?_|(refine xB ?_; intro _ _)|refine xG ?_|refine xS ?_|refine xM ?_|(refine xC ?_; intro _ _)|refine xW ?_); try simp only [sA])|refine Ex.seq ?_|refine Ex.reg ?_|refine Ex.block ?_|refine eT ?_|refine eF ?_|simp only [reduceCtorEq, AEx.ex.injEq, Nat.reduceEqDiff, if_true, if_false]))
  refine Ex.loopF (fun k a S => ∃ i, i ≤ ks.length ∧ k = ks.length - i ∧ a = [.junk, .junk, .ptr 0 0, .ptr 1 0, .junk, .int .i64 (tot ((wtk kilos mid ks ls).take (i + 1))), .int .i64 (i : Nat), .junk, .junk, .junk, .junk, .junk, .junk, .junk, .junk, .junk, .junk, .junk, .junk, .junk, .junk, .junk, .junk, .junk] ∧ S = ⟨[[.int .i64 len, .int .i64 wid, .int .i64 front, .int .i64 rear, .int .i64 turn, .int .i64 kilos, .int .i64 mid, .int .i64 high, .sl (ls.map Ld.av) none], [.sl (ks.map fun z => AV.int .i64 z) none, .sl (ts.map fun z => AV.int .i64 z) none]], []⟩) ks.length ?_ ?_
  · exact ⟨_, _, forgets 2 [] ([false, false, true, true, false, true, true, false, false, false, false, false, false, false, false, false, false, false, false, false, false, false, false, false]) (by decide) (by simp) (bx2 := [[.int .i64 len, .int .i64 wid, .int .i64 front, .int .i64 rear, .int .i64 turn, .int .i64 kilos, .int .i64 mid, .int .i64 high, .sl (ls.map Ld.av) none], [.sl (ks.map fun z => AV.int .i64 z) none, .sl (ts.map fun z => AV.int .i64 z) none]]) (by simp [re, re1, AV.clean, clean_lds, hck, hct]) (by rfl) (by decide), 0, by omega, by omega, by simp [keepS, re, re1, AV.clean, wtk, tot], by rfl⟩
  · rintro k a S ⟨i, hi, rfl, rfl, rfl⟩
    (repeat (first|((first|refine ExO.nil ?_|refine Ex.skip ?_|refine Ex.ret ?_|refine Ex.exit ?_); try dsimp only)|((first|(refine xI ?_; intro _ _)|refine xL ?_|(refine xB ?_; intro _ _)|refine xG ?_|refine xS ?_|refine xM ?_|(refine xC ?_; intro _ _)|refine xW ?_); try simp only [sA])|refine Ex.seq ?_|refine Ex.reg ?_|refine Ex.block ?_|refine eT ?_|refine eF ?_|simp only [reduceCtorEq, AEx.ex.injEq, Nat.reduceEqDiff, if_true, if_false]))
    rename_i c hc
    cases c
    · have hge : ks.length ≤ i := by have := hc.symm; simp at this; omega
      rw [List.take_of_length_le (by omega)]
      (refine Ex.cond (b := false) (by first | rfl | simp [evd]) ?_; simp only [Bool.false_eq_true, if_false])
      (repeat (first|((first|refine ExO.nil ?_|refine Ex.skip ?_|refine Ex.ret ?_|refine Ex.exit ?_); try dsimp only)|((first|(refine xI ?_; intro _ _)|refine xL ?_|(refine xB ?_; intro _ _)|refine xG ?_|refine xS ?_|refine xM ?_|(refine xC ?_; intro _ _)|refine xW ?_); try simp only [sA])|refine Ex.seq ?_|refine Ex.reg ?_|refine Ex.block ?_|refine eT ?_|refine eF ?_|simp only [reduceCtorEq, AEx.ex.injEq, Nat.reduceEqDiff, if_true, if_false]))
      simp [evRes, evRes1, one, AV.names, takeCells]
    · have hil : i < ks.length := by have := hc.symm; simpa using this
      have e1 : ks[i]? = some ks[i] := List.getElem?_eq_getElem hil
      have e2 : ls[i]? = some ls[i] := List.getElem?_eq_getElem (by omega)
      generalize ks[i] = z at e1
      generalize ls[i] = l at e2
      have hg := wtk_get kilos mid ks ls e1 e2
      have hst := tot_take _ _ _ hg
      have hb := tot_in _ (mem_take' (i := i + 1 + 1) hW)
      rw [List.length_take] at hb
      have hz := hW _ (List.mem_of_getElem? hg)
      have l1 : (i : Int) < (ks.length : Int) := by omega
      (refine Ex.cond (b := true) (by first | rfl | simp [evd]) ?_; simp only [if_true])
      (repeat (first|((first|refine ExO.nil ?_|refine Ex.skip ?_|refine Ex.ret ?_|refine Ex.exit ?_); try dsimp only)|((first|(refine xI ?_; intro _ _)|refine xL ?_|(refine xB ?_; intro _ _)|refine xG ?_|refine xS ?_|refine xM ?_|(refine xC ?_; intro _ _)|refine xW ?_); try simp only [sA])|refine Ex.seq ?_|refine Ex.reg ?_|refine Ex.block ?_|refine eT ?_|refine eF ?_|simp only [reduceCtorEq, AEx.ex.injEq, Nat.reduceEqDiff, if_true, if_false]))
      (apply ExO.stG; (case hk => rfl); (case hv => (simp [vA, fRes_eq, e1, l1]; first|done|exact ⟨⟨rfl,rfl⟩,rfl⟩|exact ⟨rfl,rfl⟩|exact rfl)); (try simp only [sA]))
      (apply ExO.stG; (case hk => rfl); (case hv => (simp [vA, fRes_eq]; first|done|exact ⟨⟨rfl,rfl⟩,rfl⟩|exact ⟨rfl,rfl⟩|exact rfl)); (try simp only [sA]))
      (repeat (first|((first|refine ExO.nil ?_|refine Ex.skip ?_|refine Ex.ret ?_|refine Ex.exit ?_); try dsimp only)|((first|(refine xI ?_; intro _ _)|refine xL ?_|(refine xB ?_; intro _ _)|refine xG ?_|refine xS ?_|refine xM ?_|(refine xC ?_; intro _ _)|refine xW ?_); try simp only [sA])|refine Ex.seq ?_|refine Ex.reg ?_|refine Ex.block ?_|refine eT ?_|refine eF ?_|simp only [reduceCtorEq, AEx.ex.injEq, Nat.reduceEqDiff, if_true, if_false]))
      rename_i m hm n hn
      have hmn : ((min (i + 1 + 1) (wtk kilos mid ks ls).length : Nat) : Int) ≤ 21 := by omega
      rw [i64_in (by omega) (by omega)] at hm
      rw [i64_in (by omega) (by omega)] at hn
      rw [← hst] at hm
      subst hm
      have hn2 : n = ((i + 1 : Nat) : Int) := by omega
      subst hn2
      exact ⟨_, _, forgets 2 [] ([false, false, true, true, false, true, true, false, false, false, false, false, false, false, false, false, false, false, false, false, false, false, false, false]) (by decide) (by simp) (bx2 := [[.int .i64 len, .int .i64 wid, .int .i64 front, .int .i64 rear, .int .i64 turn, .int .i64 kilos, .int .i64 mid, .int .i64 high, .sl (ls.map Ld.av) none], [.sl (ks.map fun z => AV.int .i64 z) none, .sl (ts.map fun z => AV.int .i64 z) none]]) (by simp [re, re1, AV.clean, clean_lds, hck, hct]) (by rfl) (by decide), ks.length - (i + 1), by omega, i + 1, by omega, rfl, by rfl, by rfl⟩
end Go.Proofs.Ytoefpcpijolofaa
end
section
namespace Go.Proofs.Ytoefpcpijolofaa
open Go.RowKit
set_option linter.unusedVariables false
set_option linter.unusedSimpArgs false
set_option maxRecDepth 10000
set_option maxHeartbeats 4000000

def hgk (high : Int) (ts : List Int) : Int := ts.foldl (fun m t => if m < t then t else m) high
theorem hgk_take (high : Int) {ts : List Int} {i : Nat} {t : Int} (h : ts[i]? = some t) : hgk high (ts.take (i + 1)) = if hgk high (ts.take i) < t then t else hgk high (ts.take i) := by
  unfold hgk
  rw [take_snoc h, List.foldl_append]
  rfl

theorem tall_m (len wid front rear turn kilos mid high : Int) (ls : List Ld) (ks ts : List Int) (htl : ts.length ≤ 20) : Does Try.prog 23 [.agg [.int .i64 len, .int .i64 wid, .int .i64 front, .int .i64 rear, .int .i64 turn, .int .i64 kilos, .int .i64 mid, .int .i64 high, .sl (ls.map Ld.av) none], .agg [IL ks, IL ts]] [] fun v c' => v = .int .i64 (hgk high ts) ∧ c' = [] := by
  have hck := clean_ints ks
  have hct := clean_ints ts
  unfold IL
  refine Does.of comp23 ?_
  unfold F23
  simp only [start, List.length_cons, List.length_nil, List.replicate, List.cons_append, List.nil_append, Nat.reduceAdd, Nat.reduceSub]
  (repeat (first|((first|refine ExO.nil ?_|refine Ex.skip ?_|refine Ex.ret ?_|refine Ex.exit ?_); try dsimp only)|((first|(refine xI ?_; intro _ _)|refine xL ?_|(refine xB ?_; intro _ _)|refine xG ?_|refine xS ?_|refine xM ?_|(refine xC ?_; intro _ _)|refine xW ?_); try simp only [sA])|refine Ex.seq ?_|refine Ex.reg ?_|refine Ex.block ?_|refine eT ?_|refine eF ?_|simp only [reduceCtorEq, AEx.ex.injEq, Nat.reduceEqDiff, if_true, if_false]))
  refine Ex.loopF (fun k a S => ∃ i, i ≤ ts.length ∧ k = ts.length - i ∧ a = [.junk, .junk, .ptr 0 0, .ptr 1 0, .junk, .int .i64 (hgk high (ts.take i)), .int .i64 (i : Nat), .junk, .junk, .junk, .junk, .junk, .junk, .junk, .junk, .junk, .junk, .junk, .junk, .junk, .junk, .junk, .junk, .junk] ∧ S = ⟨[[.int .i64 len, .int .i64 wid, .int .i64 front, .int .i64 rear, .int .i64 turn, .int .i64 kilos, .int .i64 mid, .int .i64 high, .sl (ls.map Ld.av) none], [.sl (ks.map fun z => AV.int .i64 z) none, .sl (ts.map fun z => AV.int .i64 z) none]], []⟩) ts.length ?_ ?_
  · exact ⟨_, _, forgets 2 [] ([false, false, true, true, false, true, true, false, false, false, false, false, false, false, false, false, false, false, false, false, false, false, false, false]) (by decide) (by simp) (bx2 := [[.int .i64 len, .int .i64 wid, .int .i64 front, .int .i64 rear, .int .i64 turn, .int .i64 kilos, .int .i64 mid, .int .i64 high, .sl (ls.map Ld.av) none], [.sl (ks.map fun z => AV.int .i64 z) none, .sl (ts.map fun z => AV.int .i64 z) none]]) (by simp [re, re1, AV.clean, clean_lds, hck, hct]) (by rfl) (by decide), 0, by omega, by omega, by simp [keepS, re, re1, AV.clean, hgk], by rfl⟩
  · rintro k a S ⟨i, hi, rfl, rfl, rfl⟩
    (repeat (first|((first|refine ExO.nil ?_|refine Ex.skip ?_|refine Ex.ret ?_|refine Ex.exit ?_); try dsimp only)|((first|(refine xI ?_; intro _ _)|refine xL ?_|(refine xB ?_; intro _ _)|refine xG ?_|refine xS ?_|refine xM ?_|(refine xC ?_; intro _ _)|refine xW ?_); try simp only [sA])|refine Ex.seq ?_|refine Ex.reg ?_|refine Ex.block ?_|refine eT ?_|refine eF ?_|simp only [reduceCtorEq, AEx.ex.injEq, Nat.reduceEqDiff, if_true, if_false]))
    rename_i c hc
    cases c
    · have hge : ts.length ≤ i := by have := hc.symm; simp at this; omega
      rw [List.take_of_length_le hge]
      (refine Ex.cond (b := false) (by first | rfl | simp [evd]) ?_; simp only [Bool.false_eq_true, if_false])
      (repeat (first|((first|refine ExO.nil ?_|refine Ex.skip ?_|refine Ex.ret ?_|refine Ex.exit ?_); try dsimp only)|((first|(refine xI ?_; intro _ _)|refine xL ?_|(refine xB ?_; intro _ _)|refine xG ?_|refine xS ?_|refine xM ?_|(refine xC ?_; intro _ _)|refine xW ?_); try simp only [sA])|refine Ex.seq ?_|refine Ex.reg ?_|refine Ex.block ?_|refine eT ?_|refine eF ?_|simp only [reduceCtorEq, AEx.ex.injEq, Nat.reduceEqDiff, if_true, if_false]))
      simp [evRes, evRes1, one, AV.names, takeCells]
    · have hil : i < ts.length := by have := hc.symm; simpa using this
      have e1 : ts[i]? = some ts[i] := List.getElem?_eq_getElem hil
      generalize ts[i] = z at e1
      have hst := hgk_take high e1
      have l1 : (i : Int) < (ts.length : Int) := by omega
      (refine Ex.cond (b := true) (by first | rfl | simp [evd]) ?_; simp only [if_true])
      (repeat (first|((first|refine ExO.nil ?_|refine Ex.skip ?_|refine Ex.ret ?_|refine Ex.exit ?_); try dsimp only)|((first|(refine xI ?_; intro _ _)|refine xL ?_|(refine xB ?_; intro _ _)|refine xG ?_|refine xS ?_|refine xM ?_|(refine xC ?_; intro _ _)|refine xW ?_); try simp only [sA])|refine Ex.seq ?_|refine Ex.reg ?_|refine Ex.block ?_|refine eT ?_|refine eF ?_|simp only [reduceCtorEq, AEx.ex.injEq, Nat.reduceEqDiff, if_true, if_false]))
      (apply ExO.stG; (case hk => rfl); (case hv => (simp [vA, fRes_eq, e1, l1]; first|done|exact ⟨⟨rfl,rfl⟩,rfl⟩|exact ⟨rfl,rfl⟩|exact rfl)); (try simp only [sA]))
      (apply ExO.stG; (case hk => rfl); (case hv => (simp [vA, fRes_eq]; first|done|exact ⟨⟨rfl,rfl⟩,rfl⟩|exact ⟨rfl,rfl⟩|exact rfl)); (try simp only [sA]))
      (repeat (first|((first|refine ExO.nil ?_|refine Ex.skip ?_|refine Ex.ret ?_|refine Ex.exit ?_); try dsimp only)|((first|(refine xI ?_; intro _ _)|refine xL ?_|(refine xB ?_; intro _ _)|refine xG ?_|refine xS ?_|refine xM ?_|(refine xC ?_; intro _ _)|refine xW ?_); try simp only [sA])|refine Ex.seq ?_|refine Ex.reg ?_|refine Ex.block ?_|refine eT ?_|refine eF ?_|simp only [reduceCtorEq, AEx.ex.injEq, Nat.reduceEqDiff, if_true, if_false]))
      rename_i m hm n hn
      rw [i64_in (by omega) (by omega)] at hn
      have hm2 : m = hgk high (ts.take (i + 1)) := by rw [hst, hm]
      subst hm2
      have hn2 : n = ((i + 1 : Nat) : Int) := by omega
      subst hn2
      exact ⟨_, _, forgets 2 [] ([false, false, true, true, false, true, true, false, false, false, false, false, false, false, false, false, false, false, false, false, false, false, false, false]) (by decide) (by simp) (bx2 := [[.int .i64 len, .int .i64 wid, .int .i64 front, .int .i64 rear, .int .i64 turn, .int .i64 kilos, .int .i64 mid, .int .i64 high, .sl (ls.map Ld.av) none], [.sl (ks.map fun z => AV.int .i64 z) none, .sl (ts.map fun z => AV.int .i64 z) none]]) (by simp [re, re1, AV.clean, clean_lds, hck, hct]) (by rfl) (by decide), ts.length - (i + 1), by omega, i + 1, by omega, rfl, by rfl, by rfl⟩

theorem carries_m (len wid front rear turn kilos mid high : Int) (ls : List Ld) (ks ts : List Int) (hlen : ls.length ≤ 20) (hkl : ks.length = ls.length) (hW : ∀ w ∈ wtk kilos mid ks ls, WOk w) (f0 : 0 ≤ front) (f1 : front ≤ 10000) (r0 : 0 ≤ rear) (r1 : rear ≤ 10000) : Does Try.prog 20 [.agg [.int .i64 len, .int .i64 wid, .int .i64 front, .int .i64 rear, .int .i64 turn, .int .i64 kilos, .int .i64 mid, .int .i64 high, .sl (ls.map Ld.av) none], .agg [IL ks, IL ts]] [] fun v c' => v = .tup [.int .i64 (-mom rear (wtk kilos mid ks ls)), .int .i64 (mom front (wtk kilos mid ks ls))] ∧ c' = [] := by
  have hck := clean_ints ks
  have hct := clean_ints ts
  have hwl := wtk_len kilos mid ks ls hkl
  have h0 := hW (kilos, mid) (by simp [wtk])
  have m0 : 0 ≤ kilos ∧ kilos ≤ 10000 ∧ 0 ≤ mid ∧ mid ≤ 10000 := h0
  have oa := one_in rear _ h0 r0 r1
  have ob := one_in front _ h0 f0 f1
  have pa : kilos * (rear - mid) = -(kilos * (mid - rear)) := by rw [← Int.mul_neg]; congr 1; omega
  simp only [] at oa ob
  have s1 : IntKind.i64.wrap (rear - mid) = rear - mid := i64_in (by omega) (by omega)
  have s2 : IntKind.i64.wrap (mid - front) = mid - front := i64_in (by omega) (by omega)
  have s3 : IntKind.i64.wrap (kilos * (rear - mid)) = kilos * (rear - mid) := i64_in (by omega) (by omega)
  have s4 : IntKind.i64.wrap (kilos * (mid - front)) = kilos * (mid - front) := i64_in (by omega) (by omega)
  unfold IL
  refine Does.of comp20 ?_
  unfold F20
  simp only [start, List.length_cons, List.length_nil, List.replicate, List.cons_append, List.nil_append, Nat.reduceAdd, Nat.reduceSub]
  (repeat (first|((first|refine ExO.nil ?_|refine Ex.skip ?_|refine Ex.ret ?_|refine Ex.exit ?_); try dsimp only)|((first|(refine xI ?_; intro _ _)|refine xL ?_|(refine xB ?_; intro _ _)|refine xG ?_|refine xS ?_|refine xM ?_|(refine xC ?_; intro _ _)|refine xW ?_); try simp only [sA])|refine Ex.seq ?_|refine Ex.reg ?_|refine Ex.block ?_|refine eT ?_|refine eF ?_|simp only [reduceCtorEq, AEx.ex.injEq, Nat.reduceEqDiff, if_true, if_false]))
  apply Ex.drawE (noClr_ok _) [] [] []
  case hD =>
    simp only [List.take_succ_cons, List.take_zero, List.append_nil]
    (repeat (first | exact DrO.nil rfl | (apply DrO.eff; (case hw => rfl); (case hd => rfl); (case hl => rfl); (case hs => rfl); (case hs' => rfl); (case hv => (simp [vA, fRes_eq, s1, s2, s3, s4]; first|done|exact ⟨⟨rfl,rfl⟩,rfl⟩|exact ⟨rfl,rfl⟩|exact rfl)); (try simp only [sA])) | (apply DrO.pure; (case hw => rfl); (case hd => rfl); (case hv => (simp only [List.mem_cons, List.not_mem_nil, or_false, forall_eq_or_imp, forall_eq]; simp [vA, fRes_eq, s1, s2, s3, s4]; first | done | exact ⟨⟨rfl, rfl⟩, rfl⟩ | exact ⟨rfl, rfl⟩ | exact rfl | (refine ⟨rfl, ?_⟩; first | done | rfl | simp))); (try simp only [sA]))))
  simp only [List.drop_succ_cons, List.drop_zero, List.getLastD_cons, List.getLastD_nil, List.append_nil, List.cons_append, List.nil_append]
  (repeat (first|((first|refine ExO.nil ?_|refine Ex.skip ?_|refine Ex.ret ?_|refine Ex.exit ?_); try dsimp only)|((first|(refine xI ?_; intro _ _)|refine xL ?_|(refine xB ?_; intro _ _)|refine xG ?_|refine xS ?_|refine xM ?_|(refine xC ?_; intro _ _)|refine xW ?_); try simp only [sA])|refine Ex.seq ?_|refine Ex.reg ?_|refine Ex.block ?_|refine eT ?_|refine eF ?_|simp only [reduceCtorEq, AEx.ex.injEq, Nat.reduceEqDiff, if_true, if_false]))
  refine Ex.loopF (fun k a S => ∃ i, i ≤ ks.length ∧ k = ks.length - i ∧ a = [.junk, .junk, .ptr 0 0, .ptr 1 0, .junk, .junk, .int .i64 (-mom rear ((wtk kilos mid ks ls).take (i + 1))), .int .i64 (mom front ((wtk kilos mid ks ls).take (i + 1))), .int .i64 (i : Nat), .junk, .junk, .junk, .junk, .junk, .junk, .junk, .junk, .junk, .junk, .junk, .junk, .junk, .junk, .junk, .junk, .junk, .junk, .junk, .junk, .junk, .junk, .junk, .junk, .junk, .junk, .junk, .junk, .junk, .junk, .junk, .junk, .junk, .junk, .junk, .junk, .junk, .junk, .junk, .junk, .junk, .junk, .junk, .junk, .junk, .junk, .junk, .junk, .junk, .junk, .junk, .junk, .junk, .junk, .junk, .junk] ∧ S = ⟨[[.int .i64 len, .int .i64 wid, .int .i64 front, .int .i64 rear, .int .i64 turn, .int .i64 kilos, .int .i64 mid, .int .i64 high, .sl (ls.map Ld.av) none], [.sl (ks.map fun z => AV.int .i64 z) none, .sl (ts.map fun z => AV.int .i64 z) none]], []⟩) ks.length ?_ ?_
  · exact ⟨_, _, forgets 2 [] ([false, false, true, true, false, false, true, true, true, false, false, false, false, false, false, false, false, false, false, false, false, false, false, false, false, false, false, false, false, false, false, false, false, false, false, false, false, false, false, false, false, false, false, false, false, false, false, false, false, false, false, false, false, false, false, false, false, false, false, false, false, false, false, false, false]) (by decide) (by simp) (bx2 := [[.int .i64 len, .int .i64 wid, .int .i64 front, .int .i64 rear, .int .i64 turn, .int .i64 kilos, .int .i64 mid, .int .i64 high, .sl (ls.map Ld.av) none], [.sl (ks.map fun z => AV.int .i64 z) none, .sl (ts.map fun z => AV.int .i64 z) none]]) (by simp [re, re1, AV.clean, clean_lds, hck, hct]) (by rfl) (by decide), 0, by omega, by omega, by simp [keepS, re, re1, AV.clean, wtk, mom, pa], by rfl⟩
  · rintro k a S ⟨i, hi, rfl, rfl, rfl⟩
    (repeat (first|((first|refine ExO.nil ?_|refine Ex.skip ?_|refine Ex.ret ?_|refine Ex.exit ?_); try dsimp only)|((first|(refine xI ?_; intro _ _)|refine xL ?_|(refine xB ?_; intro _ _)|refine xG ?_|refine xS ?_|refine xM ?_|(refine xC ?_; intro _ _)|refine xW ?_); try simp only [sA])|refine Ex.seq ?_|refine Ex.reg ?_|refine Ex.block ?_|refine eT ?_|refine eF ?_|simp only [reduceCtorEq, AEx.ex.injEq, Nat.reduceEqDiff, if_true, if_false]))
    rename_i c hc
    cases c
    · have hge : ks.length ≤ i := by have := hc.symm; simp at this; omega
      rw [List.take_of_length_le (by omega)]
      (refine Ex.cond (b := false) (by first | rfl | simp [evd]) ?_; simp only [Bool.false_eq_true, if_false])
      (repeat (first|((first|refine ExO.nil ?_|refine Ex.skip ?_|refine Ex.ret ?_|refine Ex.exit ?_); try dsimp only)|((first|(refine xI ?_; intro _ _)|refine xL ?_|(refine xB ?_; intro _ _)|refine xG ?_|refine xS ?_|refine xM ?_|(refine xC ?_; intro _ _)|refine xW ?_); try simp only [sA])|refine Ex.seq ?_|refine Ex.reg ?_|refine Ex.block ?_|refine eT ?_|refine eF ?_|simp only [reduceCtorEq, AEx.ex.injEq, Nat.reduceEqDiff, if_true, if_false]))
      simp [evRes, evRes1, one, AV.names, takeCells]
    · have hil : i < ks.length := by have := hc.symm; simpa using this
      have e1 : ks[i]? = some ks[i] := List.getElem?_eq_getElem hil
      have e2 : ls[i]? = some ls[i] := List.getElem?_eq_getElem (by omega)
      generalize ks[i] = z at e1
      generalize ls[i] = l at e2
      obtain ⟨pt, klo, khi, tlo, thi, kind, watts⟩ := l
      have hg := wtk_get kilos mid ks ls e1 e2
      have hs1 := mom_take rear _ _ _ hg
      have hs2 := mom_take front _ _ _ hg
      have hz := hW _ (List.mem_of_getElem? hg)
      have oa := one_in rear _ hz r0 r1
      have ob := one_in front _ hz f0 f1
      have m0 : 0 ≤ z ∧ z ≤ 10000 ∧ 0 ≤ pt ∧ pt ≤ 10000 := hz
      have pa : z * (rear - pt) = -(z * (pt - rear)) := by rw [← Int.mul_neg]; congr 1; omega
      have ba := mom_in rear r0 r1 _ (mem_take' (i := i + 1) hW)
      have bb := mom_in front f0 f1 _ (mem_take' (i := i + 1) hW)
      rw [List.length_take] at ba bb
      simp only [] at oa ob hs1 hs2
      have hmn : ((min (i + 1) (wtk kilos mid ks ls).length : Nat) : Int) ≤ 21 := by omega
      have s1 : IntKind.i64.wrap (rear - pt) = rear - pt := i64_in (by omega) (by omega)
      have s2 : IntKind.i64.wrap (pt - front) = pt - front := i64_in (by omega) (by omega)
      have s3 : IntKind.i64.wrap (z * (rear - pt)) = z * (rear - pt) := i64_in (by omega) (by omega)
      have s4 : IntKind.i64.wrap (z * (pt - front)) = z * (pt - front) := i64_in (by omega) (by omega)
      have s5 : IntKind.i64.wrap (-mom rear ((wtk kilos mid ks ls).take (i + 1)) + z * (rear - pt)) = -mom rear ((wtk kilos mid ks ls).take (i + 1)) + z * (rear - pt) := i64_in (by omega) (by omega)
      have s6 : IntKind.i64.wrap (mom front ((wtk kilos mid ks ls).take (i + 1)) + z * (pt - front)) = mom front ((wtk kilos mid ks ls).take (i + 1)) + z * (pt - front) := i64_in (by omega) (by omega)
      have u1 : -mom rear ((wtk kilos mid ks ls).take (i + 1)) + z * (rear - pt) = -mom rear ((wtk kilos mid ks ls).take (i + 1 + 1)) := by rw [hs1, pa]; omega
      have u2 : mom front ((wtk kilos mid ks ls).take (i + 1)) + z * (pt - front) = mom front ((wtk kilos mid ks ls).take (i + 1 + 1)) := by rw [hs2]
      generalize mom rear ((wtk kilos mid ks ls).take (i + 1)) = MA at s5 u1 ⊢
      generalize mom front ((wtk kilos mid ks ls).take (i + 1)) = MB at s6 u2 ⊢
      have l1 : (i : Int) < (ls.length : Int) := by omega
      have l2 : (i : Int) < (ks.length : Int) := by omega
      clear hs1 hs2 oa ob ba bb hz hg
      (refine Ex.cond (b := true) (by first | rfl | simp [evd]) ?_; simp only [if_true])
      (repeat (first|((first|refine ExO.nil ?_|refine Ex.skip ?_|refine Ex.ret ?_|refine Ex.exit ?_); try dsimp only)|((first|(refine xI ?_; intro _ _)|refine xL ?_|(refine xB ?_; intro _ _)|refine xG ?_|refine xS ?_|refine xM ?_|(refine xC ?_; intro _ _)|refine xW ?_); try simp only [sA])|refine Ex.seq ?_|refine Ex.reg ?_|refine Ex.block ?_|refine eT ?_|refine eF ?_|simp only [reduceCtorEq, AEx.ex.injEq, Nat.reduceEqDiff, if_true, if_false]))
      (apply ExO.stG; (case hk => rfl); (case hv => (simp [vA, fRes_eq, e2, l1, Ld.av_cells]; first|done|exact ⟨⟨rfl,rfl⟩,rfl⟩|exact ⟨rfl,rfl⟩|exact rfl)); (try simp only [sA]))
      (repeat (first|((first|refine ExO.nil ?_|refine Ex.skip ?_|refine Ex.ret ?_|refine Ex.exit ?_); try dsimp only)|((first|(refine xI ?_; intro _ _)|refine xL ?_|(refine xB ?_; intro _ _)|refine xG ?_|refine xS ?_|refine xM ?_|(refine xC ?_; intro _ _)|refine xW ?_); try simp only [sA])|refine Ex.seq ?_|refine Ex.reg ?_|refine Ex.block ?_|refine eT ?_|refine eF ?_|simp only [reduceCtorEq, AEx.ex.injEq, Nat.reduceEqDiff, if_true, if_false]))
      apply Ex.drawE (noClr_ok _) [] [] []
      case hD =>
        simp only [List.take_succ_cons, List.take_zero, List.append_nil]
        (repeat (first | exact DrO.nil rfl | (apply DrO.eff; (case hw => rfl); (case hd => rfl); (case hl => rfl); (case hs => rfl); (case hs' => rfl); (case hv => (simp [vA, fRes_eq, e1, l2, s1, s2, s3, s4, s5, s6]; first|done|exact ⟨⟨rfl,rfl⟩,rfl⟩|exact ⟨rfl,rfl⟩|exact rfl)); (try simp only [sA])) | (apply DrO.pure; (case hw => rfl); (case hd => rfl); (case hv => (simp only [List.mem_cons, List.not_mem_nil, or_false, forall_eq_or_imp, forall_eq]; simp [vA, fRes_eq, e1, l2, s1, s2, s3, s4, s5, s6]; first | done | exact ⟨⟨rfl, rfl⟩, rfl⟩ | exact ⟨rfl, rfl⟩ | exact rfl | (refine ⟨rfl, ?_⟩; first | done | rfl | simp))); (try simp only [sA]))))
      simp only [List.drop_succ_cons, List.drop_zero, List.getLastD_cons, List.getLastD_nil, List.append_nil, List.cons_append, List.nil_append]
      (repeat (first|((first|refine ExO.nil ?_|refine Ex.skip ?_|refine Ex.ret ?_|refine Ex.exit ?_); try dsimp only)|((first|(refine xI ?_; intro _ _)|refine xL ?_|(refine xB ?_; intro _ _)|refine xG ?_|refine xS ?_|refine xM ?_|(refine xC ?_; intro _ _)|refine xW ?_); try simp only [sA])|refine Ex.seq ?_|refine Ex.reg ?_|refine Ex.block ?_|refine eT ?_|refine eF ?_|simp only [reduceCtorEq, AEx.ex.injEq, Nat.reduceEqDiff, if_true, if_false]))
      rename_i n hn
      rw [i64_in (by omega) (by omega)] at hn
      have hn2 : n = ((i + 1 : Nat) : Int) := by omega
      subst hn2
      exact ⟨_, _, forgets 2 [] ([false, false, true, true, false, false, true, true, true, false, false, false, false, false, false, false, false, false, false, false, false, false, false, false, false, false, false, false, false, false, false, false, false, false, false, false, false, false, false, false, false, false, false, false, false, false, false, false, false, false, false, false, false, false, false, false, false, false, false, false, false, false, false, false, false]) (by decide) (by simp) (bx2 := [[.int .i64 len, .int .i64 wid, .int .i64 front, .int .i64 rear, .int .i64 turn, .int .i64 kilos, .int .i64 mid, .int .i64 high, .sl (ls.map Ld.av) none], [.sl (ks.map fun z => AV.int .i64 z) none, .sl (ts.map fun z => AV.int .i64 z) none]]) (by simp [re, re1, AV.clean, clean_lds, hck, hct]) (by rfl) (by decide), ks.length - (i + 1), by omega, i + 1, by omega, rfl, by rw [← u1, ← u2]; rfl, by rfl⟩

theorem down_m (n k : Int) (h0 : 0 < k) (h1 : -1000000000000 ≤ n) (h2 : n ≤ 1000000000000) (h3 : k ≤ 100000) : Does Try.prog 32 [.int .i64 n, .int .i64 k] [] fun v c' => v = .int .i64 (n / k) ∧ c' = [] := by
  refine Does.of comp32 ?_
  unfold F32
  simp only [start, List.length_cons, List.length_nil, List.replicate, List.cons_append, List.nil_append, Nat.reduceAdd, Nat.reduceSub]
  (repeat (first|((first|refine ExO.nil ?_|refine Ex.skip ?_|refine Ex.ret ?_|refine Ex.exit ?_); try dsimp only)|((first|(refine xI ?_; intro _ _)|refine xL ?_|(refine xB ?_; intro _ _)|refine xG ?_|refine xS ?_|refine xM ?_|(refine xC ?_; intro _ _)|refine xW ?_); try simp only [sA])|refine Ex.seq ?_|refine Ex.reg ?_|refine Ex.block ?_|refine eT ?_|refine eF ?_|simp only [reduceCtorEq, AEx.ex.injEq, Nat.reduceEqDiff, if_true, if_false]))
  have hk : ¬ k = 0 := by omega
  have hq := Int.natAbs_tdiv_le_natAbs n k
  have he := divided_eq n k h0
  (apply ExO.stI; (case hk => rfl); (case hv => (simp [vA, fRes_eq, hk]; first|done|exact ⟨⟨rfl,rfl⟩,rfl⟩|exact ⟨rfl,rfl⟩|exact rfl)); (intro _ _; simp only [sA]))
  rename_i q hm
  rw [i64_in (by omega) (by omega)] at hm
  (repeat (first|((first|refine ExO.nil ?_|refine Ex.skip ?_|refine Ex.ret ?_|refine Ex.exit ?_); try dsimp only)|((first|(refine xI ?_; intro _ _)|refine xL ?_|(refine xB ?_; intro _ _)|refine xG ?_|refine xS ?_|refine xM ?_|(refine xC ?_; intro _ _)|refine xW ?_); try simp only [sA])|refine Ex.seq ?_|refine Ex.reg ?_|refine Ex.block ?_|refine eT ?_|refine eF ?_|simp only [reduceCtorEq, AEx.ex.injEq, Nat.reduceEqDiff, if_true, if_false]))
  (apply ExO.stI; (case hk => rfl); (case hv => (simp [vA, fRes_eq, hk]; first|done|exact ⟨⟨rfl,rfl⟩,rfl⟩|exact ⟨rfl,rfl⟩|exact rfl)); (intro _ _; simp only [sA]))
  (repeat (first|((first|refine ExO.nil ?_|refine Ex.skip ?_|refine Ex.ret ?_|refine Ex.exit ?_); try dsimp only)|((first|(refine xI ?_; intro _ _)|refine xL ?_|(refine xB ?_; intro _ _)|refine xG ?_|refine xS ?_|refine xM ?_|(refine xC ?_; intro _ _)|refine xW ?_); try simp only [sA])|refine Ex.seq ?_|refine Ex.reg ?_|refine Ex.block ?_|refine eT ?_|refine eF ?_|simp only [reduceCtorEq, AEx.ex.injEq, Nat.reduceEqDiff, if_true, if_false]))
  rename_i r hr c hc
  subst hr
  rw [← hm] at he
  cases c
  · have hc2 : ¬ Int.tmod n k < 0 := by simpa using hc.symm
    rw [if_neg hc2] at he
    (repeat (first|((first|refine ExO.nil ?_|refine Ex.skip ?_|refine Ex.ret ?_|refine Ex.exit ?_); try dsimp only)|((first|(refine xI ?_; intro _ _)|refine xL ?_|(refine xB ?_; intro _ _)|refine xG ?_|refine xS ?_|refine xM ?_|(refine xC ?_; intro _ _)|refine xW ?_); try simp only [sA])|refine Ex.seq ?_|refine Ex.reg ?_|refine Ex.block ?_|refine eT ?_|refine eF ?_|simp only [reduceCtorEq, AEx.ex.injEq, Nat.reduceEqDiff, if_true, if_false]))
    simp [evRes, evRes1, one, AV.names, takeCells]
    exact he
  · have hc2 : Int.tmod n k < 0 := by simpa using hc.symm
    rw [if_pos hc2] at he
    (repeat (first|((first|refine ExO.nil ?_|refine Ex.skip ?_|refine Ex.ret ?_|refine Ex.exit ?_); try dsimp only)|((first|(refine xI ?_; intro _ _)|refine xL ?_|(refine xB ?_; intro _ _)|refine xG ?_|refine xS ?_|refine xM ?_|(refine xC ?_; intro _ _)|refine xW ?_); try simp only [sA])|refine Ex.seq ?_|refine Ex.reg ?_|refine Ex.block ?_|refine eT ?_|refine eF ?_|simp only [reduceCtorEq, AEx.ex.injEq, Nat.reduceEqDiff, if_true, if_false]))
    rename_i m hm
    rw [i64_in (by omega) (by omega)] at hm
    simp [evRes, evRes1, one, AV.names, takeCells]
    omega

theorem up_m (n k : Int) (h0 : 0 < k) (h1 : -1000000000000 ≤ n) (h2 : n ≤ 1000000000000) (h3 : k ≤ 100000) : Does Try.prog 33 [.int .i64 n, .int .i64 k] [] fun v c' => v = .int .i64 (-(-n / k)) ∧ c' = [] := by
  refine Does.of comp33 ?_
  unfold F33
  simp only [start, List.length_cons, List.length_nil, List.replicate, List.cons_append, List.nil_append, Nat.reduceAdd, Nat.reduceSub]
  (repeat (first|((first|refine ExO.nil ?_|refine Ex.skip ?_|refine Ex.ret ?_|refine Ex.exit ?_); try dsimp only)|((first|(refine xI ?_; intro _ _)|refine xL ?_|(refine xB ?_; intro _ _)|refine xG ?_|refine xS ?_|refine xM ?_|(refine xC ?_; intro _ _)|refine xW ?_); try simp only [sA])|refine Ex.seq ?_|refine Ex.reg ?_|refine Ex.block ?_|refine eT ?_|refine eF ?_|simp only [reduceCtorEq, AEx.ex.injEq, Nat.reduceEqDiff, if_true, if_false]))
  rename_i m1 hm
  rw [i64_in (by omega) (by omega)] at hm
  obtain rfl : m1 = -n := by omega
  (refine ExO.call (f := (32)) (xs := ([.int .i64 (-n), .int .i64 k])) (ys := ([.int .i64 (-n), .int .i64 k])) (bs := ([])) (cells := ([])) (by rfl) (by rfl) (by rfl) (by first | rfl | simp [ren, ren1, AV.plain, AV.plain1, AV.clean, cleanL, clean_lds, cleanL_append]) (by rfl) (by first | rfl | simp [ren, ren1, AV.plain, AV.plain1, AV.clean, cleanL, clean_lds, cleanL_append]) ((down_m (-n) k h0 (by omega) (by omega) h3)) ?_; rintro v c' ⟨rfl, rfl⟩; refine ⟨_, rfl, rfl, ?_⟩; simp only [List.map_cons, List.map_nil, putA, List.set_cons_zero, List.set_cons_succ, AV.plain, AV.plain1, setAll, List.length_cons, List.length_nil, List.drop_succ_cons, List.drop_zero, List.drop_nil, List.append_nil, Nat.reduceAdd]; (repeat (first|((first|refine ExO.nil ?_|refine Ex.skip ?_|refine Ex.ret ?_|refine Ex.exit ?_); try dsimp only)|((first|(refine xI ?_; intro _ _)|refine xL ?_|(refine xB ?_; intro _ _)|refine xG ?_|refine xS ?_|refine xM ?_|(refine xC ?_; intro _ _)|refine xW ?_); try simp only [sA])|refine Ex.seq ?_|refine Ex.reg ?_|refine Ex.block ?_|refine eT ?_|refine eF ?_|simp only [reduceCtorEq, AEx.ex.injEq, Nat.reduceEqDiff, if_true, if_false])))
  have hq := Int.natAbs_tdiv_le_natAbs (-n) k
  have hb : -1000000000001 ≤ -n / k ∧ -n / k ≤ 1000000000001 := by
    rw [← divided_eq (-n) k h0]
    split <;> omega
  rename_i m2 hm
  rw [i64_in (by omega) (by omega)] at hm
  obtain rfl : m2 = -(-n / k) := by omega
  simp [evRes, evRes1, one, AV.names, takeCells]
end Go.Proofs.Ytoefpcpijolofaa
end
section
namespace Go.Proofs.Ytoefpcpijolofaa
open Go.RowKit
set_option linter.unusedVariables false
set_option linter.unusedSimpArgs false
set_option maxRecDepth 10000
set_option maxHeartbeats 4000000

def nums42 (z : List Int) : List AV := z.map (.int .i64)
def endsC (F : List AV) (z1 z2 : List Int) : List AV := F ++ nums42 z1 ++ (F ++ nums42 z2)
def z42 : List Int := List.replicate 42 0
def Z9 : List AV := [.int .i64 0, .int .i64 0, .int .i64 0, .int .i64 0, .int .i64 0, .int .i64 0, .int .i64 0, .int .i64 0, .nils]
def zeros102 : List AV := endsC Z9 z42 z42
theorem nums42_len (z : List Int) : (nums42 z).length = z.length := by simp [nums42]
theorem endsC_len (F : List AV) (z1 z2 : List Int) (hF : F.length = 9) (h1 : z1.length = 42) (h2 : z2.length = 42) : (endsC F z1 z2).length = 102 := by
  simp [endsC, hF, h1, h2, nums42_len]
theorem endsC_set1 (F : List AV) (z1 z2 : List Int) (i : Nat) (v : Int) (hF : F.length = 9) (h1 : z1.length = 42) (hi : i < 42) : (endsC F z1 z2).set (9 + i) (.int .i64 v) = endsC F (z1.set i v) z2 := by
  unfold endsC
  rw [List.set_append_left _ _ (by simp [hF, h1, nums42_len]; omega), List.set_append_right _ _ (by omega), hF, Nat.add_sub_cancel_left]
  simp only [nums42, List.map_set]
theorem endsC_set2 (F : List AV) (z1 z2 : List Int) (i : Nat) (v : Int) (hF : F.length = 9) (h1 : z1.length = 42) (hi : i < 42) : (endsC F z1 z2).set (60 + i) (.int .i64 v) = endsC F z1 (z2.set i v) := by
  unfold endsC
  rw [List.set_append_right _ _ (by simp [hF, h1, nums42_len]; omega), List.set_append_right _ _ (by simp [hF, h1, nums42_len]; omega)]
  rw [show 60 + i - (F ++ nums42 z1).length - F.length = i by simp [hF, h1, nums42_len]; omega]
  simp only [nums42, List.map_set]
theorem nums42_re (n : Nat) (σ : List Nat) (z : List Int) : (nums42 z).mapM (re n σ) = some (nums42 z) := by
  unfold nums42
  induction z with
  | nil => rfl
  | cons x z ih => rw [List.map_cons, List.mapM_cons, ih]; rfl
theorem mapM_app {α β : Type} (f : α → Option β) (a b : List α) (c d : List β) (h1 : a.mapM f = some c) (h2 : b.mapM f = some d) : (a ++ b).mapM f = some (c ++ d) := by
  rw [List.mapM_append, h1, h2]; rfl
theorem endsC_re (n : Nat) (σ : List Nat) (F : List AV) (z1 z2 : List Int) (hF : F.mapM (re n σ) = some F) : (endsC F z1 z2).mapM (re n σ) = some (endsC F z1 z2) :=
  mapM_app _ _ _ _ _ (mapM_app _ _ _ _ _ hF (nums42_re n σ z1)) (mapM_app _ _ _ _ _ hF (nums42_re n σ z2))
theorem endsC_scal (F : List AV) (z1 z2 : List Int) (hF : F.all AV.scalar = true) : (endsC F z1 z2).all AV.scalar = true := by
  simp [endsC, nums42, List.all_append, hF, AV.scalar]
theorem endsC_take (F : List AV) (z1 z2 : List Int) (hF : F.length = 9) (h1 : z1.length = 42) (h2 : z2.length = 42) : (endsC F z1 z2).take 102 = endsC F z1 z2 := List.take_of_length_le (by rw [endsC_len F z1 z2 hF h1 h2]; exact Nat.le_refl _)
theorem layAt_all : ∀ (vs pre cs : List AV), cs.length = pre.length + vs.length → (∀ i, i < pre.length → cs[i]? = pre[i]?) → layAt cs pre.length vs = pre ++ vs
  | [], pre, cs, hl, hp => by
    simp only [layAt, List.append_nil]
    apply List.ext_getElem?
    intro i
    by_cases hi : i < pre.length
    · exact hp i hi
    · rw [List.getElem?_eq_none (by simp at hl; omega), List.getElem?_eq_none (by omega)]
  | v :: vs, pre, cs, hl, hp => by
    simp only [List.length_cons] at hl
    have := layAt_all vs (pre ++ [v]) (cs.set pre.length v) (by simp [hl]; omega) (fun i hi => by
      simp only [List.length_append, List.length_cons, List.length_nil] at hi
      by_cases he : i = pre.length
      · subst he
        rw [List.getElem?_set_self (by omega), List.getElem?_append_right (Nat.le_refl _)]
        simp
      · rw [List.getElem?_set_ne (Ne.symm he), List.getElem?_append_left (by omega), hp i (by omega)])
    simp only [List.length_append, List.length_cons, List.length_nil] at this
    simp only [layAt, this, List.append_assoc, List.singleton_append]
theorem layAt_full (cs vs : List AV) (h : cs.length = vs.length) : layAt cs 0 vs = vs := by
  have := layAt_all vs [] cs (by simpa using h) (fun i hi => by simp at hi)
  simpa using this

end Go.Proofs.Ytoefpcpijolofaa
end
section
namespace Go.Proofs.Ytoefpcpijolofaa
open Go.RowKit
set_option linter.unusedVariables false
set_option linter.unusedSimpArgs false
set_option maxRecDepth 10000

def atEnds (z1 z2 : List Int) (ls : List Ld) (i : Nat) : Prop := ∀ j, j < i → ∀ l, ls[j]? = some l → z1[j]? = some l.klo ∧ z1[21 + j]? = some l.tlo ∧ z2[j]? = some l.khi ∧ z2[21 + j]? = some l.thi
theorem set_get (z : List Int) (i j : Nat) (v : Int) (hi : i < z.length) : (z.set i v)[j]? = if j = i then some v else z[j]? := by
  rw [List.getElem?_set]
  by_cases h : i = j
  · subst h; simp [hi]
  · rw [if_neg h, if_neg (fun e => h e.symm)]
theorem atEnds_step {z1 z2 : List Int} {ls : List Ld} {i : Nat} {l : Ld} (h : atEnds z1 z2 ls i) (k1 : z1.length = 42) (k2 : z2.length = 42) (hi : i < 21) (hl : ls[i]? = some l) : atEnds ((z1.set i l.klo).set (21 + i) l.tlo) ((z2.set i l.khi).set (21 + i) l.thi) ls (i + 1) := by
  intro j hj l' hl'
  rw [set_get _ (21 + i) _ _ (by rw [List.length_set]; omega), set_get _ (21 + i) _ _ (by rw [List.length_set]; omega), set_get _ (21 + i) _ _ (by rw [List.length_set]; omega), set_get _ (21 + i) _ _ (by rw [List.length_set]; omega), set_get z1 i _ _ (by omega), set_get z1 i _ _ (by omega), set_get z2 i _ _ (by omega), set_get z2 i _ _ (by omega)]
  by_cases hji : j = i
  · subst hji
    rw [hl] at hl'
    cases hl'
    simp
  · obtain ⟨a1, a2, a3, a4⟩ := h j (by omega) l' hl'
    rw [if_neg (by omega), if_neg hji, if_neg (by omega), if_neg (by omega), if_neg (by omega), if_neg hji, if_neg (by omega), if_neg (by omega)]
    exact ⟨a1, a2, a3, a4⟩

set_option maxHeartbeats 4000000 in
theorem ends_n (len wid front rear turn kilos mid high : Int) (L : AV) (ls : List Ld) (hL : inLds L ls) (hlen : ls.length ≤ 20) : Does Try.prog 54 [.agg [.int .i64 len, .int .i64 wid, .int .i64 front, .int .i64 rear, .int .i64 turn, .int .i64 kilos, .int .i64 mid, .int .i64 high, L]] [] fun v c' => ∃ z1 z2 : List Int, z1.length = 42 ∧ z2.length = 42 ∧ atEnds z1 z2 ls ls.length ∧ v = .agg (endsC [.int .i64 len, .int .i64 wid, .int .i64 front, .int .i64 rear, .int .i64 turn, .int .i64 kilos, .int .i64 mid, .int .i64 high, L] z1 z2) ∧ c' = [] := by
  rcases hL with rfl | ⟨rfl, rfl⟩
  · refine Does.of comp54 ?_
    unfold F54
    simp only [start, List.length_cons, List.length_nil, List.replicate, List.cons_append, List.nil_append, Nat.reduceAdd, Nat.reduceSub]
    refine Ex.seq (Ex.reg (ExO.run _ (a' := [.agg [.int .i64 len, .int .i64 wid, .int .i64 front, .int .i64 rear, .int .i64 turn, .int .i64 kilos, .int .i64 mid, .int .i64 high, .sl (ls.map Ld.av) none], .ptr 0 0, .ptr 1 0, .tup [], .tup [], .tup [], .tup [], .tup [], .tup [], .tup [], .tup [], .tup [], .tup [], .tup [], .tup [], .tup [], .tup [], .tup [], .tup [], .tup [], .tup [], .tup [], .tup [], .tup [], .tup [], .tup [], .tup [], .tup [], .tup [], .tup [], .tup [], .tup [], .tup [], .tup [], .tup [], .tup [], .tup [], .tup [], .tup [], .tup [], .tup [], .tup [], .tup [], .tup [], .tup [], .tup [], .tup [], .tup [], .tup []]) (S' := ⟨[[.int .i64 len, .int .i64 wid, .int .i64 front, .int .i64 rear, .int .i64 turn, .int .i64 kilos, .int .i64 mid, .int .i64 high, .sl (ls.map Ld.av) none], zeros102], []⟩) (by kernel_rfl) ?_))
    dsimp only
    refine Ex.seq (Ex.reg (ExO.run _ (a' := [.agg [.int .i64 len, .int .i64 wid, .int .i64 front, .int .i64 rear, .int .i64 turn, .int .i64 kilos, .int .i64 mid, .int .i64 high, .sl (ls.map Ld.av) none], .ptr 0 0, .ptr 1 0, .ptr 2 0, .tup [], .tup [], .agg [.int .i64 len, .int .i64 wid, .int .i64 front, .int .i64 rear, .int .i64 turn, .int .i64 kilos, .int .i64 mid, .int .i64 high, .sl (ls.map Ld.av) none], .agg ([.int .i64 len, .int .i64 wid, .int .i64 front, .int .i64 rear, .int .i64 turn, .int .i64 kilos, .int .i64 mid, .int .i64 high, .sl (ls.map Ld.av) none] ++ nums42 z42), .agg [.int .i64 len, .int .i64 wid, .int .i64 front, .int .i64 rear, .int .i64 turn, .int .i64 kilos, .int .i64 mid, .int .i64 high, .sl (ls.map Ld.av) none], .agg ([.int .i64 len, .int .i64 wid, .int .i64 front, .int .i64 rear, .int .i64 turn, .int .i64 kilos, .int .i64 mid, .int .i64 high, .sl (ls.map Ld.av) none] ++ nums42 z42), .agg (endsC [.int .i64 len, .int .i64 wid, .int .i64 front, .int .i64 rear, .int .i64 turn, .int .i64 kilos, .int .i64 mid, .int .i64 high, .sl (ls.map Ld.av) none] z42 z42), .tup [], .tup [], .tup [], .tup [], .tup [], .tup [], .tup [], .tup [], .tup [], .tup [], .tup [], .tup [], .tup [], .tup [], .tup [], .tup [], .tup [], .tup [], .tup [], .tup [], .tup [], .tup [], .tup [], .tup [], .tup [], .tup [], .tup [], .tup [], .tup [], .tup [], .tup [], .tup [], .tup [], .tup [], .tup [], .tup [], .tup [], .tup []]) (S' := ⟨[[.int .i64 len, .int .i64 wid, .int .i64 front, .int .i64 rear, .int .i64 turn, .int .i64 kilos, .int .i64 mid, .int .i64 high, .sl (ls.map Ld.av) none], zeros102, endsC [.int .i64 len, .int .i64 wid, .int .i64 front, .int .i64 rear, .int .i64 turn, .int .i64 kilos, .int .i64 mid, .int .i64 high, .sl (ls.map Ld.av) none] z42 z42], []⟩) (by kernel_rfl) ?_))
    dsimp only
    have hre : List.mapM (re 3 []) [.int .i64 len, .int .i64 wid, .int .i64 front, .int .i64 rear, .int .i64 turn, .int .i64 kilos, .int .i64 mid, .int .i64 high, .sl (ls.map Ld.av) none] = some [.int .i64 len, .int .i64 wid, .int .i64 front, .int .i64 rear, .int .i64 turn, .int .i64 kilos, .int .i64 mid, .int .i64 high, .sl (ls.map Ld.av) none] := by simp [re, re1, AV.clean, clean_lds, cleanL]
    have hz : List.mapM (re 3 []) zeros102 = some zeros102 := endsC_re _ _ _ _ _ rfl
    refine Ex.forget (a2 := [.junk, .ptr 0 0, .ptr 1 0, .ptr 2 0, .junk, .junk, .junk, .junk, .junk, .junk, .junk, .junk, .junk, .junk, .junk, .junk, .junk, .junk, .junk, .junk, .junk, .junk, .junk, .junk, .junk, .junk, .junk, .junk, .junk, .junk, .junk, .junk, .junk, .junk, .junk, .junk, .junk, .junk, .junk, .junk, .junk, .junk, .junk, .junk, .junk, .junk, .junk, .junk, .junk]) (forgets 3 [] ([false, true, true, true, false, false, false, false, false, false, false, false, false, false, false, false, false, false, false, false, false, false, false, false, false, false, false, false, false, false, false, false, false, false, false, false, false, false, false, false, false, false, false, false, false, false, false, false, false]) (by decide) (by simp) (bx2 := [[.int .i64 len, .int .i64 wid, .int .i64 front, .int .i64 rear, .int .i64 turn, .int .i64 kilos, .int .i64 mid, .int .i64 high, .sl (ls.map Ld.av) none], zeros102, endsC [.int .i64 len, .int .i64 wid, .int .i64 front, .int .i64 rear, .int .i64 turn, .int .i64 kilos, .int .i64 mid, .int .i64 high, .sl (ls.map Ld.av) none] z42 z42]) (by simp only [List.take_succ_cons, List.take_zero, List.mapM_cons, List.mapM_nil, hre, hz, endsC_re 3 [] _ _ _ hre]; rfl) (by rfl) (by decide)) ?_
    have hz1 : z42.length = 42 := rfl
    generalize z42 = y1 at hz1 ⊢
    (repeat (first|((first|refine ExO.nil ?_|refine Ex.skip ?_|refine Ex.ret ?_|refine Ex.exit ?_); try dsimp only)|((first|(refine xI ?_; intro _ _)|refine xL ?_|(refine xB ?_; intro _ _)|refine xG ?_|refine xS ?_|refine xM ?_|(refine xC ?_; intro _ _)|refine xW ?_); try simp only [sA])|refine Ex.seq ?_|refine Ex.reg ?_|refine Ex.block ?_|refine eT ?_|refine eF ?_|simp only [reduceCtorEq, AEx.ex.injEq, Nat.reduceEqDiff, if_true, if_false]))
    refine Ex.loopF (fun k a S => ∃ i z1 z2, i ≤ ls.length ∧ k = ls.length - i ∧ z1.length = 42 ∧ z2.length = 42 ∧ atEnds z1 z2 ls i ∧ a = [.junk, .ptr 0 0, .ptr 1 0, .ptr 2 0, .junk, .junk, .junk, .junk, .junk, .junk, .junk, .junk, .sl (ls.map Ld.av) none, .int .i64 ls.length, .int .i64 (i : Nat), .junk, .junk, .junk, .junk, .junk, .junk, .junk, .junk, .junk, .junk, .junk, .junk, .junk, .junk, .junk, .junk, .junk, .junk, .junk, .junk, .junk, .junk, .junk, .junk, .junk, .junk, .junk, .junk, .junk, .junk, .junk, .junk, .junk, .junk] ∧ S = ⟨[[.int .i64 len, .int .i64 wid, .int .i64 front, .int .i64 rear, .int .i64 turn, .int .i64 kilos, .int .i64 mid, .int .i64 high, .sl (ls.map Ld.av) none], zeros102, endsC [.int .i64 len, .int .i64 wid, .int .i64 front, .int .i64 rear, .int .i64 turn, .int .i64 kilos, .int .i64 mid, .int .i64 high, .sl (ls.map Ld.av) none] z1 z2], []⟩) ls.length ?_ ?_
    · refine ⟨_, _, forgets 3 [] ([false, true, true, true, false, false, false, false, false, false, false, false, true, true, true, false, false, false, false, false, false, false, false, false, false, false, false, false, false, false, false, false, false, false, false, false, false, false, false, false, false, false, false, false, false, false, false, false, false]) (by decide) (by simp) (bx2 := [[.int .i64 len, .int .i64 wid, .int .i64 front, .int .i64 rear, .int .i64 turn, .int .i64 kilos, .int .i64 mid, .int .i64 high, .sl (ls.map Ld.av) none], zeros102, endsC [.int .i64 len, .int .i64 wid, .int .i64 front, .int .i64 rear, .int .i64 turn, .int .i64 kilos, .int .i64 mid, .int .i64 high, .sl (ls.map Ld.av) none] y1 y1]) (by simp only [List.take_succ_cons, List.take_zero, List.mapM_cons, List.mapM_nil, hre, hz, endsC_re 3 [] _ _ _ hre]; rfl) (by rfl) (by decide), 0, y1, y1, by omega, by omega, hz1, hz1, fun j hj => absurd hj (by omega), ?_, by rfl⟩
      simp [keepS, re, re1, AV.clean, clean_lds]
    · rintro k a S ⟨i, z1, z2, hi, rfl, k1, k2, k3, rfl, rfl⟩
      (repeat (first|((first|refine ExO.nil ?_|refine Ex.skip ?_|refine Ex.ret ?_|refine Ex.exit ?_); try dsimp only)|((first|(refine xI ?_; intro _ _)|refine xL ?_|(refine xB ?_; intro _ _)|refine xG ?_|refine xS ?_|refine xM ?_|(refine xC ?_; intro _ _)|refine xW ?_); try simp only [sA])|refine Ex.seq ?_|refine Ex.reg ?_|refine Ex.block ?_|refine eT ?_|refine eF ?_|simp only [reduceCtorEq, AEx.ex.injEq, Nat.reduceEqDiff, if_true, if_false]))
      rename_i c hc
      cases c
      · (refine Ex.cond (b := false) (by first | rfl | simp [evd]) ?_; simp only [Bool.false_eq_true, if_false])
        have n1 := endsC_len [.int .i64 len, .int .i64 wid, .int .i64 front, .int .i64 rear, .int .i64 turn, .int .i64 kilos, .int .i64 mid, .int .i64 high, .sl (ls.map Ld.av) none] z1 z2 rfl k1 k2
        have n0 : zeros102.length = 102 := endsC_len _ _ _ rfl rfl rfl
        have t1 := endsC_take [.int .i64 len, .int .i64 wid, .int .i64 front, .int .i64 rear, .int .i64 turn, .int .i64 kilos, .int .i64 mid, .int .i64 high, .sl (ls.map Ld.av) none] z1 z2 rfl k1 k2
        have q1 := endsC_scal [.int .i64 len, .int .i64 wid, .int .i64 front, .int .i64 rear, .int .i64 turn, .int .i64 kilos, .int .i64 mid, .int .i64 high, .sl (ls.map Ld.av) none] z1 z2 (by simp [AV.scalar])
        have q2 := layAt_full zeros102 (endsC [.int .i64 len, .int .i64 wid, .int .i64 front, .int .i64 rear, .int .i64 turn, .int .i64 kilos, .int .i64 mid, .int .i64 high, .sl (ls.map Ld.av) none] z1 z2) (by rw [n0, n1])
        (repeat (first|((first|refine ExO.nil ?_|refine Ex.skip ?_|refine Ex.ret ?_|refine Ex.exit ?_); try dsimp only)|((first|(refine xI ?_; intro _ _)|refine xL ?_|(refine xB ?_; intro _ _)|refine xG ?_|refine xS ?_|refine xM ?_|(refine xC ?_; intro _ _)|refine xW ?_); try simp only [sA])|refine Ex.seq ?_|refine Ex.reg ?_|refine Ex.block ?_|refine eT ?_|refine eF ?_|simp only [reduceCtorEq, AEx.ex.injEq, Nat.reduceEqDiff, if_true, if_false]))
        (apply ExO.stG; (case hk => rfl); (case hv => (simp [vA, fRes_eq, n1, t1]; first|done|exact ⟨⟨rfl,rfl⟩,rfl⟩|exact ⟨rfl,rfl⟩|exact rfl)); (try simp only [sA]))
        (apply ExO.stG; (case hk => rfl); (case hv => (simp [vA, fRes_eq, n0, n1, q1, q2]; first|done|exact ⟨⟨rfl,rfl⟩,rfl⟩|exact ⟨rfl,rfl⟩|exact rfl)); (try simp only [sA]))
        (repeat (first|((first|refine ExO.nil ?_|refine Ex.skip ?_|refine Ex.ret ?_|refine Ex.exit ?_); try dsimp only)|((first|(refine xI ?_; intro _ _)|refine xL ?_|(refine xB ?_; intro _ _)|refine xG ?_|refine xS ?_|refine xM ?_|(refine xC ?_; intro _ _)|refine xW ?_); try simp only [sA])|refine Ex.seq ?_|refine Ex.reg ?_|refine Ex.block ?_|refine eT ?_|refine eF ?_|simp only [reduceCtorEq, AEx.ex.injEq, Nat.reduceEqDiff, if_true, if_false]))
        refine ⟨.inr trivial, .agg (endsC [.int .i64 len, .int .i64 wid, .int .i64 front, .int .i64 rear, .int .i64 turn, .int .i64 kilos, .int .i64 mid, .int .i64 high, .sl (ls.map Ld.av) none] z1 z2), ?_, by simp, ?_⟩
        · simp [evRes, evRes1, one, takeCells, n1, t1]
        · exact ⟨z1, z2, k1, k2, (by rw [show ls.length = i from by (have := hc.symm; simp at this; omega)]; exact k3), rfl, by simp [AV.names]⟩
      · have hil : i < ls.length := by have := hc.symm; simpa using this
        have e1 : ls[i]? = some ls[i] := List.getElem?_eq_getElem hil
        generalize ls[i] = l at e1
        obtain ⟨pt, klo, khi, tlo, thi, kind, watts⟩ := l
        have k4 := atEnds_step k3 k1 k2 (by omega) e1
        have l1 : (i : Int) < (ls.length : Int) := by omega
        have l2 : (i : Int) < 21 := by omega
        have l3 : i < 21 := by omega
        (refine Ex.cond (b := true) (by first | rfl | simp [evd]) ?_; simp only [if_true])
        (repeat (first|((first|refine ExO.nil ?_|refine Ex.skip ?_|refine Ex.ret ?_|refine Ex.exit ?_); try dsimp only)|((first|(refine xI ?_; intro _ _)|refine xL ?_|(refine xB ?_; intro _ _)|refine xG ?_|refine xS ?_|refine xM ?_|(refine xC ?_; intro _ _)|refine xW ?_); try simp only [sA])|refine Ex.seq ?_|refine Ex.reg ?_|refine Ex.block ?_|refine eT ?_|refine eF ?_|simp only [reduceCtorEq, AEx.ex.injEq, Nat.reduceEqDiff, if_true, if_false]))
        (apply ExO.stG; (case hk => rfl); (case hv => (simp [vA, fRes_eq, e1, l1, Ld.av_cells]; first|done|exact ⟨⟨rfl,rfl⟩,rfl⟩|exact ⟨rfl,rfl⟩|exact rfl)); (try simp only [sA]))
        (repeat (first|((first|refine ExO.nil ?_|refine Ex.skip ?_|refine Ex.ret ?_|refine Ex.exit ?_); try dsimp only)|((first|(refine xI ?_; intro _ _)|refine xL ?_|(refine xB ?_; intro _ _)|refine xG ?_|refine xS ?_|refine xM ?_|(refine xC ?_; intro _ _)|refine xW ?_); try simp only [sA])|refine Ex.seq ?_|refine Ex.reg ?_|refine Ex.block ?_|refine eT ?_|refine eF ?_|simp only [reduceCtorEq, AEx.ex.injEq, Nat.reduceEqDiff, if_true, if_false]))
        have n1 := endsC_len [.int .i64 len, .int .i64 wid, .int .i64 front, .int .i64 rear, .int .i64 turn, .int .i64 kilos, .int .i64 mid, .int .i64 high, .sl (ls.map Ld.av) none] z1 z2 rfl k1 k2
        have s1 := endsC_set1 [.int .i64 len, .int .i64 wid, .int .i64 front, .int .i64 rear, .int .i64 turn, .int .i64 kilos, .int .i64 mid, .int .i64 high, .sl (ls.map Ld.av) none] z1 z2 i klo rfl k1 (by omega)
        have n2 := endsC_len [.int .i64 len, .int .i64 wid, .int .i64 front, .int .i64 rear, .int .i64 turn, .int .i64 kilos, .int .i64 mid, .int .i64 high, .sl (ls.map Ld.av) none] (z1.set i klo) z2 rfl (by simp [k1]) k2
        have s2 := endsC_set2 [.int .i64 len, .int .i64 wid, .int .i64 front, .int .i64 rear, .int .i64 turn, .int .i64 kilos, .int .i64 mid, .int .i64 high, .sl (ls.map Ld.av) none] (z1.set i klo) z2 i khi rfl (by simp [k1]) (by omega)
        have n3 := endsC_len [.int .i64 len, .int .i64 wid, .int .i64 front, .int .i64 rear, .int .i64 turn, .int .i64 kilos, .int .i64 mid, .int .i64 high, .sl (ls.map Ld.av) none] (z1.set i klo) (z2.set i khi) rfl (by simp [k1]) (by simp [k2])
        have s3 := endsC_set1 [.int .i64 len, .int .i64 wid, .int .i64 front, .int .i64 rear, .int .i64 turn, .int .i64 kilos, .int .i64 mid, .int .i64 high, .sl (ls.map Ld.av) none] (z1.set i klo) (z2.set i khi) (21 + i) tlo rfl (by simp [k1]) (by omega)
        rw [show 9 + (21 + i) = 30 + i by omega] at s3
        have n4 := endsC_len [.int .i64 len, .int .i64 wid, .int .i64 front, .int .i64 rear, .int .i64 turn, .int .i64 kilos, .int .i64 mid, .int .i64 high, .sl (ls.map Ld.av) none] ((z1.set i klo).set (21 + i) tlo) (z2.set i khi) rfl (by simp [k1]) (by simp [k2])
        have s4 := endsC_set2 [.int .i64 len, .int .i64 wid, .int .i64 front, .int .i64 rear, .int .i64 turn, .int .i64 kilos, .int .i64 mid, .int .i64 high, .sl (ls.map Ld.av) none] ((z1.set i klo).set (21 + i) tlo) (z2.set i khi) (21 + i) thi rfl (by simp [k1]) (by omega)
        rw [show 60 + (21 + i) = 81 + i by omega] at s4
        have p1 : 9 + i + 1 ≤ 102 := by omega
        have p2 : 60 + i + 1 ≤ 102 := by omega
        have p3 : 30 + i + 1 ≤ 102 := by omega
        have p4 : 81 + i + 1 ≤ 102 := by omega
        apply Ex.drawE (noClr_ok _) [] [] [⟨[[.int .i64 len, .int .i64 wid, .int .i64 front, .int .i64 rear, .int .i64 turn, .int .i64 kilos, .int .i64 mid, .int .i64 high, .sl (ls.map Ld.av) none], zeros102, endsC [.int .i64 len, .int .i64 wid, .int .i64 front, .int .i64 rear, .int .i64 turn, .int .i64 kilos, .int .i64 mid, .int .i64 high, .sl (ls.map Ld.av) none] (z1.set i klo) z2, [.int .i64 pt, .int .i64 klo, .int .i64 khi, .int .i64 tlo, .int .i64 thi, .int .i64 kind, .int .i64 watts]], []⟩]
        case hD =>
          simp only [List.take_succ_cons, List.take_zero]
          (repeat (first | exact DrO.nil rfl | (apply DrO.eff; (case hw => rfl); (case hd => rfl); (case hl => rfl); (case hs => rfl); (case hs' => rfl); (case hv => (simp [vA, fRes_eq, n1, s1, n2, s2, n3, p1, p2, l2, l3]; first|done|exact ⟨⟨rfl,rfl⟩,rfl⟩|exact ⟨rfl,rfl⟩|exact rfl)); (try simp only [sA])) | (apply DrO.pure; (case hw => rfl); (case hd => rfl); (case hv => (simp only [List.mem_cons, List.not_mem_nil, or_false, forall_eq_or_imp, forall_eq]; simp [vA, fRes_eq, n1, s1, n2, s2, n3, p1, p2, l2, l3]; first | done | exact ⟨⟨rfl, rfl⟩, rfl⟩ | exact ⟨rfl, rfl⟩ | exact rfl | (refine ⟨rfl, ?_⟩; first | done | rfl | simp))); (try simp only [sA]))))
        simp only [List.drop_succ_cons, List.drop_zero, List.getLastD_cons, List.getLastD_nil, List.append_nil, List.cons_append, List.nil_append]
        (apply ExO.stG; (case hk => rfl); (case hv => (simp [vA, fRes_eq, n2, s2, n3, p2, l2, l3]; first|done|exact ⟨⟨rfl,rfl⟩,rfl⟩|exact ⟨rfl,rfl⟩|exact rfl)); (try simp only [sA]))
        (apply ExO.stG; (case hk => rfl); (case hv => (simp [vA, fRes_eq, n2, s2, n3, p2, l2, l3]; first|done|exact ⟨⟨rfl,rfl⟩,rfl⟩|exact ⟨rfl,rfl⟩|exact rfl)); (try simp only [sA]))
        (repeat (first|((first|refine ExO.nil ?_|refine Ex.skip ?_|refine Ex.ret ?_|refine Ex.exit ?_); try dsimp only)|((first|(refine xI ?_; intro _ _)|refine xL ?_|(refine xB ?_; intro _ _)|refine xG ?_|refine xS ?_|refine xM ?_|(refine xC ?_; intro _ _)|refine xW ?_); try simp only [sA])|refine Ex.seq ?_|refine Ex.reg ?_|refine Ex.block ?_|refine eT ?_|refine eF ?_|simp only [reduceCtorEq, AEx.ex.injEq, Nat.reduceEqDiff, if_true, if_false]))
        apply Ex.drawE (noClr_ok _) [] [] [⟨[[.int .i64 len, .int .i64 wid, .int .i64 front, .int .i64 rear, .int .i64 turn, .int .i64 kilos, .int .i64 mid, .int .i64 high, .sl (ls.map Ld.av) none], zeros102, endsC [.int .i64 len, .int .i64 wid, .int .i64 front, .int .i64 rear, .int .i64 turn, .int .i64 kilos, .int .i64 mid, .int .i64 high, .sl (ls.map Ld.av) none] ((z1.set i klo).set (21 + i) tlo) (z2.set i khi), [.int .i64 pt, .int .i64 klo, .int .i64 khi, .int .i64 tlo, .int .i64 thi, .int .i64 kind, .int .i64 watts]], []⟩]
        case hD =>
          simp only [List.take_succ_cons, List.take_zero]
          (repeat (first | exact DrO.nil rfl | (apply DrO.eff; (case hw => rfl); (case hd => rfl); (case hl => rfl); (case hs => rfl); (case hs' => rfl); (case hv => (simp [vA, fRes_eq, n3, s3, n4, s4, p3, p4, l2, l3]; first|done|exact ⟨⟨rfl,rfl⟩,rfl⟩|exact ⟨rfl,rfl⟩|exact rfl)); (try simp only [sA])) | (apply DrO.pure; (case hw => rfl); (case hd => rfl); (case hv => (simp only [List.mem_cons, List.not_mem_nil, or_false, forall_eq_or_imp, forall_eq]; simp [vA, fRes_eq, n3, s3, n4, s4, p3, p4, l2, l3]; first | done | exact ⟨⟨rfl, rfl⟩, rfl⟩ | exact ⟨rfl, rfl⟩ | exact rfl | (refine ⟨rfl, ?_⟩; first | done | rfl | simp))); (try simp only [sA]))))
        simp only [List.drop_succ_cons, List.drop_zero, List.getLastD_cons, List.getLastD_nil, List.append_nil, List.cons_append, List.nil_append]
        (apply ExO.stG; (case hk => rfl); (case hv => (simp [vA, fRes_eq, n4, s4, p4, l2, l3]; first|done|exact ⟨⟨rfl,rfl⟩,rfl⟩|exact ⟨rfl,rfl⟩|exact rfl)); (try simp only [sA]))
        (apply ExO.stG; (case hk => rfl); (case hv => (simp [vA, fRes_eq, n4, s4, p4, l2, l3]; first|done|exact ⟨⟨rfl,rfl⟩,rfl⟩|exact ⟨rfl,rfl⟩|exact rfl)); (try simp only [sA]))
        (repeat (first|((first|refine ExO.nil ?_|refine Ex.skip ?_|refine Ex.ret ?_|refine Ex.exit ?_); try dsimp only)|((first|(refine xI ?_; intro _ _)|refine xL ?_|(refine xB ?_; intro _ _)|refine xG ?_|refine xS ?_|refine xM ?_|(refine xC ?_; intro _ _)|refine xW ?_); try simp only [sA])|refine Ex.seq ?_|refine Ex.reg ?_|refine Ex.block ?_|refine eT ?_|refine eF ?_|simp only [reduceCtorEq, AEx.ex.injEq, Nat.reduceEqDiff, if_true, if_false]))
        rename_i m hm
        rw [i64_in (by omega) (by omega)] at hm
        have hm2 : m = ((i + 1 : Nat) : Int) := by omega
        subst hm2
        refine ⟨_, _, forgets 3 [] ([false, true, true, true, false, false, false, false, false, false, false, false, true, true, true, false, false, false, false, false, false, false, false, false, false, false, false, false, false, false, false, false, false, false, false, false, false, false, false, false, false, false, false, false, false, false, false, false, false]) (by decide) (by simp) (bx2 := [[.int .i64 len, .int .i64 wid, .int .i64 front, .int .i64 rear, .int .i64 turn, .int .i64 kilos, .int .i64 mid, .int .i64 high, .sl (ls.map Ld.av) none], zeros102, endsC [.int .i64 len, .int .i64 wid, .int .i64 front, .int .i64 rear, .int .i64 turn, .int .i64 kilos, .int .i64 mid, .int .i64 high, .sl (ls.map Ld.av) none] ((z1.set i klo).set (21 + i) tlo) ((z2.set i khi).set (21 + i) thi)]) (by simp only [List.take_succ_cons, List.take_zero, List.mapM_cons, List.mapM_nil, hre, hz, endsC_re 3 [] _ _ _ hre]; rfl) (by rfl) (by decide), ls.length - (i + 1), by omega, i + 1, ((z1.set i klo).set (21 + i) tlo), ((z2.set i khi).set (21 + i) thi), by omega, rfl, by simp [k1], by simp [k2], k4, ?_, by rfl⟩
        simp [keepS, re, re1, AV.clean, clean_lds]
  · refine Does.of comp54 ?_
    unfold F54
    simp only [start, List.length_cons, List.length_nil, List.replicate, List.cons_append, List.nil_append, Nat.reduceAdd, Nat.reduceSub]
    refine Ex.seq (Ex.reg (ExO.run _ (a' := [.agg [.int .i64 len, .int .i64 wid, .int .i64 front, .int .i64 rear, .int .i64 turn, .int .i64 kilos, .int .i64 mid, .int .i64 high, .nils], .ptr 0 0, .ptr 1 0, .tup [], .tup [], .tup [], .tup [], .tup [], .tup [], .tup [], .tup [], .tup [], .tup [], .tup [], .tup [], .tup [], .tup [], .tup [], .tup [], .tup [], .tup [], .tup [], .tup [], .tup [], .tup [], .tup [], .tup [], .tup [], .tup [], .tup [], .tup [], .tup [], .tup [], .tup [], .tup [], .tup [], .tup [], .tup [], .tup [], .tup [], .tup [], .tup [], .tup [], .tup [], .tup [], .tup [], .tup [], .tup [], .tup []]) (S' := ⟨[[.int .i64 len, .int .i64 wid, .int .i64 front, .int .i64 rear, .int .i64 turn, .int .i64 kilos, .int .i64 mid, .int .i64 high, .nils], zeros102], []⟩) (by kernel_rfl) ?_))
    dsimp only
    refine Ex.seq (Ex.reg (ExO.run _ (a' := [.agg [.int .i64 len, .int .i64 wid, .int .i64 front, .int .i64 rear, .int .i64 turn, .int .i64 kilos, .int .i64 mid, .int .i64 high, .nils], .ptr 0 0, .ptr 1 0, .ptr 2 0, .tup [], .tup [], .agg [.int .i64 len, .int .i64 wid, .int .i64 front, .int .i64 rear, .int .i64 turn, .int .i64 kilos, .int .i64 mid, .int .i64 high, .nils], .agg ([.int .i64 len, .int .i64 wid, .int .i64 front, .int .i64 rear, .int .i64 turn, .int .i64 kilos, .int .i64 mid, .int .i64 high, .nils] ++ nums42 z42), .agg [.int .i64 len, .int .i64 wid, .int .i64 front, .int .i64 rear, .int .i64 turn, .int .i64 kilos, .int .i64 mid, .int .i64 high, .nils], .agg ([.int .i64 len, .int .i64 wid, .int .i64 front, .int .i64 rear, .int .i64 turn, .int .i64 kilos, .int .i64 mid, .int .i64 high, .nils] ++ nums42 z42), .agg (endsC [.int .i64 len, .int .i64 wid, .int .i64 front, .int .i64 rear, .int .i64 turn, .int .i64 kilos, .int .i64 mid, .int .i64 high, .nils] z42 z42), .tup [], .tup [], .tup [], .tup [], .tup [], .tup [], .tup [], .tup [], .tup [], .tup [], .tup [], .tup [], .tup [], .tup [], .tup [], .tup [], .tup [], .tup [], .tup [], .tup [], .tup [], .tup [], .tup [], .tup [], .tup [], .tup [], .tup [], .tup [], .tup [], .tup [], .tup [], .tup [], .tup [], .tup [], .tup [], .tup [], .tup [], .tup []]) (S' := ⟨[[.int .i64 len, .int .i64 wid, .int .i64 front, .int .i64 rear, .int .i64 turn, .int .i64 kilos, .int .i64 mid, .int .i64 high, .nils], zeros102, endsC [.int .i64 len, .int .i64 wid, .int .i64 front, .int .i64 rear, .int .i64 turn, .int .i64 kilos, .int .i64 mid, .int .i64 high, .nils] z42 z42], []⟩) (by kernel_rfl) ?_))
    dsimp only
    have hre : List.mapM (re 3 []) [.int .i64 len, .int .i64 wid, .int .i64 front, .int .i64 rear, .int .i64 turn, .int .i64 kilos, .int .i64 mid, .int .i64 high, .nils] = some [.int .i64 len, .int .i64 wid, .int .i64 front, .int .i64 rear, .int .i64 turn, .int .i64 kilos, .int .i64 mid, .int .i64 high, .nils] := by simp [re, re1, AV.clean, cleanL]
    have hz : List.mapM (re 3 []) zeros102 = some zeros102 := endsC_re _ _ _ _ _ rfl
    refine Ex.forget (a2 := [.junk, .ptr 0 0, .ptr 1 0, .ptr 2 0, .junk, .junk, .junk, .junk, .junk, .junk, .junk, .junk, .junk, .junk, .junk, .junk, .junk, .junk, .junk, .junk, .junk, .junk, .junk, .junk, .junk, .junk, .junk, .junk, .junk, .junk, .junk, .junk, .junk, .junk, .junk, .junk, .junk, .junk, .junk, .junk, .junk, .junk, .junk, .junk, .junk, .junk, .junk, .junk, .junk]) (forgets 3 [] ([false, true, true, true, false, false, false, false, false, false, false, false, false, false, false, false, false, false, false, false, false, false, false, false, false, false, false, false, false, false, false, false, false, false, false, false, false, false, false, false, false, false, false, false, false, false, false, false, false]) (by decide) (by simp) (bx2 := [[.int .i64 len, .int .i64 wid, .int .i64 front, .int .i64 rear, .int .i64 turn, .int .i64 kilos, .int .i64 mid, .int .i64 high, .nils], zeros102, endsC [.int .i64 len, .int .i64 wid, .int .i64 front, .int .i64 rear, .int .i64 turn, .int .i64 kilos, .int .i64 mid, .int .i64 high, .nils] z42 z42]) (by simp only [List.take_succ_cons, List.take_zero, List.mapM_cons, List.mapM_nil, hre, hz, endsC_re 3 [] _ _ _ hre]; rfl) (by rfl) (by decide)) ?_
    have hz1 : z42.length = 42 := rfl
    generalize z42 = y1 at hz1 ⊢
    (repeat (first|((first|refine ExO.nil ?_|refine Ex.skip ?_|refine Ex.ret ?_|refine Ex.exit ?_); try dsimp only)|((first|(refine xI ?_; intro _ _)|refine xL ?_|(refine xB ?_; intro _ _)|refine xG ?_|refine xS ?_|refine xM ?_|(refine xC ?_; intro _ _)|refine xW ?_); try simp only [sA])|refine Ex.seq ?_|refine Ex.reg ?_|refine Ex.block ?_|refine eT ?_|refine eF ?_|simp only [reduceCtorEq, AEx.ex.injEq, Nat.reduceEqDiff, if_true, if_false]))
    refine Ex.loopF (fun k a S => k = 0 ∧ a = [.junk, .ptr 0 0, .ptr 1 0, .ptr 2 0, .junk, .junk, .junk, .junk, .junk, .junk, .junk, .junk, .nils, .int .i64 0, .int .i64 0, .junk, .junk, .junk, .junk, .junk, .junk, .junk, .junk, .junk, .junk, .junk, .junk, .junk, .junk, .junk, .junk, .junk, .junk, .junk, .junk, .junk, .junk, .junk, .junk, .junk, .junk, .junk, .junk, .junk, .junk, .junk, .junk, .junk, .junk] ∧ S = ⟨[[.int .i64 len, .int .i64 wid, .int .i64 front, .int .i64 rear, .int .i64 turn, .int .i64 kilos, .int .i64 mid, .int .i64 high, .nils], zeros102, endsC [.int .i64 len, .int .i64 wid, .int .i64 front, .int .i64 rear, .int .i64 turn, .int .i64 kilos, .int .i64 mid, .int .i64 high, .nils] y1 y1], []⟩) 0 ?_ ?_
    · refine ⟨_, _, forgets 3 [] ([false, true, true, true, false, false, false, false, false, false, false, false, true, true, true, false, false, false, false, false, false, false, false, false, false, false, false, false, false, false, false, false, false, false, false, false, false, false, false, false, false, false, false, false, false, false, false, false, false]) (by decide) (by simp) (bx2 := [[.int .i64 len, .int .i64 wid, .int .i64 front, .int .i64 rear, .int .i64 turn, .int .i64 kilos, .int .i64 mid, .int .i64 high, .nils], zeros102, endsC [.int .i64 len, .int .i64 wid, .int .i64 front, .int .i64 rear, .int .i64 turn, .int .i64 kilos, .int .i64 mid, .int .i64 high, .nils] y1 y1]) (by simp only [List.take_succ_cons, List.take_zero, List.mapM_cons, List.mapM_nil, hre, hz, endsC_re 3 [] _ _ _ hre]; rfl) (by rfl) (by decide), rfl, ?_, by rfl⟩
      simp [keepS, re, re1, AV.clean]
    · rintro k a S ⟨rfl, rfl, rfl⟩
      have n1 := endsC_len [.int .i64 len, .int .i64 wid, .int .i64 front, .int .i64 rear, .int .i64 turn, .int .i64 kilos, .int .i64 mid, .int .i64 high, .nils] y1 y1 rfl hz1 hz1
      have n0 : zeros102.length = 102 := endsC_len _ _ _ rfl rfl rfl
      have t1 := endsC_take [.int .i64 len, .int .i64 wid, .int .i64 front, .int .i64 rear, .int .i64 turn, .int .i64 kilos, .int .i64 mid, .int .i64 high, .nils] y1 y1 rfl hz1 hz1
      have q1 := endsC_scal [.int .i64 len, .int .i64 wid, .int .i64 front, .int .i64 rear, .int .i64 turn, .int .i64 kilos, .int .i64 mid, .int .i64 high, .nils] y1 y1 (by simp [AV.scalar])
      have q2 := layAt_full zeros102 (endsC [.int .i64 len, .int .i64 wid, .int .i64 front, .int .i64 rear, .int .i64 turn, .int .i64 kilos, .int .i64 mid, .int .i64 high, .nils] y1 y1) (by rw [n0, n1])
      (repeat (first|((first|refine ExO.nil ?_|refine Ex.skip ?_|refine Ex.ret ?_|refine Ex.exit ?_); try dsimp only)|((first|(refine xI ?_; intro _ _)|refine xL ?_|(refine xB ?_; intro _ _)|refine xG ?_|refine xS ?_|refine xM ?_|(refine xC ?_; intro _ _)|refine xW ?_); try simp only [sA])|refine Ex.seq ?_|refine Ex.reg ?_|refine Ex.block ?_|refine eT ?_|refine eF ?_|simp only [reduceCtorEq, AEx.ex.injEq, Nat.reduceEqDiff, if_true, if_false]))
      (apply ExO.stG; (case hk => rfl); (case hv => (simp [vA, fRes_eq, n1, t1]; first|done|exact ⟨⟨rfl,rfl⟩,rfl⟩|exact ⟨rfl,rfl⟩|exact rfl)); (try simp only [sA]))
      (apply ExO.stG; (case hk => rfl); (case hv => (simp [vA, fRes_eq, n0, n1, q1, q2]; first|done|exact ⟨⟨rfl,rfl⟩,rfl⟩|exact ⟨rfl,rfl⟩|exact rfl)); (try simp only [sA]))
      (repeat (first|((first|refine ExO.nil ?_|refine Ex.skip ?_|refine Ex.ret ?_|refine Ex.exit ?_); try dsimp only)|((first|(refine xI ?_; intro _ _)|refine xL ?_|(refine xB ?_; intro _ _)|refine xG ?_|refine xS ?_|refine xM ?_|(refine xC ?_; intro _ _)|refine xW ?_); try simp only [sA])|refine Ex.seq ?_|refine Ex.reg ?_|refine Ex.block ?_|refine eT ?_|refine eF ?_|simp only [reduceCtorEq, AEx.ex.injEq, Nat.reduceEqDiff, if_true, if_false]))
      refine ⟨.inr trivial, .agg (endsC [.int .i64 len, .int .i64 wid, .int .i64 front, .int .i64 rear, .int .i64 turn, .int .i64 kilos, .int .i64 mid, .int .i64 high, .nils] y1 y1), ?_, by simp, ?_⟩
      · simp [evRes, evRes1, one, takeCells, n1, t1]
      · exact ⟨y1, y1, hz1, hz1, fun j hj => absurd hj (by simp), rfl, by simp [AV.names]⟩
end Go.Proofs.Ytoefpcpijolofaa
end
section
namespace Go.Proofs.Ytoefpcpijolofaa
open Go.RowKit
set_option linter.unusedVariables false
set_option linter.unusedSimpArgs false
set_option maxRecDepth 10000
set_option maxHeartbeats 4000000

theorem sq_in {x : Int} (h0 : 0 ≤ x) (h1 : x ≤ 100000) : 0 ≤ x * x ∧ x * x ≤ 10000000000 := ⟨Int.mul_nonneg h0 h0, by have := Int.mul_le_mul h1 h1 h0 (by omega); simpa using this⟩
theorem m4_in {x : Int} (h0 : 0 ≤ x) (h1 : x ≤ 20000) : 0 ≤ 4 * x * x ∧ 4 * x * x ≤ 1600000000 := ⟨Int.mul_nonneg (by omega) h0, by have := Int.mul_le_mul (show 4 * x ≤ 80000 by omega) h1 h0 (by omega); simpa using this⟩

def far2 (len rear : Int) : Int := 2 * (if rear < len - rear then len - rear else rear)
def turnsB (len wid rear turn a b r : Int) : Bool := decide (turn ≤ r) && (decide (2 * a ≤ 2 * r - wid) && decide ((2 * r + wid) * (2 * r + wid) + far2 len rear * far2 len rear ≤ 4 * b * b))

def trC (F : List AV) (z : List Int) : List AV := F ++ nums42 z
def wider (wid turn a : Int) : Int := if 2 * a + wid - 2 * turn ≤ 0 then 0 else (2 * a + wid - 2 * turn + 1) / 2
theorem trC_scal (F : List AV) (z : List Int) (hF : F.all AV.scalar = true) : (trC F z).all AV.scalar = true := by
  simp [trC, nums42, List.all_append, hF, AV.scalar]
theorem trC_clean (F : List AV) (z : List Int) (hF : cleanL F = true) : cleanL (trC F z) = true := by
  rw [cleanL_iff]
  intro x hx
  rcases List.mem_append.1 hx with h | h
  · exact cleanL_iff.1 hF x h
  · obtain ⟨n, _, rfl⟩ := List.mem_map.1 h
    rfl
theorem trC_re (n : Nat) (σ : List Nat) (F : List AV) (z : List Int) (hF : F.mapM (re n σ) = some F) : (trC F z).mapM (re n σ) = some (trC F z) := mapM_app _ _ _ _ _ hF (nums42_re n σ z)

theorem clo_m (len wid front rear turn kilos mid high a k : Int) (L : AV) (z : List Int) (hF : FOk ⟨len, wid, front, rear, turn, kilos, mid, high⟩) (h0 : 0 ≤ a) (h1 : a ≤ 20000) (h2 : 0 ≤ k) (h3 : k ≤ 100000) : Does Try.prog 101 [.int .i64 k, .ptr 0 0, .ptr 1 0] [trC [.int .i64 len, .int .i64 wid, .int .i64 front, .int .i64 rear, .int .i64 turn, .int .i64 kilos, .int .i64 mid, .int .i64 high, L] z, [.int .i64 a]] fun v c' => v = .bool (decide (2 * a ≤ 2 * (turn + k) - wid)) ∧ c' = [trC [.int .i64 len, .int .i64 wid, .int .i64 front, .int .i64 rear, .int .i64 turn, .int .i64 kilos, .int .i64 mid, .int .i64 high, L] z, [.int .i64 a]] := by
  have hF' := hF
  unfold FOk at hF'
  simp only [] at hF'
  obtain ⟨o1, o2, o3, o4, o5, o6, o7, o8, o9, o10, o11, o12, o13, o14, o15⟩ := hF'
  refine Does.of comp101 ?_
  unfold F101
  have t1 : (trC [.int .i64 len, .int .i64 wid, .int .i64 front, .int .i64 rear, .int .i64 turn, .int .i64 kilos, .int .i64 mid, .int .i64 high, L] z)[1]? = some (.int .i64 wid) := rfl
  have t4 : (trC [.int .i64 len, .int .i64 wid, .int .i64 front, .int .i64 rear, .int .i64 turn, .int .i64 kilos, .int .i64 mid, .int .i64 high, L] z)[4]? = some (.int .i64 turn) := rfl
  generalize trC [.int .i64 len, .int .i64 wid, .int .i64 front, .int .i64 rear, .int .i64 turn, .int .i64 kilos, .int .i64 mid, .int .i64 high, L] z = T at t1 t4 ⊢
  simp only [start, List.length_cons, List.length_nil, List.replicate, List.cons_append, List.nil_append, Nat.reduceAdd, Nat.reduceSub]
  (repeat (first|((first|refine ExO.nil ?_|refine Ex.skip ?_|refine Ex.ret ?_|refine Ex.exit ?_); try dsimp only)|((first|(refine xI ?_; intro _ _)|refine xL ?_|(refine xB ?_; intro _ _)|refine xG ?_|refine xS ?_|refine xM ?_|(refine xC ?_; intro _ _)|refine xW ?_); try simp only [sA])|refine Ex.seq ?_|refine Ex.reg ?_|refine Ex.block ?_|refine eT ?_|refine eF ?_|simp only [reduceCtorEq, AEx.ex.injEq, Nat.reduceEqDiff, if_true, if_false]))
  (apply ExO.stG; (case hk => rfl); (case hv => (simp [vA, fRes_eq, t4]; first|done|exact ⟨⟨rfl,rfl⟩,rfl⟩|exact ⟨rfl,rfl⟩|exact rfl)); (try simp only [sA]))
  (repeat (first|((first|refine ExO.nil ?_|refine Ex.skip ?_|refine Ex.ret ?_|refine Ex.exit ?_); try dsimp only)|((first|(refine xI ?_; intro _ _)|refine xL ?_|(refine xB ?_; intro _ _)|refine xG ?_|refine xS ?_|refine xM ?_|(refine xC ?_; intro _ _)|refine xW ?_); try simp only [sA])|refine Ex.seq ?_|refine Ex.reg ?_|refine Ex.block ?_|refine eT ?_|refine eF ?_|simp only [reduceCtorEq, AEx.ex.injEq, Nat.reduceEqDiff, if_true, if_false]))
  (apply ExO.stG; (case hk => rfl); (case hv => (simp [vA, fRes_eq, t1]; first|done|exact ⟨⟨rfl,rfl⟩,rfl⟩|exact ⟨rfl,rfl⟩|exact rfl)); (try simp only [sA]))
  (repeat (first|((first|refine ExO.nil ?_|refine Ex.skip ?_|refine Ex.ret ?_|refine Ex.exit ?_); try dsimp only)|((first|(refine xI ?_; intro _ _)|refine xL ?_|(refine xB ?_; intro _ _)|refine xG ?_|refine xS ?_|refine xM ?_|(refine xC ?_; intro _ _)|refine xW ?_); try simp only [sA])|refine Ex.seq ?_|refine Ex.reg ?_|refine Ex.block ?_|refine eT ?_|refine eF ?_|simp only [reduceCtorEq, AEx.ex.injEq, Nat.reduceEqDiff, if_true, if_false]))
  rename_i x1 g1 x2 g2 x3 g3 x4 g4 c d
  rw [i64_in (by omega) (by omega)] at g1
  rw [i64_in (by omega) (by omega)] at g2
  rw [i64_in (by omega) (by omega)] at g3
  rw [i64_in (by omega) (by omega)] at g4
  simp [evRes, evRes1, one, AV.names, takeCells]
  rw [d, g4, g3, g2, g1]

theorem search_m (len wid front rear turn kilos mid high a : Int) (L : AV) (z : List Int) (hF : FOk ⟨len, wid, front, rear, turn, kilos, mid, high⟩) (hc : cleanL [.int .i64 len, .int .i64 wid, .int .i64 front, .int .i64 rear, .int .i64 turn, .int .i64 kilos, .int .i64 mid, .int .i64 high, L] = true) (hr : List.mapM (re 2 []) [.int .i64 len, .int .i64 wid, .int .i64 front, .int .i64 rear, .int .i64 turn, .int .i64 kilos, .int .i64 mid, .int .i64 high, L] = some [.int .i64 len, .int .i64 wid, .int .i64 front, .int .i64 rear, .int .i64 turn, .int .i64 kilos, .int .i64 mid, .int .i64 high, L]) (h0 : 0 ≤ a) (h1 : a ≤ 20000) : Does Try.prog 70 [.int .i64 21000, .fn 101 [] [.ptr 0 0, .ptr 1 0]] [trC [.int .i64 len, .int .i64 wid, .int .i64 front, .int .i64 rear, .int .i64 turn, .int .i64 kilos, .int .i64 mid, .int .i64 high, L] z, [.int .i64 a]] fun v c' => v = .int .i64 (wider wid turn a) ∧ c' = [trC [.int .i64 len, .int .i64 wid, .int .i64 front, .int .i64 rear, .int .i64 turn, .int .i64 kilos, .int .i64 mid, .int .i64 high, L] z, [.int .i64 a]] := by
  have hF' := hF
  unfold FOk at hF'
  simp only [] at hF'
  obtain ⟨o1, o2, o3, o4, o5, o6, o7, o8, o9, o10, o11, o12, o13, o14, o15⟩ := hF'
  refine Does.of comp70 ?_
  unfold F70
  have hcT := trC_clean [.int .i64 len, .int .i64 wid, .int .i64 front, .int .i64 rear, .int .i64 turn, .int .i64 kilos, .int .i64 mid, .int .i64 high, L] z hc
  have hre := trC_re 2 [] [.int .i64 len, .int .i64 wid, .int .i64 front, .int .i64 rear, .int .i64 turn, .int .i64 kilos, .int .i64 mid, .int .i64 high, L] z hr
  have hclo := fun k h2 h3 => clo_m len wid front rear turn kilos mid high a k L z hF h0 h1 h2 h3
  generalize trC [.int .i64 len, .int .i64 wid, .int .i64 front, .int .i64 rear, .int .i64 turn, .int .i64 kilos, .int .i64 mid, .int .i64 high, L] z = T at hcT hclo hre ⊢
  simp only [start, List.length_cons, List.length_nil, List.replicate, List.cons_append, List.nil_append, Nat.reduceAdd, Nat.reduceSub]
  (repeat (first|((first|refine ExO.nil ?_|refine Ex.skip ?_|refine Ex.ret ?_|refine Ex.exit ?_); try dsimp only)|((first|(refine xI ?_; intro _ _)|refine xL ?_|(refine xB ?_; intro _ _)|refine xG ?_|refine xS ?_|refine xM ?_|(refine xC ?_; intro _ _)|refine xW ?_); try simp only [sA])|refine Ex.seq ?_|refine Ex.reg ?_|refine Ex.block ?_|refine eT ?_|refine eF ?_|simp only [reduceCtorEq, AEx.ex.injEq, Nat.reduceEqDiff, if_true, if_false]))
  refine Ex.loopF (fun k aa S => ∃ i j : Int, 0 ≤ i ∧ i ≤ j ∧ j ≤ 21000 ∧ k = (j - i).toNat ∧ (i = 0 ∨ ¬ 2 * a ≤ 2 * (turn + (i - 1)) - wid) ∧ (j = 21000 ∨ 2 * a ≤ 2 * (turn + j) - wid) ∧ aa = [.junk, .fn 101 [] [.ptr 0 0, .ptr 1 0], .junk, .junk, .junk, .int .i64 i, .int .i64 j, .junk, .junk, .junk, .junk, .junk, .junk, .junk, .junk, .junk, .junk, .junk, .junk, .junk, .junk, .junk, .junk, .junk, .junk, .junk] ∧ S = ⟨[T, [.int .i64 a]], []⟩) 21000 ?_ ?_
  · refine ⟨_, _, forgets 2 [] ([false, true, false, false, false, true, true, false, false, false, false, false, false, false, false, false, false, false, false, false, false, false, false, false, false, false]) (by decide) (by simp) (bx2 := [T, [.int .i64 a]]) (by simp [hre, re, re1, AV.clean]) (by rfl) (by decide), 0, 21000, by omega, by omega, by omega, by rfl, .inl rfl, .inl rfl, ?_, by rfl⟩
    simp [keepS, re, re1, AV.clean]
  · rintro k aa S ⟨i, j, hi0, hij, hj, rfl, hlo, hhi, rfl, rfl⟩
    (repeat (first|((first|refine ExO.nil ?_|refine Ex.skip ?_|refine Ex.ret ?_|refine Ex.exit ?_); try dsimp only)|((first|(refine xI ?_; intro _ _)|refine xL ?_|(refine xB ?_; intro _ _)|refine xG ?_|refine xS ?_|refine xM ?_|(refine xC ?_; intro _ _)|refine xW ?_); try simp only [sA])|refine Ex.seq ?_|refine Ex.reg ?_|refine Ex.block ?_|refine eT ?_|refine eF ?_|simp only [reduceCtorEq, AEx.ex.injEq, Nat.reduceEqDiff, if_true, if_false]))
    rename_i c hc1
    cases c
    · have q : ¬ i < j := by simpa using hc1
      (refine Ex.cond (b := false) (by first | rfl | simp [evd]) ?_; simp only [Bool.false_eq_true, if_false])
      (repeat (first|((first|refine ExO.nil ?_|refine Ex.skip ?_|refine Ex.ret ?_|refine Ex.exit ?_); try dsimp only)|((first|(refine xI ?_; intro _ _)|refine xL ?_|(refine xB ?_; intro _ _)|refine xG ?_|refine xS ?_|refine xM ?_|(refine xC ?_; intro _ _)|refine xW ?_); try simp only [sA])|refine Ex.seq ?_|refine Ex.reg ?_|refine Ex.block ?_|refine eT ?_|refine eF ?_|simp only [reduceCtorEq, AEx.ex.injEq, Nat.reduceEqDiff, if_true, if_false]))
      simp [evRes, evRes1, one, AV.names, takeCells]
      unfold wider
      split <;> omega
    · have q : i < j := by simpa using hc1
      (refine Ex.cond (b := true) (by first | rfl | simp [evd]) ?_; simp only [if_true])
      (repeat (first|((first|refine ExO.nil ?_|refine Ex.skip ?_|refine Ex.ret ?_|refine Ex.exit ?_); try dsimp only)|((first|(refine xI ?_; intro _ _)|refine xL ?_|(refine xB ?_; intro _ _)|refine xG ?_|refine xS ?_|refine xM ?_|(refine xC ?_; intro _ _)|refine xW ?_); try simp only [sA])|refine Ex.seq ?_|refine Ex.reg ?_|refine Ex.block ?_|refine eT ?_|refine eF ?_|simp only [reduceCtorEq, AEx.ex.injEq, Nat.reduceEqDiff, if_true, if_false]))
      rename_i x1 g1 x2 g2 x3 g3 x4 g4
      rw [i64_in (by omega) (by omega)] at g1
      have e2 : x2 = i + j := by rw [g2, g1]; show (i + j) % 2 ^ 64 = i + j; omega
      have e3 : x3 = (i + j) / 2 := by rw [g3, e2]; show (i + j).fdiv 2 = _; rw [Int.fdiv_eq_ediv_of_nonneg _ (by omega)]
      rw [e3, i64_in (by omega) (by omega)] at g4
      refine ExO.call (f := 101) (xs := [.int .i64 x4, .ptr 0 0, .ptr 1 0]) (ys := [.int .i64 x4, .ptr 0 0, .ptr 1 0]) (bs := [0, 1]) (cells := [T, [.int .i64 a]]) (by rfl) (by rfl) (by rfl) (by rfl) (by rfl) (by simp [hcT, cleanL, AV.clean]) (hclo x4 (by omega) (by omega)) ?_
      rintro v c' ⟨rfl, rfl⟩
      refine ⟨_, rfl, by simp [hcT, cleanL, AV.clean], ?_⟩
      simp only [List.map_cons, List.map_nil, putA, List.set_cons_zero, List.set_cons_succ, AV.plain, AV.plain1, setAll, List.length_cons, List.length_nil, List.drop_succ_cons, List.drop_zero, List.drop_nil, List.append_nil, Nat.reduceAdd]
      (repeat (first|((first|refine ExO.nil ?_|refine Ex.skip ?_|refine Ex.ret ?_|refine Ex.exit ?_); try dsimp only)|((first|(refine xI ?_; intro _ _)|refine xL ?_|(refine xB ?_; intro _ _)|refine xG ?_|refine xS ?_|refine xM ?_|(refine xC ?_; intro _ _)|refine xW ?_); try simp only [sA])|refine Ex.seq ?_|refine Ex.reg ?_|refine Ex.block ?_|refine eT ?_|refine eF ?_|simp only [reduceCtorEq, AEx.ex.injEq, Nat.reduceEqDiff, if_true, if_false]))
      by_cases q4 : 2 * a ≤ 2 * (turn + x4) - wid
      · refine Ex.cond (b := false) (by simp [evd, q4]) ?_
        simp only [Bool.false_eq_true, if_false]
        (repeat (first|((first|refine ExO.nil ?_|refine Ex.skip ?_|refine Ex.ret ?_|refine Ex.exit ?_); try dsimp only)|((first|(refine xI ?_; intro _ _)|refine xL ?_|(refine xB ?_; intro _ _)|refine xG ?_|refine xS ?_|refine xM ?_|(refine xC ?_; intro _ _)|refine xW ?_); try simp only [sA])|refine Ex.seq ?_|refine Ex.reg ?_|refine Ex.block ?_|refine eT ?_|refine eF ?_|simp only [reduceCtorEq, AEx.ex.injEq, Nat.reduceEqDiff, if_true, if_false]))
        refine ⟨_, _, forgets 2 [] ([false, true, false, false, false, true, true, false, false, false, false, false, false, false, false, false, false, false, false, false, false, false, false, false, false, false]) (by decide) (by simp) (bx2 := [T, [.int .i64 a]]) (by simp [hre, re, re1, AV.clean]) (by rfl) (by decide), (x4 - i).toNat, by omega, i, x4, by omega, by omega, by omega, rfl, hlo, .inr q4, ?_, by rfl⟩
        simp [keepS, re, re1, AV.clean]
      · refine Ex.cond (b := true) (by simp [evd, q4]) ?_
        simp only [if_true]
        (repeat (first|((first|refine ExO.nil ?_|refine Ex.skip ?_|refine Ex.ret ?_|refine Ex.exit ?_); try dsimp only)|((first|(refine xI ?_; intro _ _)|refine xL ?_|(refine xB ?_; intro _ _)|refine xG ?_|refine xS ?_|refine xM ?_|(refine xC ?_; intro _ _)|refine xW ?_); try simp only [sA])|refine Ex.seq ?_|refine Ex.reg ?_|refine Ex.block ?_|refine eT ?_|refine eF ?_|simp only [reduceCtorEq, AEx.ex.injEq, Nat.reduceEqDiff, if_true, if_false]))
        rename_i x5 g5
        rw [i64_in (by omega) (by omega)] at g5
        refine ⟨_, _, forgets 2 [] ([false, true, false, false, false, true, true, false, false, false, false, false, false, false, false, false, false, false, false, false, false, false, false, false, false, false]) (by decide) (by simp) (bx2 := [T, [.int .i64 a]]) (by simp [hre, re, re1, AV.clean]) (by rfl) (by decide), (j - x5).toNat, by omega, x5, j, by omega, by omega, by omega, rfl, .inr (by rw [g5]; rw [show x4 + 1 - 1 = x4 by omega]; exact q4), hhi, ?_, by rfl⟩
        simp [keepS, re, re1, AV.clean]

def bendB (len wid rear turn a b : Int) : Bool := decide ((2 * (turn + wider wid turn a) + wid) * (2 * (turn + wider wid turn a) + wid) + far2 len rear * far2 len rear ≤ 4 * b * b)
theorem passesBend_m (len wid front rear turn kilos mid high a b : Int) (L : AV) (z : List Int) (hF : FOk ⟨len, wid, front, rear, turn, kilos, mid, high⟩) (hs : L.scalar = true) (hc : cleanL [.int .i64 len, .int .i64 wid, .int .i64 front, .int .i64 rear, .int .i64 turn, .int .i64 kilos, .int .i64 mid, .int .i64 high, L] = true) (hr : List.mapM (re 2 []) [.int .i64 len, .int .i64 wid, .int .i64 front, .int .i64 rear, .int .i64 turn, .int .i64 kilos, .int .i64 mid, .int .i64 high, L] = some [.int .i64 len, .int .i64 wid, .int .i64 front, .int .i64 rear, .int .i64 turn, .int .i64 kilos, .int .i64 mid, .int .i64 high, L]) (h0 : 0 ≤ a) (h1 : a ≤ 20000) (h2 : 0 ≤ b) (h3 : b ≤ 20000) : Does Try.prog 95 [.agg (trC [.int .i64 len, .int .i64 wid, .int .i64 front, .int .i64 rear, .int .i64 turn, .int .i64 kilos, .int .i64 mid, .int .i64 high, L] z), .int .i64 a, .int .i64 b] [] fun v c' => v = .bool (bendB len wid rear turn a b) ∧ c' = [] := by
  have hF' := hF
  unfold FOk at hF'
  simp only [] at hF'
  obtain ⟨o1, o2, o3, o4, o5, o6, o7, o8, o9, o10, o11, o12, o13, o14, o15⟩ := hF'
  refine Does.of comp95 ?_
  unfold F95
  have hcT := trC_clean [.int .i64 len, .int .i64 wid, .int .i64 front, .int .i64 rear, .int .i64 turn, .int .i64 kilos, .int .i64 mid, .int .i64 high, L] z hc
  have hse := search_m len wid front rear turn kilos mid high a L z hF hc hr h0 h1
  have hsc := trC_scal [.int .i64 len, .int .i64 wid, .int .i64 front, .int .i64 rear, .int .i64 turn, .int .i64 kilos, .int .i64 mid, .int .i64 high, L] z (by simp [AV.scalar]; exact hs)
  have t0 : (trC [.int .i64 len, .int .i64 wid, .int .i64 front, .int .i64 rear, .int .i64 turn, .int .i64 kilos, .int .i64 mid, .int .i64 high, L] z)[0]? = some (.int .i64 len) := rfl
  have t1 : (trC [.int .i64 len, .int .i64 wid, .int .i64 front, .int .i64 rear, .int .i64 turn, .int .i64 kilos, .int .i64 mid, .int .i64 high, L] z)[1]? = some (.int .i64 wid) := rfl
  have t3 : (trC [.int .i64 len, .int .i64 wid, .int .i64 front, .int .i64 rear, .int .i64 turn, .int .i64 kilos, .int .i64 mid, .int .i64 high, L] z)[3]? = some (.int .i64 rear) := rfl
  have t4 : (trC [.int .i64 len, .int .i64 wid, .int .i64 front, .int .i64 rear, .int .i64 turn, .int .i64 kilos, .int .i64 mid, .int .i64 high, L] z)[4]? = some (.int .i64 turn) := rfl
  generalize trC [.int .i64 len, .int .i64 wid, .int .i64 front, .int .i64 rear, .int .i64 turn, .int .i64 kilos, .int .i64 mid, .int .i64 high, L] z = T at hcT hse hsc t0 t1 t3 t4 ⊢
  simp only [start, List.length_cons, List.length_nil, List.replicate, List.cons_append, List.nil_append, Nat.reduceAdd, Nat.reduceSub]
  (repeat (first|((first|refine ExO.nil ?_|refine Ex.skip ?_|refine Ex.ret ?_|refine Ex.exit ?_); try dsimp only)|((first|(refine xI ?_; intro _ _)|refine xL ?_|(refine xB ?_; intro _ _)|refine xG ?_|refine xS ?_|refine xM ?_|(refine xC ?_; intro _ _)|refine xW ?_); try simp only [sA])|refine Ex.seq ?_|refine Ex.reg ?_|refine Ex.block ?_|refine eT ?_|refine eF ?_|simp only [reduceCtorEq, AEx.ex.injEq, Nat.reduceEqDiff, if_true, if_false]))
  refine ExO.call (f := 70) (xs := [.int .i64 21000, .fn 101 [] [.ptr 0 0, .ptr 1 0]]) (ys := [.int .i64 21000, .fn 101 [] [.ptr 0 0, .ptr 1 0]]) (bs := [0, 1]) (cells := [T, [.int .i64 a]]) (by rfl) (by rfl) (by rfl) (by rfl) (by rfl) (by simp [hcT, cleanL, AV.clean]) hse ?_
  rintro v c' ⟨rfl, rfl⟩
  refine ⟨_, rfl, by simp [hcT, cleanL, AV.clean], ?_⟩
  have hw : 0 ≤ wider wid turn a ∧ wider wid turn a ≤ 21000 := by unfold wider; split <;> omega
  generalize hwd : wider wid turn a = W at hw
  simp only [List.map_cons, List.map_nil, putA, List.set_cons_zero, List.set_cons_succ, AV.plain, AV.plain1, setAll, List.length_cons, List.length_nil, List.drop_succ_cons, List.drop_zero, List.drop_nil, List.append_nil, Nat.reduceAdd]
  (repeat (first|((first|refine ExO.nil ?_|refine Ex.skip ?_|refine Ex.ret ?_|refine Ex.exit ?_); try dsimp only)|((first|(refine xI ?_; intro _ _)|refine xL ?_|(refine xB ?_; intro _ _)|refine xG ?_|refine xS ?_|refine xM ?_|(refine xC ?_; intro _ _)|refine xW ?_); try simp only [sA])|refine Ex.seq ?_|refine Ex.reg ?_|refine Ex.block ?_|refine eT ?_|refine eF ?_|simp only [reduceCtorEq, AEx.ex.injEq, Nat.reduceEqDiff, if_true, if_false]))
  (apply ExO.stG; (case hk => rfl); (case hv => (simp [vA, fRes_eq, t4]; first|done|exact ⟨⟨rfl,rfl⟩,rfl⟩|exact ⟨rfl,rfl⟩|exact rfl)); (try simp only [sA]))
  (repeat (first|((first|refine ExO.nil ?_|refine Ex.skip ?_|refine Ex.ret ?_|refine Ex.exit ?_); try dsimp only)|((first|(refine xI ?_; intro _ _)|refine xL ?_|(refine xB ?_; intro _ _)|refine xG ?_|refine xS ?_|refine xM ?_|(refine xC ?_; intro _ _)|refine xW ?_); try simp only [sA])|refine Ex.seq ?_|refine Ex.reg ?_|refine Ex.block ?_|refine eT ?_|refine eF ?_|simp only [reduceCtorEq, AEx.ex.injEq, Nat.reduceEqDiff, if_true, if_false]))
  (apply ExO.stG; (case hk => rfl); (case hv => (simp [vA, fRes_eq, t1]; first|done|exact ⟨⟨rfl,rfl⟩,rfl⟩|exact ⟨rfl,rfl⟩|exact rfl)); (try simp only [sA]))
  (repeat (first|((first|refine ExO.nil ?_|refine Ex.skip ?_|refine Ex.ret ?_|refine Ex.exit ?_); try dsimp only)|((first|(refine xI ?_; intro _ _)|refine xL ?_|(refine xB ?_; intro _ _)|refine xG ?_|refine xS ?_|refine xM ?_|(refine xC ?_; intro _ _)|refine xW ?_); try simp only [sA])|refine Ex.seq ?_|refine Ex.reg ?_|refine Ex.block ?_|refine eT ?_|refine eF ?_|simp only [reduceCtorEq, AEx.ex.injEq, Nat.reduceEqDiff, if_true, if_false]))
  (apply ExO.stG; (case hk => rfl); (case hv => (simp [vA, fRes_eq, t3]; first|done|exact ⟨⟨rfl,rfl⟩,rfl⟩|exact ⟨rfl,rfl⟩|exact rfl)); (try simp only [sA]))
  (repeat (first|((first|refine ExO.nil ?_|refine Ex.skip ?_|refine Ex.ret ?_|refine Ex.exit ?_); try dsimp only)|((first|(refine xI ?_; intro _ _)|refine xL ?_|(refine xB ?_; intro _ _)|refine xG ?_|refine xS ?_|refine xM ?_|(refine xC ?_; intro _ _)|refine xW ?_); try simp only [sA])|refine Ex.seq ?_|refine Ex.reg ?_|refine Ex.block ?_|refine eT ?_|refine eF ?_|simp only [reduceCtorEq, AEx.ex.injEq, Nat.reduceEqDiff, if_true, if_false]))
  (apply ExO.stG; (case hk => rfl); (case hv => (simp [vA, fRes_eq, t0]; first|done|exact ⟨⟨rfl,rfl⟩,rfl⟩|exact ⟨rfl,rfl⟩|exact rfl)); (try simp only [sA]))
  (repeat (first|((first|refine ExO.nil ?_|refine Ex.skip ?_|refine Ex.ret ?_|refine Ex.exit ?_); try dsimp only)|((first|(refine xI ?_; intro _ _)|refine xL ?_|(refine xB ?_; intro _ _)|refine xG ?_|refine xS ?_|refine xM ?_|(refine xC ?_; intro _ _)|refine xW ?_); try simp only [sA])|refine Ex.seq ?_|refine Ex.reg ?_|refine Ex.block ?_|refine eT ?_|refine eF ?_|simp only [reduceCtorEq, AEx.ex.injEq, Nat.reduceEqDiff, if_true, if_false]))
  (apply ExO.stG; (case hk => rfl); (case hv => (simp [vA, fRes_eq, t3]; first|done|exact ⟨⟨rfl,rfl⟩,rfl⟩|exact ⟨rfl,rfl⟩|exact rfl)); (try simp only [sA]))
  (repeat (first|((first|refine ExO.nil ?_|refine Ex.skip ?_|refine Ex.ret ?_|refine Ex.exit ?_); try dsimp only)|((first|(refine xI ?_; intro _ _)|refine xL ?_|(refine xB ?_; intro _ _)|refine xG ?_|refine xS ?_|refine xM ?_|(refine xC ?_; intro _ _)|refine xW ?_); try simp only [sA])|refine Ex.seq ?_|refine Ex.reg ?_|refine Ex.block ?_|refine eT ?_|refine eF ?_|simp only [reduceCtorEq, AEx.ex.injEq, Nat.reduceEqDiff, if_true, if_false]))
  rename_i x1 g1 x2 g2 x3 g3 x4 g4 x5 g5 x6 g6 p1 u1 p2 u2 p3 u3 p4 u4 p5 u5 c3 d3
  rw [i64_in (by omega) (by omega)] at g1
  rw [i64_in (by omega) (by omega)] at g2
  rw [i64_in (by omega) (by omega)] at g3
  rw [i64_in (by omega) (by omega)] at g4
  have hx5 : x5 = if rear < len - rear then len - rear else rear := by rw [g5, g4]
  have hb5 : 0 ≤ x5 ∧ x5 ≤ 1200 := by rw [hx5]; split <;> omega
  rw [i64_in (by omega) (by omega)] at g6
  have hfar : x6 = far2 len rear := by rw [g6, hx5]; rfl
  have s1 := sq_in (x := x3) (by omega) (by omega)
  have s2 := sq_in (x := x6) (by omega) (by omega)
  have s3 := m4_in h2 h3
  rw [i64_in (by omega) (by omega)] at u1
  rw [i64_in (by omega) (by omega)] at u2
  rw [i64_in (by omega) (by omega)] at u3
  rw [i64_in (by omega) (by omega)] at u4
  have hp5 : p4 * b = 4 * b * b := by rw [u4]
  rw [hp5, i64_in (by omega) (by omega)] at u5
  simp [evRes, evRes1, one, AV.names, takeCells]
  have e : x3 = 2 * (turn + W) + wid := by omega
  rw [d3, u3, u1, u2, u5, hfar, e]
  simp [bendB, hwd]

theorem passes_m (len wid front rear turn kilos mid high a b : Int) (L : AV) (z : List Int) (hz : z.length = 42) (hF : FOk ⟨len, wid, front, rear, turn, kilos, mid, high⟩) (hs : L.scalar = true) (hc : cleanL [.int .i64 len, .int .i64 wid, .int .i64 front, .int .i64 rear, .int .i64 turn, .int .i64 kilos, .int .i64 mid, .int .i64 high, L] = true) (hp : L.plain1 = L) (hr : List.mapM (re 2 []) [.int .i64 len, .int .i64 wid, .int .i64 front, .int .i64 rear, .int .i64 turn, .int .i64 kilos, .int .i64 mid, .int .i64 high, L] = some [.int .i64 len, .int .i64 wid, .int .i64 front, .int .i64 rear, .int .i64 turn, .int .i64 kilos, .int .i64 mid, .int .i64 high, L]) (h0 : 0 ≤ a) (h1 : a ≤ 20000) (h2 : 0 ≤ b) (h3 : b ≤ 20000) : Does Try.prog 86 [.agg (trC [.int .i64 len, .int .i64 wid, .int .i64 front, .int .i64 rear, .int .i64 turn, .int .i64 kilos, .int .i64 mid, .int .i64 high, L] z), .agg [.int .i64 1, .int .i64 a, .int .i64 b]] [] fun v c' => v = .bool (bendB len wid rear turn a b) ∧ c' = [] := by
  refine Does.of comp86 ?_
  unfold F86
  have hcT := trC_clean [.int .i64 len, .int .i64 wid, .int .i64 front, .int .i64 rear, .int .i64 turn, .int .i64 kilos, .int .i64 mid, .int .i64 high, L] z hc
  have hpb := passesBend_m len wid front rear turn kilos mid high a b L z hF hs hc hr h0 h1 h2 h3
  have hsc := trC_scal [.int .i64 len, .int .i64 wid, .int .i64 front, .int .i64 rear, .int .i64 turn, .int .i64 kilos, .int .i64 mid, .int .i64 high, L] z (by simp [AV.scalar]; exact hs)
  have htk : (trC [.int .i64 len, .int .i64 wid, .int .i64 front, .int .i64 rear, .int .i64 turn, .int .i64 kilos, .int .i64 mid, .int .i64 high, L] z).take 51 = trC [.int .i64 len, .int .i64 wid, .int .i64 front, .int .i64 rear, .int .i64 turn, .int .i64 kilos, .int .i64 mid, .int .i64 high, L] z := List.take_of_length_le (by simp [trC, nums42_len, hz])
  have hln : (trC [.int .i64 len, .int .i64 wid, .int .i64 front, .int .i64 rear, .int .i64 turn, .int .i64 kilos, .int .i64 mid, .int .i64 high, L] z).length = 51 := by simp [trC, nums42_len, hz]
  have hpl : (trC [.int .i64 len, .int .i64 wid, .int .i64 front, .int .i64 rear, .int .i64 turn, .int .i64 kilos, .int .i64 mid, .int .i64 high, L] z).map AV.plain1 = trC [.int .i64 len, .int .i64 wid, .int .i64 front, .int .i64 rear, .int .i64 turn, .int .i64 kilos, .int .i64 mid, .int .i64 high, L] z := by
    unfold trC nums42
    rw [List.map_append, List.map_map]
    congr 1
    simp only [List.map_cons, List.map_nil, hp]
    rfl
  generalize trC [.int .i64 len, .int .i64 wid, .int .i64 front, .int .i64 rear, .int .i64 turn, .int .i64 kilos, .int .i64 mid, .int .i64 high, L] z = T at hcT hpb hsc htk hln hpl ⊢
  simp only [start, List.length_cons, List.length_nil, List.replicate, List.cons_append, List.nil_append, Nat.reduceAdd, Nat.reduceSub]
  (repeat (first|((first|refine ExO.nil ?_|refine Ex.skip ?_|refine Ex.ret ?_|refine Ex.exit ?_); try dsimp only)|((first|(refine xI ?_; intro _ _)|refine xL ?_|(refine xB ?_; intro _ _)|refine xG ?_|refine xS ?_|refine xM ?_|(refine xC ?_; intro _ _)|refine xW ?_); try simp only [sA])|refine Ex.seq ?_|refine Ex.reg ?_|refine Ex.block ?_|refine eT ?_|refine eF ?_|simp only [reduceCtorEq, AEx.ex.injEq, Nat.reduceEqDiff, if_true, if_false]))
  (apply ExO.stG; (case hk => rfl); (case hv => (simp [vA, fRes_eq, htk, hln]; first|done|exact ⟨⟨rfl,rfl⟩,rfl⟩|exact ⟨rfl,rfl⟩|exact rfl)); (try simp only [sA]))
  (repeat (first|((first|refine ExO.nil ?_|refine Ex.skip ?_|refine Ex.ret ?_|refine Ex.exit ?_); try dsimp only)|((first|(refine xI ?_; intro _ _)|refine xL ?_|(refine xB ?_; intro _ _)|refine xG ?_|refine xS ?_|refine xM ?_|(refine xC ?_; intro _ _)|refine xW ?_); try simp only [sA])|refine Ex.seq ?_|refine Ex.reg ?_|refine Ex.block ?_|refine eT ?_|refine eF ?_|simp only [reduceCtorEq, AEx.ex.injEq, Nat.reduceEqDiff, if_true, if_false]))
  refine ExO.call (f := 95) (xs := [.agg T, .int .i64 a, .int .i64 b]) (ys := [.agg T, .int .i64 a, .int .i64 b]) (bs := []) (cells := []) (by rfl) (by rfl) (by rfl) (by simp [ren, ren1, AV.plain, AV.plain1, AV.clean, hpl, hcT]) (by rfl) (by rfl) hpb ?_
  rintro v c' ⟨rfl, rfl⟩
  refine ⟨_, rfl, rfl, ?_⟩
  simp only [List.map_cons, List.map_nil, putA, List.set_cons_zero, List.set_cons_succ, AV.plain, AV.plain1, setAll, List.length_cons, List.length_nil, List.drop_succ_cons, List.drop_zero, List.drop_nil, List.append_nil, Nat.reduceAdd]
  (repeat (first|((first|refine ExO.nil ?_|refine Ex.skip ?_|refine Ex.ret ?_|refine Ex.exit ?_); try dsimp only)|((first|(refine xI ?_; intro _ _)|refine xL ?_|(refine xB ?_; intro _ _)|refine xG ?_|refine xS ?_|refine xM ?_|(refine xC ?_; intro _ _)|refine xW ?_); try simp only [sA])|refine Ex.seq ?_|refine Ex.reg ?_|refine Ex.block ?_|refine eT ?_|refine eF ?_|simp only [reduceCtorEq, AEx.ex.injEq, Nat.reduceEqDiff, if_true, if_false]))
  simp [evRes, evRes1, one, AV.names, takeCells]
end Go.Proofs.Ytoefpcpijolofaa
end
section
namespace Go.Proofs.Ytoefpcpijolofaa
open Go.RowKit
set_option linter.unusedVariables false
set_option linter.unusedSimpArgs false
set_option maxRecDepth 10000

def wts (kilos mid : Int) (g : Ld → Int) (ls : List Ld) : List (Int × Int) := (kilos, mid) :: ls.map fun l => (g l, l.pt)
theorem wts_len (kilos mid : Int) (g : Ld → Int) (ls : List Ld) : (wts kilos mid g ls).length = ls.length + 1 := by simp [wts]
theorem wts_take (kilos mid : Int) (g : Ld → Int) (ls : List Ld) (i : Nat) (l : Ld) (h : ls[i]? = some l) : (wts kilos mid g (ls.take (i + 1))).map Wt.av = (wts kilos mid g (ls.take i)).map Wt.av ++ [.agg [.int .i64 (g l), .int .i64 l.pt]] := by
  simp [wts, List.take_add_one, h, Wt.av]
theorem trC_get (F : List AV) (z : List Int) (i : Nat) (v : Int) (hF : F.length = 9) (h : z[i]? = some v) : (trC F z)[9 + i]? = some (.int .i64 v) := by
  unfold trC nums42
  rw [List.getElem?_append_right (by omega), hF, Nat.add_sub_cancel_left]
  simp [h]

set_option maxHeartbeats 4000000 in
theorem weights_m (len wid front rear turn kilos mid high : Int) (g : Ld → Int) (z : List Int) (ls : List Ld) (hlen : ls.length ≤ 20) (hz : z.length = 42) (hg : ∀ (j : Nat) l, ls[j]? = some l → z[j]? = some (g l)) :
    Does Try.prog 82 [.agg (trC [.int .i64 len, .int .i64 wid, .int .i64 front, .int .i64 rear, .int .i64 turn, .int .i64 kilos, .int .i64 mid, .int .i64 high, .sl (ls.map Ld.av) none] z)] [] fun v c' => ∃ t, v = .sl ((wts kilos mid g ls).map Wt.av) t ∧ c' = [] := by
  refine Does.of comp82 ?_
  unfold F82
  have hcT := trC_clean [.int .i64 len, .int .i64 wid, .int .i64 front, .int .i64 rear, .int .i64 turn, .int .i64 kilos, .int .i64 mid, .int .i64 high, .sl (ls.map Ld.av) none] z (by simp [AV.clean, clean_lds, cleanL])
  have hre := trC_re 1 [0] [.int .i64 len, .int .i64 wid, .int .i64 front, .int .i64 rear, .int .i64 turn, .int .i64 kilos, .int .i64 mid, .int .i64 high, .sl (ls.map Ld.av) none] z (by simp [re, re1, AV.clean, clean_lds, cleanL])
  have hsc := trC_scal [.int .i64 len, .int .i64 wid, .int .i64 front, .int .i64 rear, .int .i64 turn, .int .i64 kilos, .int .i64 mid, .int .i64 high, .sl (ls.map Ld.av) none] z (by simp [AV.scalar])
  have hln : (trC [.int .i64 len, .int .i64 wid, .int .i64 front, .int .i64 rear, .int .i64 turn, .int .i64 kilos, .int .i64 mid, .int .i64 high, .sl (ls.map Ld.av) none] z).length = 51 := by simp [trC, nums42_len, hz]
  have h5 : (trC [.int .i64 len, .int .i64 wid, .int .i64 front, .int .i64 rear, .int .i64 turn, .int .i64 kilos, .int .i64 mid, .int .i64 high, .sl (ls.map Ld.av) none] z)[5]? = some (.int .i64 kilos) := rfl
  have h6 : (trC [.int .i64 len, .int .i64 wid, .int .i64 front, .int .i64 rear, .int .i64 turn, .int .i64 kilos, .int .i64 mid, .int .i64 high, .sl (ls.map Ld.av) none] z)[6]? = some (.int .i64 mid) := rfl
  have h8 : (trC [.int .i64 len, .int .i64 wid, .int .i64 front, .int .i64 rear, .int .i64 turn, .int .i64 kilos, .int .i64 mid, .int .i64 high, .sl (ls.map Ld.av) none] z)[8]? = some (.sl (ls.map Ld.av) none) := rfl
  have hzk : ∀ (j : Nat) v, z[j]? = some v → (trC [.int .i64 len, .int .i64 wid, .int .i64 front, .int .i64 rear, .int .i64 turn, .int .i64 kilos, .int .i64 mid, .int .i64 high, .sl (ls.map Ld.av) none] z)[9 + j]? = some (.int .i64 v) := fun j v h => trC_get _ z j v rfl h
  generalize trC [.int .i64 len, .int .i64 wid, .int .i64 front, .int .i64 rear, .int .i64 turn, .int .i64 kilos, .int .i64 mid, .int .i64 high, .sl (ls.map Ld.av) none] z = T at hcT hre hsc hln h5 h6 h8 hzk ⊢
  simp only [start, List.length_cons, List.length_nil, List.replicate, List.cons_append, List.nil_append, Nat.reduceAdd, Nat.reduceSub]
  (repeat (first|((first|refine ExO.nil ?_|refine Ex.skip ?_|refine Ex.ret ?_|refine Ex.exit ?_); try dsimp only)|((first|(refine xI ?_; intro _ _)|refine xL ?_|(refine xB ?_; intro _ _)|refine xG ?_|refine xS ?_|refine xM ?_|(refine xC ?_; intro _ _)|refine xW ?_); try simp only [sA])|refine Ex.seq ?_|refine Ex.reg ?_|refine Ex.block ?_|refine eT ?_|refine eF ?_|simp only [reduceCtorEq, AEx.ex.injEq, Nat.reduceEqDiff, if_true, if_false]))
  (apply ExO.stG; (case hk => rfl); (case hv => (simp [vA, fRes_eq, h5]; first|done|exact ⟨⟨rfl,rfl⟩,rfl⟩|exact ⟨rfl,rfl⟩|exact rfl)); (try simp only [sA]))
  (repeat (first|((first|refine ExO.nil ?_|refine Ex.skip ?_|refine Ex.ret ?_|refine Ex.exit ?_); try dsimp only)|((first|(refine xI ?_; intro _ _)|refine xL ?_|(refine xB ?_; intro _ _)|refine xG ?_|refine xS ?_|refine xM ?_|(refine xC ?_; intro _ _)|refine xW ?_); try simp only [sA])|refine Ex.seq ?_|refine Ex.reg ?_|refine Ex.block ?_|refine eT ?_|refine eF ?_|simp only [reduceCtorEq, AEx.ex.injEq, Nat.reduceEqDiff, if_true, if_false]))
  (apply ExO.stG; (case hk => rfl); (case hv => (simp [vA, fRes_eq, h6]; first|done|exact ⟨⟨rfl,rfl⟩,rfl⟩|exact ⟨rfl,rfl⟩|exact rfl)); (try simp only [sA]))
  (repeat (first|((first|refine ExO.nil ?_|refine Ex.skip ?_|refine Ex.ret ?_|refine Ex.exit ?_); try dsimp only)|((first|(refine xI ?_; intro _ _)|refine xL ?_|(refine xB ?_; intro _ _)|refine xG ?_|refine xS ?_|refine xM ?_|(refine xC ?_; intro _ _)|refine xW ?_); try simp only [sA])|refine Ex.seq ?_|refine Ex.reg ?_|refine Ex.block ?_|refine eT ?_|refine eF ?_|simp only [reduceCtorEq, AEx.ex.injEq, Nat.reduceEqDiff, if_true, if_false]))
  (apply ExO.stG; (case hk => rfl); (case hv => (simp [vA, fRes_eq, h8]; first|done|exact ⟨⟨rfl,rfl⟩,rfl⟩|exact ⟨rfl,rfl⟩|exact rfl)); (try simp only [sA]))
  (repeat (first|((first|refine ExO.nil ?_|refine Ex.skip ?_|refine Ex.ret ?_|refine Ex.exit ?_); try dsimp only)|((first|(refine xI ?_; intro _ _)|refine xL ?_|(refine xB ?_; intro _ _)|refine xG ?_|refine xS ?_|refine xM ?_|(refine xC ?_; intro _ _)|refine xW ?_); try simp only [sA])|refine Ex.seq ?_|refine Ex.reg ?_|refine Ex.block ?_|refine eT ?_|refine eF ?_|simp only [reduceCtorEq, AEx.ex.injEq, Nat.reduceEqDiff, if_true, if_false]))
  refine Ex.loopF (fun k a S => ∃ i, i ≤ ls.length ∧ k = ls.length - i ∧ a = [.junk, .ptr 0 0, .junk, .sl ((wts kilos mid g (ls.take i)).map Wt.av) (some 0), .junk, .junk, .junk, .junk, .junk, .junk, .junk, .junk, .junk, .junk, .junk, .junk, .sl (ls.map Ld.av) none, .int .i64 ls.length, .int .i64 (i : Nat), .junk, .junk, .junk, .junk, .junk, .junk, .junk, .junk, .junk, .junk, .junk, .junk, .junk, .junk, .junk, .junk] ∧ S = ⟨[T], [(i + 1, 2)]⟩) ls.length ?_ ?_
  · refine ⟨_, _, forgets 1 [0] ([false, true, false, true, false, false, false, false, false, false, false, false, false, false, false, false, true, true, true, false, false, false, false, false, false, false, false, false, false, false, false, false, false, false, false]) (by decide) (by simp) (bx2 := [T]) (by simp only [List.take_succ_cons, List.take_zero, List.mapM_cons, List.mapM_nil, hre]; rfl) (lv2 := [(0 + 1, 2)]) (by simp) (by decide), 0, by omega, by omega, ?_, by rfl⟩
    simp [keepS, re, re1, AV.clean, clean_lds, cleanL, wts, Wt.av, List.idxOf?]
  · rintro k a S ⟨i, hi, rfl, rfl, rfl⟩
    (repeat (first|((first|refine ExO.nil ?_|refine Ex.skip ?_|refine Ex.ret ?_|refine Ex.exit ?_); try dsimp only)|((first|(refine xI ?_; intro _ _)|refine xL ?_|(refine xB ?_; intro _ _)|refine xG ?_|refine xS ?_|refine xM ?_|(refine xC ?_; intro _ _)|refine xW ?_); try simp only [sA])|refine Ex.seq ?_|refine Ex.reg ?_|refine Ex.block ?_|refine eT ?_|refine eF ?_|simp only [reduceCtorEq, AEx.ex.injEq, Nat.reduceEqDiff, if_true, if_false]))
    rename_i c hc
    cases c
    · (refine Ex.cond (b := false) (by first | rfl | simp [evd]) ?_; simp only [Bool.false_eq_true, if_false])
      (repeat (first|((first|refine ExO.nil ?_|refine Ex.skip ?_|refine Ex.ret ?_|refine Ex.exit ?_); try dsimp only)|((first|(refine xI ?_; intro _ _)|refine xL ?_|(refine xB ?_; intro _ _)|refine xG ?_|refine xS ?_|refine xM ?_|(refine xC ?_; intro _ _)|refine xW ?_); try simp only [sA])|refine Ex.seq ?_|refine Ex.reg ?_|refine Ex.block ?_|refine eT ?_|refine eF ?_|simp only [reduceCtorEq, AEx.ex.injEq, Nat.reduceEqDiff, if_true, if_false]))
      simp [evRes, evRes1, one, AV.names, takeCells]
      have : i = ls.length := by have := hc.symm; simp at this; omega
      subst this
      simp
    · have hil : i < ls.length := by have := hc.symm; simpa using this
      have e1 : ls[i]? = some ls[i] := List.getElem?_eq_getElem hil
      have ht := wts_take kilos mid g ls i _ e1
      have hE : ((wts kilos mid g (ls.take i)).map Wt.av).length = i + 1 := by rw [List.length_map, wts_len]; simp; omega
      have hA : ∀ x ∈ (wts kilos mid g (ls.take i)).map Wt.av, x.cells.length = 2 := by
        intro x hx
        obtain ⟨l, _, rfl⟩ := List.mem_map.1 hx
        rfl
      have hk := hzk i _ (hg i _ e1)
      generalize ls[i] = l at e1 ht hk
      obtain ⟨pt, klo, khi, tlo, thi, kind, watts⟩ := l
      generalize g ⟨pt, klo, khi, tlo, thi, kind, watts⟩ = gk at ht hk
      simp only at ht hk
      have hwc := clean_wts (wts kilos mid g (ls.take (i + 1)))
      generalize (wts kilos mid g (ls.take i)).map Wt.av = W at ht hE hA ⊢
      have l1 : (i : Int) < (ls.length : Int) := by omega
      have l2 : (i : Int) < 21 := by omega
      have l3 : i < 21 := by omega
      have p1 : 9 + i + 1 ≤ 51 := by omega
      (refine Ex.cond (b := true) (by first | rfl | simp [evd]) ?_; simp only [if_true])
      (repeat (first|((first|refine ExO.nil ?_|refine Ex.skip ?_|refine Ex.ret ?_|refine Ex.exit ?_); try dsimp only)|((first|(refine xI ?_; intro _ _)|refine xL ?_|(refine xB ?_; intro _ _)|refine xG ?_|refine xS ?_|refine xM ?_|(refine xC ?_; intro _ _)|refine xW ?_); try simp only [sA])|refine Ex.seq ?_|refine Ex.reg ?_|refine Ex.block ?_|refine eT ?_|refine eF ?_|simp only [reduceCtorEq, AEx.ex.injEq, Nat.reduceEqDiff, if_true, if_false]))
      (apply ExO.stG; (case hk => rfl); (case hv => (simp [vA, fRes_eq, e1, l1, Ld.av_cells]; first|done|exact ⟨⟨rfl,rfl⟩,rfl⟩|exact ⟨rfl,rfl⟩|exact rfl)); (try simp only [sA]))
      (repeat (first|((first|refine ExO.nil ?_|refine Ex.skip ?_|refine Ex.ret ?_|refine Ex.exit ?_); try dsimp only)|((first|(refine xI ?_; intro _ _)|refine xL ?_|(refine xB ?_; intro _ _)|refine xG ?_|refine xS ?_|refine xM ?_|(refine xC ?_; intro _ _)|refine xW ?_); try simp only [sA])|refine Ex.seq ?_|refine Ex.reg ?_|refine Ex.block ?_|refine eT ?_|refine eF ?_|simp only [reduceCtorEq, AEx.ex.injEq, Nat.reduceEqDiff, if_true, if_false]))
      apply Ex.drawE (noClr_ok _) [] [(1, 2)] []
      case hD =>
        simp only [List.take_succ_cons, List.take_zero]
        (repeat (first | exact DrO.nil rfl | (apply DrO.eff; (case hw => rfl); (case hd => rfl); (case hl => rfl); (case hs => rfl); (case hs' => rfl); (case hv => (simp [vA, fRes_eq, hk, l2, l3]; first|done|exact ⟨⟨rfl,rfl⟩,rfl⟩|exact ⟨rfl,rfl⟩|exact rfl)); (try simp only [sA])) | (apply DrO.pure; (case hw => rfl); (case hd => rfl); (case hv => (simp only [List.mem_cons, List.not_mem_nil, or_false, forall_eq_or_imp, forall_eq]; simp [vA, fRes_eq, hk, l2, l3]; first | done | exact ⟨⟨rfl, rfl⟩, rfl⟩ | exact ⟨rfl, rfl⟩ | exact rfl | (refine ⟨rfl, ?_⟩; first | done | rfl | simp))); (try simp only [sA]))))
        apply DrO.pure (.agg [.int .i64 gk, .int .i64 pt]) rfl rfl (fun st _ => rfl)
        simp only [putA, List.set_cons_zero, List.set_cons_succ]
        apply DrO.row 1 2 [.agg [.int .i64 gk, .int .i64 pt]] rfl rfl (fun st _ => rfl) (by simp) (by simp) (by simp)
        simp only [putA, List.set_cons_zero, List.set_cons_succ]
        exact DrO.nil rfl
      simp only [List.drop_succ_cons, List.drop_zero, List.getLastD_cons, List.getLastD_nil, List.append_nil, List.cons_append, List.nil_append]
      refine ExO.stG (.sl (W ++ [.agg [.int .i64 gk, .int .i64 pt]]) (some 0)) ⟨[T, [.int .i64 pt, .int .i64 klo, .int .i64 khi, .int .i64 tlo, .int .i64 thi, .int .i64 kind, .int .i64 watts]], [(i + 1 + 1, 2), (1, 2)]⟩ rfl ?_ ?_
      · have hb : i + 1 + 1 ≤ 65536 := by omega
        simp [evOp, evf_eq, fRes_eq, aop, evd, finish, newsOf, hE, AV.plain, AV.plain1, AV.okCells, AV.scalar, hb]
        rw [if_pos ⟨rfl, fun x hx => by
          rcases (show x = .int .i64 gk ∨ x = .int .i64 pt by simpa [AV.cells] using hx) with rfl | rfl <;> rfl⟩, if_pos hA]
        simp [hE]
      · simp only [putA, List.set_cons_zero, List.set_cons_succ]
        (repeat (first|((first|refine ExO.nil ?_|refine Ex.skip ?_|refine Ex.ret ?_|refine Ex.exit ?_); try dsimp only)|((first|(refine xI ?_; intro _ _)|refine xL ?_|(refine xB ?_; intro _ _)|refine xG ?_|refine xS ?_|refine xM ?_|(refine xC ?_; intro _ _)|refine xW ?_); try simp only [sA])|refine Ex.seq ?_|refine Ex.reg ?_|refine Ex.block ?_|refine eT ?_|refine eF ?_|simp only [reduceCtorEq, AEx.ex.injEq, Nat.reduceEqDiff, if_true, if_false]))
        rename_i m hm
        rw [i64_in (by omega) (by omega)] at hm
        have hm2 : m = ((i + 1 : Nat) : Int) := by omega
        subst hm2
        rw [← ht]
        rw [← ht] at *
        refine ⟨_, _, forgets 1 [0] ([false, true, false, true, false, false, false, false, false, false, false, false, false, false, false, false, true, true, true, false, false, false, false, false, false, false, false, false, false, false, false, false, false, false, false]) (by decide) (by simp) (bx2 := [T]) (by simp only [List.take_succ_cons, List.take_zero, List.mapM_cons, List.mapM_nil, hre]; rfl) (lv2 := [(i + 1 + 1, 2)]) (by simp) (by decide), ls.length - (i + 1), by omega, i + 1, by omega, rfl, ?_, by rfl⟩
        simp [keepS, re, re1, AV.clean, clean_lds, cleanL, List.idxOf?, hwc]

theorem Does.flat {P : Program} {f : FuncId} {xs : List AV} {cells c0 : List (List AV)} {els : List AV} (h : Does P f xs cells fun v c' => ∃ t, v = .sl els t ∧ c' = c0) : Does P f xs cells fun v c' => v = .sl els none ∧ c' = c0 :=
  ⟨h.enter, fun G w us hI hv => (h.calls G w us hI hv).mono fun e w' ⟨u, v, c', G', bx, lv, ⟨t, hv', hc'⟩, h1, h2, h3⟩ => by
    subst hv'; subst hc'
    exact ⟨u, .sl els none, c', G', bx, lv, ⟨rfl, rfl⟩, h1, by simpa [AV.plain1] using h2.plain1, h3⟩⟩
end Go.Proofs.Ytoefpcpijolofaa
end
section
namespace Go.Proofs.Ytoefpcpijolofaa
open Go.RowKit
set_option linter.unusedVariables false
set_option linter.unusedSimpArgs false
set_option maxRecDepth 10000
set_option maxHeartbeats 4000000

def verd (p q : Bool) : Int := if p then 1 else if q then 3 else 2
theorem verdict_m (p q : Bool) : Does Try.prog 60 [.bool p, .bool q] [] fun v c' => v = .int .i64 (verd p q) ∧ c' = [] := by
  refine Does.of comp60 ?_
  unfold F60
  simp only [start, List.length_cons, List.length_nil, List.replicate, List.cons_append, List.nil_append, Nat.reduceAdd, Nat.reduceSub]
  cases p
  · cases q
    · (repeat (first|((first|refine ExO.nil ?_|refine Ex.skip ?_|refine Ex.ret ?_|refine Ex.exit ?_); try dsimp only)|((first|(refine xI ?_; intro _ _)|refine xL ?_|(refine xB ?_; intro _ _)|refine xG ?_|refine xS ?_|refine xM ?_|(refine xC ?_; intro _ _)|refine xW ?_); try simp only [sA])|refine Ex.seq ?_|refine Ex.reg ?_|refine Ex.block ?_|refine eT ?_|refine eF ?_|simp only [reduceCtorEq, AEx.ex.injEq, Nat.reduceEqDiff, if_true, if_false]))
      simp [evRes, evRes1, one, AV.names, takeCells]
      rfl
    · (repeat (first|((first|refine ExO.nil ?_|refine Ex.skip ?_|refine Ex.ret ?_|refine Ex.exit ?_); try dsimp only)|((first|(refine xI ?_; intro _ _)|refine xL ?_|(refine xB ?_; intro _ _)|refine xG ?_|refine xS ?_|refine xM ?_|(refine xC ?_; intro _ _)|refine xW ?_); try simp only [sA])|refine Ex.seq ?_|refine Ex.reg ?_|refine Ex.block ?_|refine eT ?_|refine eF ?_|simp only [reduceCtorEq, AEx.ex.injEq, Nat.reduceEqDiff, if_true, if_false]))
      simp [evRes, evRes1, one, AV.names, takeCells]
      rfl
  · (repeat (first|((first|refine ExO.nil ?_|refine Ex.skip ?_|refine Ex.ret ?_|refine Ex.exit ?_); try dsimp only)|((first|(refine xI ?_; intro _ _)|refine xL ?_|(refine xB ?_; intro _ _)|refine xG ?_|refine xS ?_|refine xM ?_|(refine xC ?_; intro _ _)|refine xW ?_); try simp only [sA])|refine Ex.seq ?_|refine Ex.reg ?_|refine Ex.block ?_|refine eT ?_|refine eF ?_|simp only [reduceCtorEq, AEx.ex.injEq, Nat.reduceEqDiff, if_true, if_false]))
    simp [evRes, evRes1, one, AV.names, takeCells]
    rfl

theorem Does.det {P : Program} {f : FuncId} {xs : List AV} {cells c0 : List (List AV)} {v0 : AV} (hl : cells.length ≤ c0.length) (h : Does P f xs cells fun v c' => v = v0 ∧ c' = c0) : Contract P f xs cells v0 c0 :=
  ⟨h.enter, hl, fun G w us hI hv => (h.calls G w us hI hv).mono fun e w' ⟨u, v, c', G', bx, lv, ⟨hv', hc'⟩, h1, h2, _, h3, h4⟩ => by subst hv'; subst hc'; exact ⟨u, G', bx, lv, h1, h2, h3, h4⟩⟩
def d86 (xs : List AV) : Option AV := match xs with
  | [.agg (.int _ len :: .int _ wid :: _ :: .int _ rear :: .int _ turn :: _), .agg [_, .int _ a, .int _ b]] => some (.bool (bendB len wid rear turn a b))
  | _ => none
def d60 (xs : List AV) : Option AV := match xs with
  | [.bool p, .bool q] => some (.int .i64 (verd p q))
  | _ => none
def detV (f : FuncId) (xs : List AV) : Option AV := bif Nat.beq f 86 then d86 xs else bif Nat.beq f 60 then d60 xs else none
def T2 : FnPost := fun f xs _ v c' => detV f xs = some v ∧ c' = []

theorem ends_hi (F : List AV) (z1 z2 : List Int) (hF : F.length = 9) (h1 : z1.length = 42) (h2 : z2.length = 42) : ((endsC F z1 z2).drop 51).take 51 = trC F z2 := by
  unfold endsC
  rw [List.drop_append_of_le_length (by simp [hF, h1, nums42_len]), List.drop_of_length_le (by simp [hF, h1, nums42_len]), List.nil_append]
  exact List.take_of_length_le (by simp [hF, h2, nums42_len])
theorem ends_lo (F : List AV) (z1 z2 : List Int) (hF : F.length = 9) (h1 : z1.length = 42) : (endsC F z1 z2).take 51 = trC F z1 := by
  unfold endsC
  rw [List.take_append_of_le_length (by simp [hF, h1, nums42_len])]
  exact List.take_of_length_le (by simp [hF, h1, nums42_len])

end Go.Proofs.Ytoefpcpijolofaa
end
section
namespace Go.Proofs.Ytoefpcpijolofaa
open Go.RowKit
set_option linter.unusedVariables false
set_option linter.unusedSimpArgs false
set_option maxRecDepth 10000

def only (l : List (FuncId × List AV × AV)) : FnPost := fun f xs _ v c' => (f, xs, v) ∈ l ∧ c' = []
theorem only_ok (l : List (FuncId × List AV × AV)) : ClrOk Try.prog (clrOf (orcOf Try.prog (only l))) := clr_ok (orcOf_ok _ _)
theorem call_only {l : List (FuncId × List AV × AV)} {f : FuncId} {xs ys : List AV} {v0 : AV} (st : St) (hf : fpOf xs = []) (hr : xs.mapM (ren []) = some ys) (hc : Contract Try.prog f ys [] v0 []) (hm : (f, ys, v0) ∈ l) (hu : ∀ v, (f, ys, v) ∈ l → v = v0) (hb : ∀ n, back 0 0 n v0 = some v0) : callS (clrOf (orcOf Try.prog (only l))) f xs st = some (v0, st) := by
  have ho : orcOf Try.prog (only l) f ys [] = some (v0, []) := by
    obtain ⟨v, c', h1, h2, h3⟩ := @orcOf_meets Try.prog (only l) f ys [] ⟨v0, [], hc, hm, rfl⟩
    rw [h1, hu v h2, h3]
  rw [callS_clrOf]
  unfold evCall
  simp only [hf, hr, List.mapM_nil, Option.pure_def, List.all_nil, List.nodup_nil, decide_true, Bool.and_self, if_true, ho, List.length_nil, hb, List.drop_nil, setAll, List.append_nil]

set_option maxHeartbeats 4000000 in
theorem onRear_m (len wid front rear turn kilos mid high : Int) (g : Ld → Int) (z : List Int) (ls : List Ld) (hlen : ls.length ≤ 20) (hz : z.length = 42) (hg : ∀ (j : Nat) l, ls[j]? = some l → z[j]? = some (g l)) (hw : ∀ w ∈ wts kilos mid g ls, WOk w) (h0 : 0 ≤ front) (h1 : front ≤ 10000) :
    Does Try.prog 58 [.agg (trC [.int .i64 len, .int .i64 wid, .int .i64 front, .int .i64 rear, .int .i64 turn, .int .i64 kilos, .int .i64 mid, .int .i64 high, .sl (ls.map Ld.av) none] z)] [] fun v c' => v = .int .i64 (mom front (wts kilos mid g ls)) ∧ c' = [] := by
  refine Does.of comp58 ?_
  unfold F58
  have hW := Does.det (Nat.le_refl _) (weights_m len wid front rear turn kilos mid high g z ls hlen hz hg).flat
  have hM := moment_m front (wts kilos mid g ls) (by rw [wts_len]; omega) hw h0 h1
  have hcT := trC_clean [.int .i64 len, .int .i64 wid, .int .i64 front, .int .i64 rear, .int .i64 turn, .int .i64 kilos, .int .i64 mid, .int .i64 high, .sl (ls.map Ld.av) none] z (by simp [AV.clean, clean_lds, cleanL])
  have hsc := trC_scal [.int .i64 len, .int .i64 wid, .int .i64 front, .int .i64 rear, .int .i64 turn, .int .i64 kilos, .int .i64 mid, .int .i64 high, .sl (ls.map Ld.av) none] z (by simp [AV.scalar])
  have hln : (trC [.int .i64 len, .int .i64 wid, .int .i64 front, .int .i64 rear, .int .i64 turn, .int .i64 kilos, .int .i64 mid, .int .i64 high, .sl (ls.map Ld.av) none] z).length = 51 := by simp [trC, nums42_len, hz]
  have htk : (trC [.int .i64 len, .int .i64 wid, .int .i64 front, .int .i64 rear, .int .i64 turn, .int .i64 kilos, .int .i64 mid, .int .i64 high, .sl (ls.map Ld.av) none] z).take 51 = trC [.int .i64 len, .int .i64 wid, .int .i64 front, .int .i64 rear, .int .i64 turn, .int .i64 kilos, .int .i64 mid, .int .i64 high, .sl (ls.map Ld.av) none] z := List.take_of_length_le (by omega)
  have h2 : (trC [.int .i64 len, .int .i64 wid, .int .i64 front, .int .i64 rear, .int .i64 turn, .int .i64 kilos, .int .i64 mid, .int .i64 high, .sl (ls.map Ld.av) none] z)[2]? = some (.int .i64 front) := rfl
  have hpl : (trC [.int .i64 len, .int .i64 wid, .int .i64 front, .int .i64 rear, .int .i64 turn, .int .i64 kilos, .int .i64 mid, .int .i64 high, .sl (ls.map Ld.av) none] z).map AV.plain1 = trC [.int .i64 len, .int .i64 wid, .int .i64 front, .int .i64 rear, .int .i64 turn, .int .i64 kilos, .int .i64 mid, .int .i64 high, .sl (ls.map Ld.av) none] z := by
    unfold trC nums42
    rw [List.map_append, List.map_map]
    congr 1
  have hwc := clean_wts (wts kilos mid g ls)
  generalize trC [.int .i64 len, .int .i64 wid, .int .i64 front, .int .i64 rear, .int .i64 turn, .int .i64 kilos, .int .i64 mid, .int .i64 high, .sl (ls.map Ld.av) none] z = T at hcT hW hsc htk hln hpl h2 ⊢
  generalize hWS : (wts kilos mid g ls).map Wt.av = WS at hW hM hwc
  simp only [start, List.length_cons, List.length_nil, List.replicate, List.cons_append, List.nil_append, Nat.reduceAdd, Nat.reduceSub]
  (repeat (first|((first|refine ExO.nil ?_|refine Ex.skip ?_|refine Ex.ret ?_|refine Ex.exit ?_); try dsimp only)|((first|(refine xI ?_; intro _ _)|refine xL ?_|(refine xB ?_; intro _ _)|refine xG ?_|refine xS ?_|refine xM ?_|(refine xC ?_; intro _ _)|refine xW ?_); try simp only [sA])|refine Ex.seq ?_|refine Ex.reg ?_|refine Ex.block ?_|refine eT ?_|refine eF ?_|simp only [reduceCtorEq, AEx.ex.injEq, Nat.reduceEqDiff, if_true, if_false]))
  apply Ex.drawE (only_ok [(82, [.agg T], .sl WS none)]) [] [] []
  case hD =>
    simp only [List.take_succ_cons, List.take_zero]
    (apply DrO.pure; (case hw => rfl); (case hd => rfl); (case hv => (simp only [List.mem_cons, List.not_mem_nil, or_false, forall_eq_or_imp, forall_eq]; simp [vA, fRes_eq, h2]; first | done | exact ⟨⟨rfl, rfl⟩, rfl⟩ | exact ⟨rfl, rfl⟩ | exact rfl | (refine ⟨rfl, ?_⟩; first | done | rfl | simp))); (try simp only [sA]))
    (apply DrO.pure; (case hw => rfl); (case hd => rfl); (case hv => (simp only [List.mem_cons, List.not_mem_nil, or_false, forall_eq_or_imp, forall_eq]; simp [vA, fRes_eq, h2]; first | done | exact ⟨⟨rfl, rfl⟩, rfl⟩ | exact ⟨rfl, rfl⟩ | exact rfl | (refine ⟨rfl, ?_⟩; first | done | rfl | simp))); (try simp only [sA]))
    (apply DrO.pure; (case hw => rfl); (case hd => rfl); (case hv => (simp only [List.mem_cons, List.not_mem_nil, or_false, forall_eq_or_imp, forall_eq]; simp [vA, fRes_eq, h2]; first | done | exact ⟨⟨rfl, rfl⟩, rfl⟩ | exact ⟨rfl, rfl⟩ | exact rfl | (refine ⟨rfl, ?_⟩; first | done | rfl | simp))); (try simp only [sA]))
    (repeat (first | exact DrO.nil rfl | (apply DrO.eff; (case hw => rfl); (case hd => rfl); (case hl => rfl); (case hs => rfl); (case hs' => rfl); (case hv => (simp [vA, fRes_eq, htk, hln]; first|done|exact ⟨⟨rfl,rfl⟩,rfl⟩|exact ⟨rfl,rfl⟩|exact rfl)); (try simp only [sA])) | (apply DrO.pure; (case hw => rfl); (case hd => rfl); (case hv => (simp only [List.mem_cons, List.not_mem_nil, or_false, forall_eq_or_imp, forall_eq]; simp [vA, fRes_eq, htk, hln]; first | done | exact ⟨⟨rfl, rfl⟩, rfl⟩ | exact ⟨rfl, rfl⟩ | exact rfl | (refine ⟨rfl, ?_⟩; first | done | rfl | simp))); (try simp only [sA]))))
    apply DrO.call 82 [.agg T] (.sl WS none) rfl rfl (by simp [aop, evd]) (fun st _ => call_only st rfl (by simp [ren, ren1, AV.plain, AV.plain1, AV.clean, hpl, hcT]) hW (by simp) (by simp) (fun n => by simp [back, back1, AV.plain, AV.plain1, AV.clean, hwc]))
    simp only [putA, List.set_cons_zero, List.set_cons_succ]
    exact DrO.nil rfl
  simp only [List.drop_succ_cons, List.drop_zero, List.getLastD_cons, List.getLastD_nil, List.append_nil, List.cons_append, List.nil_append]
  refine ExO.call (f := 84) (xs := [.int .i64 front, .sl WS none]) (ys := [.int .i64 front, .sl WS none]) (bs := []) (cells := []) (by rfl) (by rfl) (by rfl) (by simp [ren, ren1, AV.plain, AV.plain1, AV.clean, hwc]) (by rfl) (by rfl) hM ?_
  rintro v c' ⟨rfl, rfl⟩
  refine ⟨_, rfl, rfl, ?_⟩
  simp only [List.map_cons, List.map_nil, putA, List.set_cons_zero, List.set_cons_succ, AV.plain, AV.plain1, setAll, List.length_cons, List.length_nil, List.drop_succ_cons, List.drop_zero, List.drop_nil, List.append_nil, Nat.reduceAdd]
  (repeat (first|((first|refine ExO.nil ?_|refine Ex.skip ?_|refine Ex.ret ?_|refine Ex.exit ?_); try dsimp only)|((first|(refine xI ?_; intro _ _)|refine xL ?_|(refine xB ?_; intro _ _)|refine xG ?_|refine xS ?_|refine xM ?_|(refine xC ?_; intro _ _)|refine xW ?_); try simp only [sA])|refine Ex.seq ?_|refine Ex.reg ?_|refine Ex.block ?_|refine eT ?_|refine eF ?_|simp only [reduceCtorEq, AEx.ex.injEq, Nat.reduceEqDiff, if_true, if_false]))
  simp [evRes, evRes1, one, AV.names, takeCells]
set_option maxHeartbeats 4000000 in
theorem onFront_m (len wid front rear turn kilos mid high : Int) (g : Ld → Int) (z : List Int) (ls : List Ld) (hlen : ls.length ≤ 20) (hz : z.length = 42) (hg : ∀ (j : Nat) l, ls[j]? = some l → z[j]? = some (g l)) (hw : ∀ w ∈ wts kilos mid g ls, WOk w) (h0 : 0 ≤ rear) (h1 : rear ≤ 10000) :
    Does Try.prog 57 [.agg (trC [.int .i64 len, .int .i64 wid, .int .i64 front, .int .i64 rear, .int .i64 turn, .int .i64 kilos, .int .i64 mid, .int .i64 high, .sl (ls.map Ld.av) none] z)] [] fun v c' => v = .int .i64 (-mom rear (wts kilos mid g ls)) ∧ c' = [] := by
  refine Does.of comp57 ?_
  unfold F57
  have hW := Does.det (Nat.le_refl _) (weights_m len wid front rear turn kilos mid high g z ls hlen hz hg).flat
  have hM := moment_m rear (wts kilos mid g ls) (by rw [wts_len]; omega) hw h0 h1
  have hcT := trC_clean [.int .i64 len, .int .i64 wid, .int .i64 front, .int .i64 rear, .int .i64 turn, .int .i64 kilos, .int .i64 mid, .int .i64 high, .sl (ls.map Ld.av) none] z (by simp [AV.clean, clean_lds, cleanL])
  have hsc := trC_scal [.int .i64 len, .int .i64 wid, .int .i64 front, .int .i64 rear, .int .i64 turn, .int .i64 kilos, .int .i64 mid, .int .i64 high, .sl (ls.map Ld.av) none] z (by simp [AV.scalar])
  have hln : (trC [.int .i64 len, .int .i64 wid, .int .i64 front, .int .i64 rear, .int .i64 turn, .int .i64 kilos, .int .i64 mid, .int .i64 high, .sl (ls.map Ld.av) none] z).length = 51 := by simp [trC, nums42_len, hz]
  have htk : (trC [.int .i64 len, .int .i64 wid, .int .i64 front, .int .i64 rear, .int .i64 turn, .int .i64 kilos, .int .i64 mid, .int .i64 high, .sl (ls.map Ld.av) none] z).take 51 = trC [.int .i64 len, .int .i64 wid, .int .i64 front, .int .i64 rear, .int .i64 turn, .int .i64 kilos, .int .i64 mid, .int .i64 high, .sl (ls.map Ld.av) none] z := List.take_of_length_le (by omega)
  have h2 : (trC [.int .i64 len, .int .i64 wid, .int .i64 front, .int .i64 rear, .int .i64 turn, .int .i64 kilos, .int .i64 mid, .int .i64 high, .sl (ls.map Ld.av) none] z)[3]? = some (.int .i64 rear) := rfl
  have hpl : (trC [.int .i64 len, .int .i64 wid, .int .i64 front, .int .i64 rear, .int .i64 turn, .int .i64 kilos, .int .i64 mid, .int .i64 high, .sl (ls.map Ld.av) none] z).map AV.plain1 = trC [.int .i64 len, .int .i64 wid, .int .i64 front, .int .i64 rear, .int .i64 turn, .int .i64 kilos, .int .i64 mid, .int .i64 high, .sl (ls.map Ld.av) none] z := by
    unfold trC nums42
    rw [List.map_append, List.map_map]
    congr 1
  have hwc := clean_wts (wts kilos mid g ls)
  generalize trC [.int .i64 len, .int .i64 wid, .int .i64 front, .int .i64 rear, .int .i64 turn, .int .i64 kilos, .int .i64 mid, .int .i64 high, .sl (ls.map Ld.av) none] z = T at hcT hW hsc htk hln hpl h2 ⊢
  generalize hWS : (wts kilos mid g ls).map Wt.av = WS at hW hM hwc
  simp only [start, List.length_cons, List.length_nil, List.replicate, List.cons_append, List.nil_append, Nat.reduceAdd, Nat.reduceSub]
  (repeat (first|((first|refine ExO.nil ?_|refine Ex.skip ?_|refine Ex.ret ?_|refine Ex.exit ?_); try dsimp only)|((first|(refine xI ?_; intro _ _)|refine xL ?_|(refine xB ?_; intro _ _)|refine xG ?_|refine xS ?_|refine xM ?_|(refine xC ?_; intro _ _)|refine xW ?_); try simp only [sA])|refine Ex.seq ?_|refine Ex.reg ?_|refine Ex.block ?_|refine eT ?_|refine eF ?_|simp only [reduceCtorEq, AEx.ex.injEq, Nat.reduceEqDiff, if_true, if_false]))
  apply Ex.drawE (only_ok [(82, [.agg T], .sl WS none)]) [] [] []
  case hD =>
    simp only [List.take_succ_cons, List.take_zero]
    (apply DrO.pure; (case hw => rfl); (case hd => rfl); (case hv => (simp only [List.mem_cons, List.not_mem_nil, or_false, forall_eq_or_imp, forall_eq]; simp [vA, fRes_eq, h2]; first | done | exact ⟨⟨rfl, rfl⟩, rfl⟩ | exact ⟨rfl, rfl⟩ | exact rfl | (refine ⟨rfl, ?_⟩; first | done | rfl | simp))); (try simp only [sA]))
    (apply DrO.pure; (case hw => rfl); (case hd => rfl); (case hv => (simp only [List.mem_cons, List.not_mem_nil, or_false, forall_eq_or_imp, forall_eq]; simp [vA, fRes_eq, h2]; first | done | exact ⟨⟨rfl, rfl⟩, rfl⟩ | exact ⟨rfl, rfl⟩ | exact rfl | (refine ⟨rfl, ?_⟩; first | done | rfl | simp))); (try simp only [sA]))
    (apply DrO.pure; (case hw => rfl); (case hd => rfl); (case hv => (simp only [List.mem_cons, List.not_mem_nil, or_false, forall_eq_or_imp, forall_eq]; simp [vA, fRes_eq, h2]; first | done | exact ⟨⟨rfl, rfl⟩, rfl⟩ | exact ⟨rfl, rfl⟩ | exact rfl | (refine ⟨rfl, ?_⟩; first | done | rfl | simp))); (try simp only [sA]))
    (repeat (first | exact DrO.nil rfl | (apply DrO.eff; (case hw => rfl); (case hd => rfl); (case hl => rfl); (case hs => rfl); (case hs' => rfl); (case hv => (simp [vA, fRes_eq, htk, hln]; first|done|exact ⟨⟨rfl,rfl⟩,rfl⟩|exact ⟨rfl,rfl⟩|exact rfl)); (try simp only [sA])) | (apply DrO.pure; (case hw => rfl); (case hd => rfl); (case hv => (simp only [List.mem_cons, List.not_mem_nil, or_false, forall_eq_or_imp, forall_eq]; simp [vA, fRes_eq, htk, hln]; first | done | exact ⟨⟨rfl, rfl⟩, rfl⟩ | exact ⟨rfl, rfl⟩ | exact rfl | (refine ⟨rfl, ?_⟩; first | done | rfl | simp))); (try simp only [sA]))))
    apply DrO.call 82 [.agg T] (.sl WS none) rfl rfl (by simp [aop, evd]) (fun st _ => call_only st rfl (by simp [ren, ren1, AV.plain, AV.plain1, AV.clean, hpl, hcT]) hW (by simp) (by simp) (fun n => by simp [back, back1, AV.plain, AV.plain1, AV.clean, hwc]))
    simp only [putA, List.set_cons_zero, List.set_cons_succ]
    exact DrO.nil rfl
  simp only [List.drop_succ_cons, List.drop_zero, List.getLastD_cons, List.getLastD_nil, List.append_nil, List.cons_append, List.nil_append]
  refine ExO.call (f := 84) (xs := [.int .i64 rear, .sl WS none]) (ys := [.int .i64 rear, .sl WS none]) (bs := []) (cells := []) (by rfl) (by rfl) (by rfl) (by simp [ren, ren1, AV.plain, AV.plain1, AV.clean, hwc]) (by rfl) (by rfl) hM ?_
  rintro v c' ⟨rfl, rfl⟩
  refine ⟨_, rfl, rfl, ?_⟩
  simp only [List.map_cons, List.map_nil, putA, List.set_cons_zero, List.set_cons_succ, AV.plain, AV.plain1, setAll, List.length_cons, List.length_nil, List.drop_succ_cons, List.drop_zero, List.drop_nil, List.append_nil, Nat.reduceAdd]
  have hb := mom_in rear h0 h1 (wts kilos mid g ls) hw
  rw [wts_len] at hb
  (repeat (first|((first|refine ExO.nil ?_|refine Ex.skip ?_|refine Ex.ret ?_|refine Ex.exit ?_); try dsimp only)|((first|(refine xI ?_; intro _ _)|refine xL ?_|(refine xB ?_; intro _ _)|refine xG ?_|refine xS ?_|refine xM ?_|(refine xC ?_; intro _ _)|refine xW ?_); try simp only [sA])|refine Ex.seq ?_|refine Ex.reg ?_|refine Ex.block ?_|refine eT ?_|refine eF ?_|simp only [reduceCtorEq, AEx.ex.injEq, Nat.reduceEqDiff, if_true, if_false]))
  rename_i m hm
  rw [i64_in (by omega) (by omega)] at hm
  simp [evRes, evRes1, one, AV.names, takeCells]
  omega
end Go.Proofs.Ytoefpcpijolofaa
end
section
namespace Go.Proofs.Ytoefpcpijolofaa
open Go.RowKit
set_option linter.unusedVariables false
set_option linter.unusedSimpArgs false
set_option maxRecDepth 10000

def hgt (high : Int) (g : Ld → Int) (ls : List Ld) : Int := ls.foldl (fun m l => if m < g l then g l else m) high
theorem hgt_take (high : Int) (g : Ld → Int) (ls : List Ld) (i : Nat) (l : Ld) (h : ls[i]? = some l) : hgt high g (ls.take (i + 1)) = if hgt high g (ls.take i) < g l then g l else hgt high g (ls.take i) := by
  simp [hgt, List.take_add_one, h, List.foldl_append]
  rfl

set_option maxHeartbeats 4000000 in
theorem height_m (len wid front rear turn kilos mid high : Int) (g : Ld → Int) (z : List Int) (ls : List Ld) (hlen : ls.length ≤ 20) (hz : z.length = 42) (hg : ∀ (j : Nat) l, ls[j]? = some l → z[21 + j]? = some (g l)) :
    Does Try.prog 59 [.agg (trC [.int .i64 len, .int .i64 wid, .int .i64 front, .int .i64 rear, .int .i64 turn, .int .i64 kilos, .int .i64 mid, .int .i64 high, .sl (ls.map Ld.av) none] z)] [] fun v c' => v = .int .i64 (hgt high g ls) ∧ c' = [] := by
  refine Does.of comp59 ?_
  unfold F59
  have hre := trC_re 1 [] [.int .i64 len, .int .i64 wid, .int .i64 front, .int .i64 rear, .int .i64 turn, .int .i64 kilos, .int .i64 mid, .int .i64 high, .sl (ls.map Ld.av) none] z (by simp [re, re1, AV.clean, clean_lds, cleanL])
  have hsc := trC_scal [.int .i64 len, .int .i64 wid, .int .i64 front, .int .i64 rear, .int .i64 turn, .int .i64 kilos, .int .i64 mid, .int .i64 high, .sl (ls.map Ld.av) none] z (by simp [AV.scalar])
  have h7 : (trC [.int .i64 len, .int .i64 wid, .int .i64 front, .int .i64 rear, .int .i64 turn, .int .i64 kilos, .int .i64 mid, .int .i64 high, .sl (ls.map Ld.av) none] z)[7]? = some (.int .i64 high) := rfl
  have h8 : (trC [.int .i64 len, .int .i64 wid, .int .i64 front, .int .i64 rear, .int .i64 turn, .int .i64 kilos, .int .i64 mid, .int .i64 high, .sl (ls.map Ld.av) none] z)[8]? = some (.sl (ls.map Ld.av) none) := rfl
  have hzk : ∀ (j : Nat) v, z[21 + j]? = some v → (trC [.int .i64 len, .int .i64 wid, .int .i64 front, .int .i64 rear, .int .i64 turn, .int .i64 kilos, .int .i64 mid, .int .i64 high, .sl (ls.map Ld.av) none] z)[30 + j]? = some (.int .i64 v) := fun j v h => by
    have := trC_get [.int .i64 len, .int .i64 wid, .int .i64 front, .int .i64 rear, .int .i64 turn, .int .i64 kilos, .int .i64 mid, .int .i64 high, .sl (ls.map Ld.av) none] z (21 + j) v rfl h
    rwa [show 9 + (21 + j) = 30 + j by omega] at this
  generalize trC [.int .i64 len, .int .i64 wid, .int .i64 front, .int .i64 rear, .int .i64 turn, .int .i64 kilos, .int .i64 mid, .int .i64 high, .sl (ls.map Ld.av) none] z = T at hre hsc h7 h8 hzk ⊢
  simp only [start, List.length_cons, List.length_nil, List.replicate, List.cons_append, List.nil_append, Nat.reduceAdd, Nat.reduceSub]
  (repeat (first|((first|refine ExO.nil ?_|refine Ex.skip ?_|refine Ex.ret ?_|refine Ex.exit ?_); try dsimp only)|((first|(refine xI ?_; intro _ _)|refine xL ?_|(refine xB ?_; intro _ _)|refine xG ?_|refine xS ?_|refine xM ?_|(refine xC ?_; intro _ _)|refine xW ?_); try simp only [sA])|refine Ex.seq ?_|refine Ex.reg ?_|refine Ex.block ?_|refine eT ?_|refine eF ?_|simp only [reduceCtorEq, AEx.ex.injEq, Nat.reduceEqDiff, if_true, if_false]))
  (apply ExO.stG; (case hk => rfl); (case hv => (simp [vA, fRes_eq, h7]; first|done|exact ⟨⟨rfl,rfl⟩,rfl⟩|exact ⟨rfl,rfl⟩|exact rfl)); (try simp only [sA]))
  (repeat (first|((first|refine ExO.nil ?_|refine Ex.skip ?_|refine Ex.ret ?_|refine Ex.exit ?_); try dsimp only)|((first|(refine xI ?_; intro _ _)|refine xL ?_|(refine xB ?_; intro _ _)|refine xG ?_|refine xS ?_|refine xM ?_|(refine xC ?_; intro _ _)|refine xW ?_); try simp only [sA])|refine Ex.seq ?_|refine Ex.reg ?_|refine Ex.block ?_|refine eT ?_|refine eF ?_|simp only [reduceCtorEq, AEx.ex.injEq, Nat.reduceEqDiff, if_true, if_false]))
  (apply ExO.stG; (case hk => rfl); (case hv => (simp [vA, fRes_eq, h8]; first|done|exact ⟨⟨rfl,rfl⟩,rfl⟩|exact ⟨rfl,rfl⟩|exact rfl)); (try simp only [sA]))
  (repeat (first|((first|refine ExO.nil ?_|refine Ex.skip ?_|refine Ex.ret ?_|refine Ex.exit ?_); try dsimp only)|((first|(refine xI ?_; intro _ _)|refine xL ?_|(refine xB ?_; intro _ _)|refine xG ?_|refine xS ?_|refine xM ?_|(refine xC ?_; intro _ _)|refine xW ?_); try simp only [sA])|refine Ex.seq ?_|refine Ex.reg ?_|refine Ex.block ?_|refine eT ?_|refine eF ?_|simp only [reduceCtorEq, AEx.ex.injEq, Nat.reduceEqDiff, if_true, if_false]))
  refine Ex.loopF (fun k a S => ∃ i, i ≤ ls.length ∧ k = ls.length - i ∧ a = [.junk, .ptr 0 0, .junk, .int .i64 (hgt high g (ls.take i)), .junk, .junk, .junk, .junk, .junk, .junk, .junk, .int .i64 ls.length, .int .i64 (i : Nat), .junk, .junk, .junk, .junk, .junk, .junk, .junk, .junk, .junk, .junk] ∧ S = ⟨[T], []⟩) ls.length ?_ ?_
  · refine ⟨_, _, forgets 1 [] ([false, true, false, true, false, false, false, false, false, false, false, true, true, false, false, false, false, false, false, false, false, false, false]) (by decide) (by simp) (bx2 := [T]) (by simp only [List.take_succ_cons, List.take_zero, List.mapM_cons, List.mapM_nil, hre]; rfl) (by rfl) (by decide), 0, by omega, by omega, ?_, by rfl⟩
    simp [keepS, re, re1, AV.clean, clean_lds, hgt]
  · rintro k a S ⟨i, hi, rfl, rfl, rfl⟩
    (repeat (first|((first|refine ExO.nil ?_|refine Ex.skip ?_|refine Ex.ret ?_|refine Ex.exit ?_); try dsimp only)|((first|(refine xI ?_; intro _ _)|refine xL ?_|(refine xB ?_; intro _ _)|refine xG ?_|refine xS ?_|refine xM ?_|(refine xC ?_; intro _ _)|refine xW ?_); try simp only [sA])|refine Ex.seq ?_|refine Ex.reg ?_|refine Ex.block ?_|refine eT ?_|refine eF ?_|simp only [reduceCtorEq, AEx.ex.injEq, Nat.reduceEqDiff, if_true, if_false]))
    rename_i c hc
    cases c
    · (refine Ex.cond (b := false) (by first | rfl | simp [evd]) ?_; simp only [Bool.false_eq_true, if_false])
      (repeat (first|((first|refine ExO.nil ?_|refine Ex.skip ?_|refine Ex.ret ?_|refine Ex.exit ?_); try dsimp only)|((first|(refine xI ?_; intro _ _)|refine xL ?_|(refine xB ?_; intro _ _)|refine xG ?_|refine xS ?_|refine xM ?_|(refine xC ?_; intro _ _)|refine xW ?_); try simp only [sA])|refine Ex.seq ?_|refine Ex.reg ?_|refine Ex.block ?_|refine eT ?_|refine eF ?_|simp only [reduceCtorEq, AEx.ex.injEq, Nat.reduceEqDiff, if_true, if_false]))
      simp [evRes, evRes1, one, AV.names, takeCells]
      have : i = ls.length := by have := hc.symm; simp at this; omega
      subst this
      simp
    · have hil : i < ls.length := by have := hc.symm; simpa using this
      have e1 : ls[i]? = some ls[i] := List.getElem?_eq_getElem hil
      have hs := hgt_take high g ls i _ e1
      have hk := hzk i _ (hg i _ e1)
      generalize ls[i] = l at e1 hs hk
      have l1 : (i : Int) < (ls.length : Int) := by omega
      have l2 : (i : Int) < 21 := by omega
      have l3 : i < 21 := by omega
      (refine Ex.cond (b := true) (by first | rfl | simp [evd]) ?_; simp only [if_true])
      (repeat (first|((first|refine ExO.nil ?_|refine Ex.skip ?_|refine Ex.ret ?_|refine Ex.exit ?_); try dsimp only)|((first|(refine xI ?_; intro _ _)|refine xL ?_|(refine xB ?_; intro _ _)|refine xG ?_|refine xS ?_|refine xM ?_|(refine xC ?_; intro _ _)|refine xW ?_); try simp only [sA])|refine Ex.seq ?_|refine Ex.reg ?_|refine Ex.block ?_|refine eT ?_|refine eF ?_|simp only [reduceCtorEq, AEx.ex.injEq, Nat.reduceEqDiff, if_true, if_false]))
      (apply ExO.stG; (case hk => rfl); (case hv => (simp [vA, fRes_eq, l2, l3]; first|done|exact ⟨⟨rfl,rfl⟩,rfl⟩|exact ⟨rfl,rfl⟩|exact rfl)); (try simp only [sA]))
      (repeat (first|((first|refine ExO.nil ?_|refine Ex.skip ?_|refine Ex.ret ?_|refine Ex.exit ?_); try dsimp only)|((first|(refine xI ?_; intro _ _)|refine xL ?_|(refine xB ?_; intro _ _)|refine xG ?_|refine xS ?_|refine xM ?_|(refine xC ?_; intro _ _)|refine xW ?_); try simp only [sA])|refine Ex.seq ?_|refine Ex.reg ?_|refine Ex.block ?_|refine eT ?_|refine eF ?_|simp only [reduceCtorEq, AEx.ex.injEq, Nat.reduceEqDiff, if_true, if_false]))
      (apply ExO.stG; (case hk => rfl); (case hv => (simp [vA, fRes_eq, hk]; first|done|exact ⟨⟨rfl,rfl⟩,rfl⟩|exact ⟨rfl,rfl⟩|exact rfl)); (try simp only [sA]))
      (repeat (first|((first|refine ExO.nil ?_|refine Ex.skip ?_|refine Ex.ret ?_|refine Ex.exit ?_); try dsimp only)|((first|(refine xI ?_; intro _ _)|refine xL ?_|(refine xB ?_; intro _ _)|refine xG ?_|refine xS ?_|refine xM ?_|(refine xC ?_; intro _ _)|refine xW ?_); try simp only [sA])|refine Ex.seq ?_|refine Ex.reg ?_|refine Ex.block ?_|refine eT ?_|refine eF ?_|simp only [reduceCtorEq, AEx.ex.injEq, Nat.reduceEqDiff, if_true, if_false]))
      rename_i m3 g3 m4 g4
      rw [i64_in (by omega) (by omega)] at g4
      have g5 : m4 = ((i + 1 : Nat) : Int) := by omega
      subst g5
      have g6 : m3 = hgt high g (ls.take (i + 1)) := by rw [hs, g3]
      subst g6
      refine ⟨_, _, forgets 1 [] ([false, true, false, true, false, false, false, false, false, false, false, true, true, false, false, false, false, false, false, false, false, false, false]) (by decide) (by simp) (bx2 := [T]) (by simp only [List.take_succ_cons, List.take_zero, List.mapM_cons, List.mapM_nil, hre]; rfl) (by rfl) (by decide), ls.length - (i + 1), by omega, i + 1, by omega, rfl, ?_, by rfl⟩
      simp [keepS, re, re1, AV.clean]
end Go.Proofs.Ytoefpcpijolofaa
end
section
namespace Go.Proofs.Ytoefpcpijolofaa
open Go.RowKit
set_option linter.unusedVariables false
set_option linter.unusedSimpArgs false
set_option maxRecDepth 10000

set_option maxHeartbeats 4000000 in
theorem total_m (len wid front rear turn kilos mid high : Int) (g : Ld → Int) (z : List Int) (ls : List Ld) (hlen : ls.length ≤ 20) (hz : z.length = 42) (hg : ∀ (j : Nat) l, ls[j]? = some l → z[j]? = some (g l)) (hw : ∀ w ∈ wts kilos mid g ls, WOk w) :
    Does Try.prog 55 [.agg (trC [.int .i64 len, .int .i64 wid, .int .i64 front, .int .i64 rear, .int .i64 turn, .int .i64 kilos, .int .i64 mid, .int .i64 high, .sl (ls.map Ld.av) none] z)] [] fun v c' => v = .int .i64 (tot (wts kilos mid g ls)) ∧ c' = [] := by
  refine Does.of comp55 ?_
  unfold F55
  have hW := (weights_m len wid front rear turn kilos mid high g z ls hlen hz hg).flat
  have hcT := trC_clean [.int .i64 len, .int .i64 wid, .int .i64 front, .int .i64 rear, .int .i64 turn, .int .i64 kilos, .int .i64 mid, .int .i64 high, .sl (ls.map Ld.av) none] z (by simp [AV.clean, clean_lds, cleanL])
  have hln : (trC [.int .i64 len, .int .i64 wid, .int .i64 front, .int .i64 rear, .int .i64 turn, .int .i64 kilos, .int .i64 mid, .int .i64 high, .sl (ls.map Ld.av) none] z).length = 51 := by simp [trC, nums42_len, hz]
  have htk : (trC [.int .i64 len, .int .i64 wid, .int .i64 front, .int .i64 rear, .int .i64 turn, .int .i64 kilos, .int .i64 mid, .int .i64 high, .sl (ls.map Ld.av) none] z).take 51 = trC [.int .i64 len, .int .i64 wid, .int .i64 front, .int .i64 rear, .int .i64 turn, .int .i64 kilos, .int .i64 mid, .int .i64 high, .sl (ls.map Ld.av) none] z := List.take_of_length_le (by omega)
  have hpl : (trC [.int .i64 len, .int .i64 wid, .int .i64 front, .int .i64 rear, .int .i64 turn, .int .i64 kilos, .int .i64 mid, .int .i64 high, .sl (ls.map Ld.av) none] z).map AV.plain1 = trC [.int .i64 len, .int .i64 wid, .int .i64 front, .int .i64 rear, .int .i64 turn, .int .i64 kilos, .int .i64 mid, .int .i64 high, .sl (ls.map Ld.av) none] z := by
    unfold trC nums42
    rw [List.map_append, List.map_map]
    congr 1
  have hwc := clean_wts (wts kilos mid g ls)
  have hwl : (wts kilos mid g ls).length ≤ 21 := by rw [wts_len]; omega
  generalize trC [.int .i64 len, .int .i64 wid, .int .i64 front, .int .i64 rear, .int .i64 turn, .int .i64 kilos, .int .i64 mid, .int .i64 high, .sl (ls.map Ld.av) none] z = T at hcT hW hln htk hpl ⊢
  generalize wts kilos mid g ls = ws at hW hw hwc hwl ⊢
  simp only [start, List.length_cons, List.length_nil, List.replicate, List.cons_append, List.nil_append, Nat.reduceAdd, Nat.reduceSub]
  (repeat (first|((first|refine ExO.nil ?_|refine Ex.skip ?_|refine Ex.ret ?_|refine Ex.exit ?_); try dsimp only)|((first|(refine xI ?_; intro _ _)|refine xL ?_|(refine xB ?_; intro _ _)|refine xG ?_|refine xS ?_|refine xM ?_|(refine xC ?_; intro _ _)|refine xW ?_); try simp only [sA])|refine Ex.seq ?_|refine Ex.reg ?_|refine Ex.block ?_|refine eT ?_|refine eF ?_|simp only [reduceCtorEq, AEx.ex.injEq, Nat.reduceEqDiff, if_true, if_false]))
  (apply ExO.stG; (case hk => rfl); (case hv => (simp [vA, fRes_eq, htk, hln]; first|done|exact ⟨⟨rfl,rfl⟩,rfl⟩|exact ⟨rfl,rfl⟩|exact rfl)); (try simp only [sA]))
  (repeat (first|((first|refine ExO.nil ?_|refine Ex.skip ?_|refine Ex.ret ?_|refine Ex.exit ?_); try dsimp only)|((first|(refine xI ?_; intro _ _)|refine xL ?_|(refine xB ?_; intro _ _)|refine xG ?_|refine xS ?_|refine xM ?_|(refine xC ?_; intro _ _)|refine xW ?_); try simp only [sA])|refine Ex.seq ?_|refine Ex.reg ?_|refine Ex.block ?_|refine eT ?_|refine eF ?_|simp only [reduceCtorEq, AEx.ex.injEq, Nat.reduceEqDiff, if_true, if_false]))
  refine ExO.call (f := 82) (xs := [.agg T]) (ys := [.agg T]) (bs := []) (cells := []) (by rfl) (by rfl) (by rfl) (by simp [ren, ren1, AV.plain, AV.plain1, AV.clean, hpl, hcT]) (by rfl) (by rfl) hW ?_
  rintro v c' ⟨rfl, rfl⟩
  refine ⟨.sl (ws.map Wt.av) none, by simp [back, back1, AV.plain, AV.plain1, AV.clean, hwc], rfl, ?_⟩
  simp only [List.map_cons, List.map_nil, putA, List.set_cons_zero, List.set_cons_succ, AV.plain, AV.plain1, setAll, List.length_cons, List.length_nil, List.drop_succ_cons, List.drop_zero, List.drop_nil, List.append_nil, Nat.reduceAdd]
  (repeat (first|((first|refine ExO.nil ?_|refine Ex.skip ?_|refine Ex.ret ?_|refine Ex.exit ?_); try dsimp only)|((first|(refine xI ?_; intro _ _)|refine xL ?_|(refine xB ?_; intro _ _)|refine xG ?_|refine xS ?_|refine xM ?_|(refine xC ?_; intro _ _)|refine xW ?_); try simp only [sA])|refine Ex.seq ?_|refine Ex.reg ?_|refine Ex.block ?_|refine eT ?_|refine eF ?_|simp only [reduceCtorEq, AEx.ex.injEq, Nat.reduceEqDiff, if_true, if_false]))
  refine Ex.loopF (fun k a S => ∃ i, i ≤ ws.length ∧ k = ws.length - i ∧ a = [.junk, .junk, .junk, .int .i64 (tot (ws.take i)), .junk, .junk, .junk, .sl (ws.map Wt.av) none, .int .i64 ws.length, .int .i64 (i : Nat), .junk, .junk, .junk, .junk, .junk, .junk, .junk, .junk, .junk] ∧ S = ⟨[], []⟩) ws.length ?_ ?_
  · refine ⟨_, _, forgets 0 [] ([false, false, false, true, false, false, false, true, true, true, false, false, false, false, false, false, false, false, false]) (by decide) (by simp) (by rfl) (by rfl) (by decide), 0, by omega, by omega, ?_, by rfl⟩
    simp [keepS, re, re1, AV.clean, clean_wts, tot]
  · rintro k a S ⟨i, hi, rfl, rfl, rfl⟩
    (repeat (first|((first|refine ExO.nil ?_|refine Ex.skip ?_|refine Ex.ret ?_|refine Ex.exit ?_); try dsimp only)|((first|(refine xI ?_; intro _ _)|refine xL ?_|(refine xB ?_; intro _ _)|refine xG ?_|refine xS ?_|refine xM ?_|(refine xC ?_; intro _ _)|refine xW ?_); try simp only [sA])|refine Ex.seq ?_|refine Ex.reg ?_|refine Ex.block ?_|refine eT ?_|refine eF ?_|simp only [reduceCtorEq, AEx.ex.injEq, Nat.reduceEqDiff, if_true, if_false]))
    rename_i c hc
    cases c
    · (refine Ex.cond (b := false) (by first | rfl | simp [evd]) ?_; simp only [Bool.false_eq_true, if_false])
      (repeat (first|((first|refine ExO.nil ?_|refine Ex.skip ?_|refine Ex.ret ?_|refine Ex.exit ?_); try dsimp only)|((first|(refine xI ?_; intro _ _)|refine xL ?_|(refine xB ?_; intro _ _)|refine xG ?_|refine xS ?_|refine xM ?_|(refine xC ?_; intro _ _)|refine xW ?_); try simp only [sA])|refine Ex.seq ?_|refine Ex.reg ?_|refine Ex.block ?_|refine eT ?_|refine eF ?_|simp only [reduceCtorEq, AEx.ex.injEq, Nat.reduceEqDiff, if_true, if_false]))
      simp [evRes, evRes1, one, AV.names, takeCells]
      have : i = ws.length := by have := hc.symm; simp at this; omega
      subst this
      simp
    · have hil : i < ws.length := by have := hc.symm; simpa using this
      have e1 : ws[i]? = some ws[i] := List.getElem?_eq_getElem hil
      have hw1 := hw ws[i] (List.getElem_mem hil)
      have hs := tot_take ws i _ e1
      have ht := tot_in (ws.take i) fun w h => hw w (List.mem_of_mem_take h)
      have htl : (ws.take i).length = i := by simp; omega
      rw [htl] at ht
      generalize ws[i] = w at e1 hw1 hs
      obtain ⟨wk, wa⟩ := w
      obtain ⟨a1, a2, a3, a4⟩ := hw1
      simp only at a1 a2 a3 a4 hs
      have l1 : (i : Int) < (ws.length : Int) := by omega
      (refine Ex.cond (b := true) (by first | rfl | simp [evd]) ?_; simp only [if_true])
      (repeat (first|((first|refine ExO.nil ?_|refine Ex.skip ?_|refine Ex.ret ?_|refine Ex.exit ?_); try dsimp only)|((first|(refine xI ?_; intro _ _)|refine xL ?_|(refine xB ?_; intro _ _)|refine xG ?_|refine xS ?_|refine xM ?_|(refine xC ?_; intro _ _)|refine xW ?_); try simp only [sA])|refine Ex.seq ?_|refine Ex.reg ?_|refine Ex.block ?_|refine eT ?_|refine eF ?_|simp only [reduceCtorEq, AEx.ex.injEq, Nat.reduceEqDiff, if_true, if_false]))
      (apply ExO.stG; (case hk => rfl); (case hv => (simp [vA, fRes_eq, e1, l1, Wt.av_cells]; first|done|exact ⟨⟨rfl,rfl⟩,rfl⟩|exact ⟨rfl,rfl⟩|exact rfl)); (try simp only [sA]))
      (repeat (first|((first|refine ExO.nil ?_|refine Ex.skip ?_|refine Ex.ret ?_|refine Ex.exit ?_); try dsimp only)|((first|(refine xI ?_; intro _ _)|refine xL ?_|(refine xB ?_; intro _ _)|refine xG ?_|refine xS ?_|refine xM ?_|(refine xC ?_; intro _ _)|refine xW ?_); try simp only [sA])|refine Ex.seq ?_|refine Ex.reg ?_|refine Ex.block ?_|refine eT ?_|refine eF ?_|simp only [reduceCtorEq, AEx.ex.injEq, Nat.reduceEqDiff, if_true, if_false]))
      rename_i m3 g3 m4 g4
      rw [i64_in (by omega) (by omega)] at g3
      rw [i64_in (by omega) (by omega)] at g4
      have g5 : m4 = ((i + 1 : Nat) : Int) := by omega
      subst g5
      rw [← hs] at g3
      subst g3
      refine ⟨_, _, forgets 0 [] ([false, false, false, true, false, false, false, true, true, true, false, false, false, false, false, false, false, false, false]) (by decide) (by simp) (by rfl) (by rfl) (by decide), ws.length - (i + 1), by omega, i + 1, by omega, rfl, ?_, by rfl⟩
      simp [keepS, re, re1, AV.clean, clean_wts]
end Go.Proofs.Ytoefpcpijolofaa
end
section
namespace Go.Proofs.Ytoefpcpijolofaa
open Go.RowKit
set_option linter.unusedVariables false
set_option linter.unusedSimpArgs false
set_option maxRecDepth 10000
set_option maxHeartbeats 4000000

theorem drumOf_m (zs : List Int) (hz : zs.length ≤ 9223372036854775807) : Does Try.prog 11 [.sl (zs.map fun z => .int .i64 z) none] [] fun v c' => ∃ b, v = .ptr 0 0 ∧ c' = [[.int .u64 b]] := by
  refine Does.of comp11 ?_
  unfold F11
  simp only [start, List.length_cons, List.length_nil, List.replicate, List.cons_append, List.nil_append, Nat.reduceAdd, Nat.reduceSub]
  (repeat (first|((first|refine ExO.nil ?_|refine Ex.skip ?_|refine Ex.ret ?_|refine Ex.exit ?_); try dsimp only)|((first|(refine xI ?_; intro _ _)|refine xL ?_|(refine xB ?_; intro _ _)|refine xG ?_|refine xS ?_|refine xM ?_|(refine xC ?_; intro _ _)|refine xW ?_); try simp only [sA])|refine Ex.seq ?_|refine Ex.reg ?_|refine Ex.block ?_|refine eT ?_|refine eF ?_|simp only [reduceCtorEq, AEx.ex.injEq, Nat.reduceEqDiff, if_true, if_false]))
  have hcz : cleanL (zs.map fun z => AV.int .i64 z) = true := by
    rw [cleanL_iff]
    intro x hx
    obtain ⟨z, _, rfl⟩ := List.mem_map.1 hx
    rfl
  refine Ex.loopF (fun k a S => ∃ i b, i ≤ zs.length ∧ k = zs.length - i ∧ a = [.sl (zs.map fun z => .int .i64 z) none, .junk, .junk, .ptr 0 0, .int .i64 (i : Nat), .junk, .junk, .junk, .junk, .junk, .junk, .junk, .junk, .junk, .junk, .junk, .junk, .junk, .junk, .junk, .junk, .junk, .junk, .junk, .junk, .junk, .junk, .junk, .junk] ∧ S = ⟨[[.int .u64 b]], []⟩) zs.length ?_ ?_
  · refine ⟨_, _, forgets 1 [] ([true, false, false, true, true, false, false, false, false, false, false, false, false, false, false, false, false, false, false, false, false, false, false, false, false, false, false, false, false]) (by decide) (by simp) (bx2 := [[.int .u64 2685821657736338717]]) (by rfl) (by rfl) (by decide), 0, _, by omega, by omega, ?_, by rfl⟩
    simp [keepS, re, re1, AV.clean, hcz]
  · rintro k a S ⟨i, b, hi, rfl, rfl, rfl⟩
    (repeat (first|((first|refine ExO.nil ?_|refine Ex.skip ?_|refine Ex.ret ?_|refine Ex.exit ?_); try dsimp only)|((first|(refine xI ?_; intro _ _)|refine xL ?_|(refine xB ?_; intro _ _)|refine xG ?_|refine xS ?_|refine xM ?_|(refine xC ?_; intro _ _)|refine xW ?_); try simp only [sA])|refine Ex.seq ?_|refine Ex.reg ?_|refine Ex.block ?_|refine eT ?_|refine eF ?_|simp only [reduceCtorEq, AEx.ex.injEq, Nat.reduceEqDiff, if_true, if_false]))
    rename_i c hc
    cases c
    · (refine Ex.cond (b := false) (by first | rfl | simp [evd]) ?_; simp only [Bool.false_eq_true, if_false])
      (repeat (first|((first|refine ExO.nil ?_|refine Ex.skip ?_|refine Ex.ret ?_|refine Ex.exit ?_); try dsimp only)|((first|(refine xI ?_; intro _ _)|refine xL ?_|(refine xB ?_; intro _ _)|refine xG ?_|refine xS ?_|refine xM ?_|(refine xC ?_; intro _ _)|refine xW ?_); try simp only [sA])|refine Ex.seq ?_|refine Ex.reg ?_|refine Ex.block ?_|refine eT ?_|refine eF ?_|simp only [reduceCtorEq, AEx.ex.injEq, Nat.reduceEqDiff, if_true, if_false]))
      simp [evRes, evRes1, one, AV.names, takeCells]
    · have hil : i < zs.length := by have := hc.symm; simpa using this
      have e1 : zs[i]? = some zs[i] := List.getElem?_eq_getElem hil
      generalize zs[i] = z at e1
      have l1 : (i : Int) < (zs.length : Int) := by omega
      (refine Ex.cond (b := true) (by first | rfl | simp [evd]) ?_; simp only [if_true])
      (repeat (first|((first|refine ExO.nil ?_|refine Ex.skip ?_|refine Ex.ret ?_|refine Ex.exit ?_); try dsimp only)|((first|(refine xI ?_; intro _ _)|refine xL ?_|(refine xB ?_; intro _ _)|refine xG ?_|refine xS ?_|refine xM ?_|(refine xC ?_; intro _ _)|refine xW ?_); try simp only [sA])|refine Ex.seq ?_|refine Ex.reg ?_|refine Ex.block ?_|refine eT ?_|refine eF ?_|simp only [reduceCtorEq, AEx.ex.injEq, Nat.reduceEqDiff, if_true, if_false]))
      apply Ex.drawE (noClr_ok _) [] [] []
      case hD =>
        simp only [List.take_succ_cons, List.take_zero]
        (repeat (first | exact DrO.nil rfl | (apply DrO.eff; (case hw => rfl); (case hd => rfl); (case hl => rfl); (case hs => rfl); (case hs' => rfl); (case hv => (simp [vA, fRes_eq, e1, l1]; first|done|exact ⟨⟨rfl,rfl⟩,rfl⟩|exact ⟨rfl,rfl⟩|exact rfl)); (try simp only [sA])) | (apply DrO.pure; (case hw => rfl); (case hd => rfl); (case hv => (simp only [List.mem_cons, List.not_mem_nil, or_false, forall_eq_or_imp, forall_eq]; simp [vA, fRes_eq, e1, l1]; first | done | exact ⟨⟨rfl, rfl⟩, rfl⟩ | exact ⟨rfl, rfl⟩ | exact rfl | (refine ⟨rfl, ?_⟩; first | done | rfl | simp))); (try simp only [sA]))))
      simp only [List.drop_succ_cons, List.drop_zero, List.getLastD_cons, List.getLastD_nil, List.append_nil, List.cons_append, List.nil_append]
      (repeat (first|((first|refine ExO.nil ?_|refine Ex.skip ?_|refine Ex.ret ?_|refine Ex.exit ?_); try dsimp only)|((first|(refine xI ?_; intro _ _)|refine xL ?_|(refine xB ?_; intro _ _)|refine xG ?_|refine xS ?_|refine xM ?_|(refine xC ?_; intro _ _)|refine xW ?_); try simp only [sA])|refine Ex.seq ?_|refine Ex.reg ?_|refine Ex.block ?_|refine eT ?_|refine eF ?_|simp only [reduceCtorEq, AEx.ex.injEq, Nat.reduceEqDiff, if_true, if_false]))
      generalize IntKind.u64.wrap ↑((b % 2 ^ IntKind.u64.bits).toNat ^^^ (IntKind.u64.wrap z % 2 ^ IntKind.u64.bits).toNat) = q
      refine ExO.call (f := 48) (xs := [.ptr 0 0]) (ys := [.ptr 0 0]) (bs := [0]) (cells := [[.int .u64 q]]) (by rfl) (by rfl) (by rfl) (by rfl) (by rfl) (by rfl) (hit_m q) ?_
      rintro v c' ⟨y, b2, rfl, rfl, _, _⟩
      refine ⟨_, rfl, rfl, ?_⟩
      simp only [List.map_cons, List.map_nil, putA, List.set_cons_zero, List.set_cons_succ, AV.plain, AV.plain1, setAll, List.length_cons, List.length_nil, List.drop_succ_cons, List.drop_zero, List.drop_nil, List.append_nil, Nat.reduceAdd]
      (repeat (first|((first|refine ExO.nil ?_|refine Ex.skip ?_|refine Ex.ret ?_|refine Ex.exit ?_); try dsimp only)|((first|(refine xI ?_; intro _ _)|refine xL ?_|(refine xB ?_; intro _ _)|refine xG ?_|refine xS ?_|refine xM ?_|(refine xC ?_; intro _ _)|refine xW ?_); try simp only [sA])|refine Ex.seq ?_|refine Ex.reg ?_|refine Ex.block ?_|refine eT ?_|refine eF ?_|simp only [reduceCtorEq, AEx.ex.injEq, Nat.reduceEqDiff, if_true, if_false]))
      rename_i m hm
      rw [i64_in (by omega) (by omega)] at hm
      have hm2 : m = ((i + 1 : Nat) : Int) := by omega
      subst hm2
      refine ⟨_, _, forgets 1 [] ([true, false, false, true, true, false, false, false, false, false, false, false, false, false, false, false, false, false, false, false, false, false, false, false, false, false, false, false, false]) (by decide) (by simp) (bx2 := [[.int .u64 b2]]) (by rfl) (by rfl) (by decide), zs.length - (i + 1), by omega, i + 1, b2, by omega, rfl, ?_, by rfl⟩
      simp [keepS, re, re1, AV.clean, hcz]
end Go.Proofs.Ytoefpcpijolofaa
end
