/- The engine, part 22: what is dead is forgotten: slots, boxes, growing slices. Own work; imports no translation. -/
import Derived.Test.YtncaneioenanjaaEu
namespace Go.Proofs.Ytncaneioenanjaa
open Go.RowKit
set_option linter.unusedVariables false
set_option linter.unusedSimpArgs false

/-- A value that names boxes below n and tokens of σ alone, by the tokens' new numbers. -/
def re1 (n : Nat) (σ : List Nat) (x : AV) : Option AV := match x with
  | .ptr b o => if b < n then some (.ptr b o) else none
  | .ms b k s => if b < n then some (.ms b k s) else none
  | .sl els (some t) => if cleanL els then (σ.idxOf? t).map fun i => .sl els (some i) else none
  | x => if x.clean then some x else none
def re (n : Nat) (σ : List Nat) (x : AV) : Option AV := match x with
  | .agg cs => (cs.mapM (re1 n σ)).map .agg
  | .tup cs => (cs.mapM (re1 n σ)).map .tup
  | .fn f ps cs => (ps.mapM (re1 n σ)).bind fun ps' => (cs.mapM (re1 n σ)).map (.fn f ps')
  | x => re1 n σ x
def Gh.cut (G : Gh) (n : Nat) (σ : List Nat) : Gh := ⟨fun b => if b < n then G.al b else none, fun t k => (σ[t]?).bind fun t0 => G.tb t0 k, G.fz⟩

theorem VR.re1 {G : Gh} {n : Nat} {σ : List Nat} {x y : AV} {u : Value} (h : VR G x u) (hr : re1 n σ x = some y) : VR (G.cut n σ) y u := by
  unfold Proofs.Ytncaneioenanjaa.re1 at hr
  split at hr
  · rename_i b o
    split at hr
    · rename_i hb
      cases hr
      obtain ⟨B, hB, rfl⟩ := h.inv_ptr
      exact .ptr b o B (by simp [Gh.cut, hb, hB])
    · cases hr
  · rename_i b k s
    split at hr
    · rename_i hb
      cases hr
      obtain ⟨B, c, hB, rfl, hc⟩ := h.inv_ms
      exact .ms b k s B c (by simp [Gh.cut, hb, hB]) hc
    · cases hr
  · rename_i els t
    split at hr
    · rename_i hcl
      simp only [Option.map_eq_some_iff] at hr
      obtain ⟨i, hi, rfl⟩ := hr
      have hti := idxOf_get hi
      cases h with
      | slt els t s B c us hb hn hs hf hv =>
        refine .slt els i s B c us (by simp [Gh.cut, hti, hb]) hn hs hf fun a e j z h1 h2 => (hv a e j z h1 h2).move ?_ (fun _ _ _ h => h)
        have he := cleanL_iff.1 hcl e (List.mem_of_getElem? h1)
        have hx := List.mem_of_getElem? h2
        cases e <;> simp only [AV.cells, List.mem_singleton] at hx <;> first | (subst hx; exact he) | exact cleanL_iff.1 (by simpa [AV.clean] using he) z hx
      | slt0 t hb => exact .slt0 i (by simp [Gh.cut, hti, hb])
    · cases hr
  · split at hr
    · rename_i hc
      cases hr
      exact h.move hc (fun _ _ _ h => h)
    · cases hr
theorem VR.re {G : Gh} {n : Nat} {σ : List Nat} {x y : AV} {u : Value} (h : VR G x u) (hr : re n σ x = some y) : VR (G.cut n σ) y u := by
  unfold Proofs.Ytncaneioenanjaa.re at hr
  split at hr
  · rename_i cs
    simp only [Option.map_eq_some_iff] at hr
    obtain ⟨ds, hds, rfl⟩ := hr
    obtain ⟨h1, h2⟩ := mapM_get hds
    cases h with
    | agg _ us hl h =>
      refine .agg ds us (by rw [hl, h1]) fun i z v hz hv => ?_
      obtain ⟨z', hz', hr'⟩ := h2 i z hz
      exact (h i z' v hz' hv).re1 hr'
  · rename_i cs
    simp only [Option.map_eq_some_iff] at hr
    obtain ⟨ds, hds, rfl⟩ := hr
    obtain ⟨h1, h2⟩ := mapM_get hds
    cases h with
    | tup _ us hl h =>
      refine .tup ds us (by rw [hl, h1]) fun i z v hz hv => ?_
      obtain ⟨z', hz', hr'⟩ := h2 i z hz
      exact (h i z' v hz' hv).re1 hr'
  · rename_i f ps cs
    simp only [Option.map_eq_some_iff, Option.bind_eq_some_iff] at hr
    obtain ⟨qs, hqs, ds, hds, rfl⟩ := hr
    obtain ⟨vs, us, rfl, hp, hl, hv⟩ := h.inv_fn
    obtain ⟨h1, h2⟩ := mapM_get hds
    obtain ⟨g1, g2⟩ := mapM_get hqs
    refine .fn f qs ds vs us (by rw [hp.1, g1]) (fun i z v hz hv' => ?_) (by rw [hl, h1]) fun i z v hz hv' => ?_
    · obtain ⟨z', hz', hr'⟩ := g2 i z hz
      exact (hp.2 i z' v hz' hv').re1 hr'
    · obtain ⟨z', hz', hr'⟩ := h2 i z hz
      exact (hv i z' v hz' hv').re1 hr'
  · exact h.re1 hr

/-- Slots that are dead stand for anything. -/
def keepS (n : Nat) (σ : List Nat) : List Bool → List AV → List AV
  | b :: bs, x :: l => (if b then (re n σ x).getD .junk else .junk) :: keepS n σ bs l
  | [], x :: l => (re n σ x).getD .junk :: keepS n σ [] l
  | _, [] => []
theorem keepS_get (n : Nat) (σ : List Nat) : ∀ (bs : List Bool) (l : List AV), (keepS n σ bs l).length = l.length ∧ ∀ (i : Nat) y, (keepS n σ bs l)[i]? = some y → y = .junk ∨ ∃ x, l[i]? = some x ∧ re n σ x = some y
  | bs, [] => by cases bs <;> exact ⟨rfl, fun i y h => by simp [keepS] at h⟩
  | [], x :: l => by
    obtain ⟨h1, h2⟩ := keepS_get n σ [] l
    refine ⟨by simp [keepS, h1], fun i y h => ?_⟩
    cases i with
    | zero =>
      simp only [keepS, List.getElem?_cons_zero, Option.some.injEq] at h
      cases hr : re n σ x with
      | none => rw [hr] at h; exact .inl h.symm
      | some z => rw [hr] at h; exact .inr ⟨x, rfl, by rw [hr]; simpa using h⟩
    | succ i => exact h2 i y (by simpa [keepS] using h)
  | b :: bs, x :: l => by
    obtain ⟨h1, h2⟩ := keepS_get n σ bs l
    refine ⟨by simp [keepS, h1], fun i y h => ?_⟩
    cases i with
    | zero =>
      simp only [keepS, List.getElem?_cons_zero, Option.some.injEq] at h
      cases b with
      | false => exact .inl (by simpa using h.symm)
      | true =>
        simp only [if_true] at h
        cases hr : re n σ x with
        | none => rw [hr] at h; exact .inl h.symm
        | some z => rw [hr] at h; exact .inr ⟨x, rfl, by rw [hr]; simpa using h⟩
    | succ i => exact h2 i y (by simpa [keepS] using h)

/-- What stands in one way stands in another way, too. -/
def Forgets (n0 : Nat) (a : List AV) (S : St) (a2 : List AV) (S2 : St) : Prop := ∀ (E : Ent), E.S.bx.length = n0 → ∀ act w, At E a S act w → At E a2 S2 act w
theorem Forgets.refl (n0 : Nat) (a : List AV) (S : St) : Forgets n0 a S a S := fun _ _ _ _ h => h

theorem forgets {n0 : Nat} {a : List AV} {S : St} (n : Nat) (σ : List Nat) (live : List Bool) {bx2 : List (List AV)} {lv2 : List (Nat × Nat)} (hn : n0 ≤ n) (hl : n ≤ S.bx.length) (hbx : (S.bx.take n).mapM (fun cs => cs.mapM (re n σ)) = some bx2) (hlv : σ.mapM (fun t => S.lv[t]?) = some lv2) (hσ : σ.Nodup) :
    Forgets n0 a S (keepS n σ live a) ⟨bx2, lv2⟩ := by
  intro E hE act w ⟨G, hI, hR, hg, hk, hd⟩
  obtain ⟨b1, b2⟩ := mapM_get hbx
  obtain ⟨l1, l2⟩ := mapM_get hlv
  have hbl : bx2.length = n := by rw [b1]; simp; omega
  have hlvg : ∀ (t : Nat) p, lv2[t]? = some p → ∃ t0, σ[t]? = some t0 ∧ S.lv[t0]? = some p := fun t p h => l2 t p h
  have hEtb : ∀ t k, E.G.tb t k = none := by
    intro t k
    cases h : E.G.tb t k with
    | none => rfl
    | some v =>
      obtain ⟨m, s, h1, _⟩ := E.inv.dtb t k v h
      rw [E.lv] at h1
      simp at h1
  refine ⟨G.cut n σ, ⟨?_, ?_, hI.fz, ?_, ?_, ?_, ?_, ?_⟩, ⟨?_, ?_⟩, ⟨⟨?_, ?_, hg.le.fz⟩, hg.os, hg.tape, hg.output, hg.size, hg.fr, ?_⟩, ⟨?_, ?_, ?_, ?_⟩, hd⟩
  · intro b B cs hal hcs
    simp only [Gh.cut] at hal
    split at hal
    · rename_i hbn
      obtain ⟨cs0, hcs0, hm⟩ := b2 b cs hcs
      rw [List.getElem?_take_of_lt hbn] at hcs0
      obtain ⟨m1, m2⟩ := mapM_get hm
      rcases hI.box b B cs0 hal hcs0 with rfl | ⟨us, T, k1, k2, k3, k4⟩
      · exact .inl (List.eq_nil_of_length_eq_zero (by rw [m1]; rfl))
      · refine .inr ⟨us, T, k1, by rw [k2, m1], fun i x u hx hu => ?_, k4⟩
        obtain ⟨x0, hx0, hr⟩ := m2 i x hx
        exact (k3 i x0 u hx0 hu).re hr
    · cases hal
  · intro t k s0 B s c h1 h2
    obtain ⟨t0, ht0, h3⟩ := hlvg t _ h1
    simp only [Gh.cut, ht0, Option.bind_some] at h2
    exact hI.tok t0 k s0 B s c h3 h2
  · intro b B hal
    simp only [Gh.cut] at hal
    split at hal
    · rename_i hbn
      exact ⟨by rw [hbl]; exact hbn, (hI.dal b B hal).2⟩
    · cases hal
  · intro t k v h
    simp only [Gh.cut, Option.bind_eq_some_iff] at h
    obtain ⟨t0, ht0, h⟩ := h
    obtain ⟨m, s, h1, h2⟩ := hI.dtb t0 k v h
    have hlt : t < lv2.length := by rw [l1]; exact (List.getElem?_eq_some_iff.1 ht0).1
    obtain ⟨t1, ht1, h3⟩ := hlvg t _ (List.getElem?_eq_getElem hlt)
    rw [ht0] at ht1; cases ht1
    rw [h1] at h3
    exact ⟨m, s, by rw [List.getElem?_eq_getElem hlt]; exact h3.symm, h2⟩
  · intro b b' B h1 h2
    simp only [Gh.cut] at h1 h2
    split at h1
    · split at h2
      · exact hI.injA b b' B h1 h2
      · cases h2
    · cases h1
  · intro t t' k k' s0 s0' B s s' c c' h1 h2 h3 h4
    obtain ⟨t0, ht0, g1⟩ := hlvg t _ h1
    obtain ⟨t0', ht0', g2⟩ := hlvg t' _ h2
    simp only [Gh.cut, ht0, ht0', Option.bind_some] at h3 h4
    have := hI.injT t0 t0' k k' s0 s0' B s s' c c' g1 g2 h3 h4
    subst this
    exact (List.getElem?_inj (List.getElem?_eq_some_iff.1 ht0).1 hσ).1 (by rw [ht0, ht0'])
  · intro b B t k s0 s c h1 h2 h3
    obtain ⟨t0, ht0, g1⟩ := hlvg t _ h2
    simp only [Gh.cut, ht0, Option.bind_some] at h1 h3
    split at h1
    · exact hI.sep b B t0 k s0 s c h1 g1 h3
    · cases h1
  · rw [hR.size, (keepS_get n σ live a).1]
  · intro i y u hy hu
    rcases (keepS_get n σ live a).2 i y hy with rfl | ⟨x, hx, hr⟩
    · exact .junk u
    · exact (hR.slot i x u hx hu).re hr
  · intro b B h
    have := (E.inv.dal b B h).1
    simp only [Gh.cut]
    rw [if_pos (by omega)]
    exact hg.le.al b B h
  · intro t k v h
    rw [hEtb] at h
    cases h
  · rintro B (⟨b, hb⟩ | ⟨t, k, s0, s, c, h1, h2⟩)
    · simp only [Gh.cut] at hb
      split at hb
      · exact hg.own B (.inl ⟨b, hb⟩)
      · cases hb
    · obtain ⟨t0, ht0, g1⟩ := hlvg t _ h1
      simp only [Gh.cut, ht0, Option.bind_some] at h2
      exact hg.own B (.inr ⟨t0, k, s0, s, c, g1, h2⟩)
  · rw [hE, hbl]; exact hn
  · rw [E.lv]; exact Nat.zero_le _
  · intro b hb h
    simp only [Gh.cut]
    rw [if_pos (by omega)]
    exact hk.al b hb h
  · intro t ht _ k
    rw [E.lv] at ht
    exact absurd ht (Nat.not_lt_zero _)

section rules
variable {n0 : Nat} {md : Md} {P : Program} {a a2 : List AV} {S S2 : St} {Q : AEx → List AV → St → Prop} {R : List AV → St → Prop}
theorem Ex.forget {c : ACode} (hf : Forgets n0 a S a2 S2) (h : Ex n0 md P c a2 S2 Q) : Ex n0 md P c a S Q := fun E hn code hc act w hA => h E hn code hc act w (hf E hn act w hA)
theorem ExO.forget {xs : List AOper} (hf : Forgets n0 a S a2 S2) (h : ExO n0 P xs a2 S2 R) : ExO n0 P xs a S R := fun E hn ops l Q hc hq act w hA => h E hn ops l Q hc hq act w (hf E hn act w hA)
/-- A loop whose rounds leave what is forgotten. -/
theorem Ex.loopF {c : ACode} (I : Nat → List AV → St → Prop) (k : Nat) (h : ∃ a2 S2, Forgets n0 a S a2 S2 ∧ I k a2 S2)
    (round : ∀ k a S, I k a S → Ex n0 md P c a S fun x a' S' => match x with | .norm => ∃ a2 S2, Forgets n0 a' S' a2 S2 ∧ ∃ j, j < k ∧ I j a2 S2 | x => Q x a' S') : Ex n0 md P (.loop c) a S Q := by
  obtain ⟨a2, S2, hf, hi⟩ := h
  refine Ex.forget hf ?_
  intro E hn code hc act w hA
  obtain ⟨x, rfl, h1⟩ := compCode_loop hc
  let I0 : Nat → Act → World → Prop := fun k act w => ∃ a S, I k a S ∧ At E a S act w
  refine cwp_loop (fun act w => ∃ k, I0 k act w) (fun act w => leastOf' fun k => I0 k act w) ⟨k, a2, S2, hi, hA⟩ ?_
  intro act1 w1 hex
  obtain ⟨⟨a1, S1, hi1, hA1⟩, hmin⟩ := leastOf_spec hex
  generalize hm : (leastOf' fun k => I0 k act1 w1) = m at hi1 hmin
  refine cwp_mono (round m a1 S1 hi1 E hn x h1 act1 w1 hA1) ?_
  rintro e act2 w2 ⟨z, a3, S3, rfl, hq, hA2⟩
  cases z with
  | norm =>
    obtain ⟨a4, S4, hf4, j, hj, hij⟩ := hq
    have hi : I0 j act2 w2 := ⟨a4, S4, hij, hf4 E hn _ _ hA2⟩
    refine ⟨⟨j, hi⟩, ?_⟩
    have := (leastOf_spec (p := fun k => I0 k act2 w2) ⟨j, hi⟩).2 j hi
    exact Nat.lt_of_le_of_lt this hj
  | ret => exact ⟨.ret, a3, S3, rfl, hq, hA2⟩
  | ex i => exact ⟨.ex i, a3, S3, rfl, hq, hA2⟩

/-! ### Steps -/
/-- The cells of each kind of value. -/
theorem cellsC : (∀ (k : IntKind) (n : Int), (AV.int k n).cells = [.int k n]) ∧ (∀ (b : Bool), (AV.bool b).cells = [.bool b]) ∧ (∀ (s : ByteArray), (AV.str s).cells = [.str s]) ∧ (∀ (cs : List AV), (AV.agg cs).cells = cs) ∧ (∀ (b o : Nat), (AV.ptr b o).cells = [.ptr b o]) ∧ (AV.nilp).cells = [.nilp] ∧ (AV.nils).cells = [.nils] ∧ (∀ (l : List AV) (t : Option Nat), (AV.sl l t).cells = [.sl l t]) ∧ (∀ (b n s : Nat), (AV.ms b n s).cells = [.ms b n s]) ∧ (∀ (f : FuncId) (p c : List AV), (AV.fn f p c).cells = [.fn f p c]) ∧ (AV.nilf).cells = [.nilf] ∧ (∀ (l : List AV), (AV.rop l).cells = [.rop l]) :=
  ⟨fun _ _ => rfl, fun _ => rfl, fun _ => rfl, fun _ => rfl, fun _ _ => rfl, rfl, rfl, fun _ _ => rfl, fun _ _ _ => rfl, fun _ _ _ => rfl, rfl, fun _ => rfl⟩
theorem ExO.stI {x : AOper} {l : List AOper} (k : IntKind) (n : Int) (S1 : St) (hk : opK x = 1) (hv : evOp noClr x.op a S = some (.int k n, S1)) (h : ∀ m, m = n → ExO n0 P l (putA a x.dst (.int k m)) S1 R) : ExO n0 P (x :: l) a S R := ExO.op (noClr_ok P) (opK_free (by omega)) hv (h n rfl)
theorem ExO.stB {x : AOper} {l : List AOper} (n : Bool) (S1 : St) (hk : opK x = 2) (hv : evOp noClr x.op a S = some (.bool n, S1)) (h : ∀ m, m = n → ExO n0 P l (putA a x.dst (.bool m)) S1 R) : ExO n0 P (x :: l) a S R := ExO.op (noClr_ok P) (opK_free (by omega)) hv (h n rfl)
theorem ExO.stG {x : AOper} {l : List AOper} (v : AV) (S1 : St) (hk : Nat.blt (opK x) 8 = true) (hv : evOp noClr x.op a S = some (v, S1)) (h : ExO n0 P l (putA a x.dst v) S1 R) : ExO n0 P (x :: l) a S R := ExO.op (noClr_ok P) (opK_free (by simp [Nat.blt] at hk; omega)) hv h
theorem ExO.stW {x : AOper} {l : List AOper} (v : AV) (S1 : St) (hw : wantedA x.guard a = some true) (hv : evOp noClr x.op a S = some (v, S1)) (h : ExO n0 P l (putA a x.dst v) S1 R) : ExO n0 P (x :: l) a S R := ExO.op (noClr_ok P) hw hv h
theorem ExO.stWB {x : AOper} {l : List AOper} (n : Bool) (S1 : St) (hw : wantedA x.guard a = some true) (hv : evOp noClr x.op a S = some (.bool n, S1)) (h : ∀ m, m = n → ExO n0 P l (putA a x.dst (.bool m)) S1 R) : ExO n0 P (x :: l) a S R := ExO.op (noClr_ok P) hw hv (h n rfl)
/-- Operations that are reckoned at once. -/
theorem ExO.run : ∀ (xs : List AOper) {a a' : List AV} {S S' : St}, evOps noClr xs a S = some (a', S') → R a' S' → ExO n0 P xs a S R
  | [], a, a', S, S', h, hr => by cases h; exact .nil hr
  | x :: xs, a, a', S, S', h, hr => by
    simp only [evOps] at h
    split at h
    · rename_i hw
      split at h
      · rename_i v S1 hv
        rw [putK_eq, sp_eq] at h
        exact .op (noClr_ok P) hw hv (ExO.run xs h hr)
      · cases h
    · rename_i hw
      exact .skip hw (ExO.run xs h hr)
    · cases h
end rules
end Go.Proofs.Ytncaneioenanjaa
