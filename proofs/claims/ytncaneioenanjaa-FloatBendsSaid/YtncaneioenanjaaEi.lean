/- The engine, part 9: what a call does, told of its own boxes alone; and a call in a caller. Own work; imports no translation. -/
import Derived.Test.YtncaneioenanjaaEh
namespace Go.Proofs.Ytncaneioenanjaa
open Go.RowKit
set_option linter.unusedVariables false
set_option linter.unusedSimpArgs false

/-- Values stand for values. -/
def VRs (G : Gh) (as : List AV) (us : Array Value) : Prop := us.size = as.length ∧ ∀ (i : Nat) x u, as[i]? = some x → us[i]? = some u → VR G x u

/-- A call of f with these, where its boxes hold these cells: it returns v, and the boxes hold those. -/
structure Contract (P : Program) (f : FuncId) (as : List AV) (cells : List (List AV)) (v : AV) (cells' : List (List AV)) : Prop where
  enter : ∀ (us : Array Value) (w : World), (callFunc f us).run P w = .ok (.enter f us) w
  len : cells.length ≤ cells'.length
  calls : ∀ (G : Gh) (w : World) (us : Array Value), Inv G ⟨cells, []⟩ w → VRs G as us → Calls P f us w fun e w' => ∃ u G' bx lv, e = .returned u ∧ VR G' v u ∧ Inv G' ⟨cells' ++ bx, lv⟩ w' ∧ Gro G ⟨cells, []⟩ w G' ⟨cells' ++ bx, lv⟩ w'

/-- The boxes that a value names. -/
def fp1 : AV → List Nat
  | .ptr b _ => [b]
  | .ms b _ _ => [b]
  | _ => []
def fpV : AV → List Nat
  | .fn _ ps caps => ps.flatMap fp1 ++ caps.flatMap fp1
  | x => fp1 x
def fpOf (as : List AV) : List Nat := (as.flatMap fpV).eraseDups

/-- Its boxes get other numbers. -/
def ren1 (bs : List Nat) (x : AV) : Option AV :=
  match x with
  | .ptr b o => (bs.idxOf? b).map fun i => .ptr i o
  | .ms b n s => (bs.idxOf? b).map fun i => .ms i n s
  | x => if x.plain.clean then some x.plain else none
def ren (bs : List Nat) (x : AV) : Option AV :=
  match x with
  | .fn f ps caps => (ps.mapM (ren1 bs)).bind fun ps' => (caps.mapM (ren1 bs)).map (.fn f ps')
  | x => ren1 bs x
/-- And back: n boxes were the caller's, who has m; what is new gets the next numbers. -/
def back1 (n n' m : Nat) (x : AV) : Option AV :=
  match x with
  | .ptr i o => if n ≤ i ∧ i < n' then some (.ptr (m + (i - n)) o) else none
  | .ms i k s => if n ≤ i ∧ i < n' then some (.ms (m + (i - n)) k s) else none
  | x => if x.plain.clean then some x.plain else none
def back (n n' m : Nat) (x : AV) : Option AV :=
  match x with
  | .tup vs => (vs.mapM (back1 n n' m)).map .tup
  | x => back1 n n' m x

def setAll (bx : List (List AV)) : List Nat → List (List AV) → List (List AV)
  | b :: bs, c :: cs => setAll (bx.set b c) bs cs
  | _, _ => bx

abbrev Orc := FuncId → List AV → List (List AV) → Option (AV × List (List AV))
def OrcOk (P : Program) (orc : Orc) : Prop := ∀ f as cells v cells', orc f as cells = some (v, cells') → Contract P f as cells v cells'

def evCall (orc : Orc) (f : FuncId) (as : List AV) (S : St) : Option (AV × St) :=
  let bs := fpOf as
  match as.mapM (ren bs), bs.mapM (fun b => S.bx[b]?) with
  | some as', some cells =>
    if cells.all cleanL && decide bs.Nodup then
      match orc f as' cells with
      | some (v, cells') =>
        match back bs.length cells'.length S.bx.length v with
        | some v' => if cells'.all cleanL then some (v', ⟨setAll S.bx bs cells' ++ cells'.drop bs.length, S.lv⟩) else none
        | none => none
      | none => none
    else none
  | _, _ => none

theorem setAll_get (bs : List Nat) : ∀ (bx cs : List (List AV)), bs.Nodup → bs.length ≤ cs.length → (∀ b ∈ bs, b < bx.length) → ∀ b, (∀ (i : Nat), bs[i]? = some b → (setAll bx bs cs)[b]? = cs[i]?) ∧ (b ∉ bs → (setAll bx bs cs)[b]? = bx[b]?) := by
  induction bs with
  | nil => intro bx cs _ _ _ b; exact ⟨fun i h => by simp at h, fun _ => by cases cs <;> rfl⟩
  | cons a bs ih =>
    intro bx cs hn hl hlt b
    cases cs with
    | nil => simp at hl
    | cons c cs =>
      simp only [setAll]
      have hn' := List.nodup_cons.1 hn
      obtain ⟨h1, h2⟩ := ih (bx.set a c) cs hn'.2 (by simpa using hl) (fun b hb => by rw [List.length_set]; exact hlt b (List.mem_cons_of_mem _ hb)) b
      refine ⟨fun i hi => ?_, fun hb => ?_⟩
      · cases i with
        | zero =>
          simp only [List.getElem?_cons_zero, Option.some.injEq] at hi
          subst hi
          rw [h2 hn'.1, List.getElem?_set_self (hlt a (by simp))]
          rfl
        | succ i =>
          rw [List.getElem?_cons_succ] at hi ⊢
          exact h1 i hi
      · simp only [List.mem_cons, not_or] at hb
        rw [h2 hb.2, List.getElem?_set_ne (Ne.symm hb.1)]
theorem setAll_length (bs : List Nat) : ∀ (bx cs : List (List AV)), (setAll bx bs cs).length = bx.length := by
  induction bs with
  | nil => intro bx cs; cases cs <;> rfl
  | cons a bs ih => intro bx cs; cases cs with
    | nil => rfl
    | cons c cs => simp only [setAll]; rw [ih, List.length_set]

theorem idxOf_get {bs : List Nat} {b i : Nat} (h : bs.idxOf? b = some i) : bs[i]? = some b := by
  have := List.idxOf?_eq_some_iff.1 h
  obtain ⟨hlt, h1, _⟩ := this
  rw [List.getElem?_eq_getElem hlt, h1]

/-- What the callee sees of its caller's boxes. -/
def Gh.sub (G : Gh) (bs : List Nat) : Gh := { al := fun i => (bs[i]?).bind G.al, tb := fun _ _ => none, fz := G.fz }

theorem VR.ren1 {G : Gh} {bs : List Nat} {x y : AV} {u : Value} (h : VR G x u) (hr : ren1 bs x = some y) : VR (G.sub bs) y u := by
  unfold Proofs.Ytncaneioenanjaa.ren1 at hr
  split at hr
  · rename_i b o
    simp only [Option.map_eq_some_iff] at hr
    obtain ⟨i, hi, rfl⟩ := hr
    obtain ⟨B, hB, rfl⟩ := h.inv_ptr
    exact .ptr i o B (by simp [Gh.sub, idxOf_get hi, hB])
  · rename_i b n s
    simp only [Option.map_eq_some_iff] at hr
    obtain ⟨i, hi, rfl⟩ := hr
    obtain ⟨B, c, hB, rfl, hc⟩ := h.inv_ms
    exact .ms i n s B c (by simp [Gh.sub, idxOf_get hi, hB]) hc
  · split at hr
    · rename_i hc
      cases hr
      exact h.plain.move hc (fun _ _ _ h => h)
    · cases hr
theorem VR.ren {G : Gh} {bs : List Nat} {x y : AV} {u : Value} (h : VR G x u) (hr : ren bs x = some y) : VR (G.sub bs) y u := by
  unfold Proofs.Ytncaneioenanjaa.ren at hr
  split at hr
  · rename_i f ps caps
    simp only [Option.map_eq_some_iff, Option.bind_eq_some_iff] at hr
    obtain ⟨qs, hqs, cs, hcs, rfl⟩ := hr
    obtain ⟨vs, us, rfl, hp, hl, hv⟩ := h.inv_fn
    obtain ⟨h1, h2⟩ := mapM_get hcs
    obtain ⟨g1, g2⟩ := mapM_get hqs
    refine .fn f qs cs vs us (by rw [hp.1, g1]) (fun i z v hz hv' => ?_) (by rw [hl, h1]) fun i z v hz hv' => ?_
    · obtain ⟨z', hz', hr'⟩ := g2 i z hz
      exact (hp.2 i z' v hz' hv').ren1 hr'
    · obtain ⟨z', hz', hr'⟩ := h2 i z hz
      exact (hv i z' v hz' hv').ren1 hr'
  · exact h.ren1 hr

theorem VR.back1 {G Gc : Gh} {n n' m : Nat} {x y : AV} {u : Value} (h : VR Gc x u) (hr : back1 n n' m x = some y) (hal : ∀ i B, n ≤ i → i < n' → Gc.al i = some B → G.al (m + (i - n)) = some B) (hfz : ∀ b o v, Gc.fz b o = some v → G.fz b o = some v) : VR G y u := by
  unfold Proofs.Ytncaneioenanjaa.back1 at hr
  split at hr
  · rename_i i o
    split at hr
    · rename_i hn
      cases hr
      obtain ⟨B, hB, rfl⟩ := h.inv_ptr
      exact .ptr _ o B (hal i B hn.1 hn.2 hB)
    · cases hr
  · rename_i i k s
    split at hr
    · rename_i hn
      cases hr
      obtain ⟨B, c, hB, rfl, hc⟩ := h.inv_ms
      exact .ms _ k s B c (hal i B hn.1 hn.2 hB) hc
    · cases hr
  · split at hr
    · rename_i hc
      cases hr
      exact h.plain.move hc hfz
    · cases hr
theorem VR.back {G Gc : Gh} {n n' m : Nat} {x y : AV} {u : Value} (h : VR Gc x u) (hr : back n n' m x = some y) (hal : ∀ i B, n ≤ i → i < n' → Gc.al i = some B → G.al (m + (i - n)) = some B) (hfz : ∀ b o v, Gc.fz b o = some v → G.fz b o = some v) : VR G y u := by
  unfold Proofs.Ytncaneioenanjaa.back at hr
  split at hr
  · rename_i vs
    simp only [Option.map_eq_some_iff] at hr
    obtain ⟨cs, hcs, rfl⟩ := hr
    obtain ⟨us, rfl, hl, hv⟩ := h.inv_tup
    obtain ⟨h1, h2⟩ := mapM_get hcs
    refine .tup cs us (by rw [hl, h1]) fun i z v hz hv' => ?_
    obtain ⟨z', hz', hr'⟩ := h2 i z hz
    exact (hv i z' v hz' hv').back1 hr' hal hfz
  · exact h.back1 hr hal hfz

theorem call_boxes {bs : List Nat} {S : St} {cells : List (List AV)} (hcells : bs.mapM (fun b => S.bx[b]?) = some cells) : cells.length = bs.length ∧ ∀ (i b : Nat), bs[i]? = some b → ∃ cs, cells[i]? = some cs ∧ S.bx[b]? = some cs := by
  obtain ⟨hl2, hm2⟩ := mapM_get hcells
  refine ⟨hl2, fun i b hib => ?_⟩
  have hlt : i < cells.length := by rw [hl2]; exact (List.getElem?_eq_some_iff.1 hib).1
  obtain ⟨b', hb', hcs⟩ := hm2 i cells[i] (List.getElem?_eq_getElem hlt)
  rw [hib] at hb'; cases hb'
  exact ⟨_, List.getElem?_eq_getElem hlt, hcs⟩
/-- What the callee is given. -/
theorem call_in {as as' : List AV} {S : St} {bs : List Nat} {cells : List (List AV)} (has : as.mapM (ren bs) = some as') (hcells : bs.mapM (fun b => S.bx[b]?) = some cells) (hclean : ∀ x ∈ cells, cleanL x = true) (hnd : bs.Nodup) {G : Gh} {w : World} {us : Array Value} (hI : Inv G S w) (hv : VRs G as us) : Inv (G.sub bs) ⟨cells, []⟩ w ∧ VRs (G.sub bs) as' us := by
  obtain ⟨hl1, hm1⟩ := mapM_get has
  obtain ⟨hl2, hm2⟩ := mapM_get hcells
  have hbx : ∀ (i b : Nat), bs[i]? = some b → ∃ cs, cells[i]? = some cs ∧ S.bx[b]? = some cs := by
    intro i b hib
    have hlt : i < cells.length := by rw [hl2]; exact (List.getElem?_eq_some_iff.1 hib).1
    obtain ⟨b', hb', hcs⟩ := hm2 i cells[i] (List.getElem?_eq_getElem hlt)
    rw [hib] at hb'; cases hb'
    exact ⟨_, List.getElem?_eq_getElem hlt, hcs⟩
  have hIc : Inv (G.sub bs) ⟨cells, []⟩ w := by
    refine ⟨?_, fun t n s0 B s c h => by simp at h, hI.fz, ?_, fun t n v h => by simp [Gh.sub] at h, ?_, fun t t' n n' s0 s0' B s s' c c' h => by simp at h, fun b B t n s0 s c h1 h2 => by simp at h2⟩
    · intro i B cs hal hcs
      simp only [Gh.sub, Option.bind_eq_some_iff] at hal
      obtain ⟨b, hb, hB⟩ := hal
      obtain ⟨cs', h1, h2⟩ := hbx i b hb
      rw [hcs] at h1; cases h1
      rcases hI.box b B cs hB h2 with h0 | ⟨us', T, k1, k2, k3, k4⟩
      · exact .inl h0
      · refine .inr ⟨us', T, k1, k2, fun j x u hx hu => (k3 j x u hx hu).move ?_ (fun _ _ _ h => h), k4⟩
        exact cleanL_iff.1 (hclean cs (List.mem_of_getElem? hcs)) x (List.mem_of_getElem? hx)
    · intro i B hal
      simp only [Gh.sub, Option.bind_eq_some_iff] at hal
      obtain ⟨b, hb, hB⟩ := hal
      exact ⟨by rw [hl2]; exact (List.getElem?_eq_some_iff.1 hb).1, (hI.dal b B hB).2⟩
    · intro i i' B h1 h2
      simp only [Gh.sub, Option.bind_eq_some_iff] at h1 h2
      obtain ⟨b, hb, hB⟩ := h1
      obtain ⟨b', hb', hB'⟩ := h2
      have := hI.injA _ _ _ hB hB'
      subst this
      have hlt := (List.getElem?_eq_some_iff.1 hb).1
      exact (List.getElem?_inj hlt hnd).1 (by rw [hb, hb'])
  have hvs : VRs (G.sub bs) as' us := by
    refine ⟨by rw [hv.1, hl1], fun i x u hx hu => ?_⟩
    obtain ⟨x', hx', hr⟩ := hm1 i x hx
    exact (hv.2 i x' u hx' hu).ren hr
  exact ⟨hIc, hvs⟩
/-- What the caller has behind it. -/
theorem call_back {S : St} {bs : List Nat} {cells cells' bx : List (List AV)} {lv : List (Nat × Nat)} (hcells : bs.mapM (fun b => S.bx[b]?) = some cells) (hnd : bs.Nodup) {G Gc : Gh} {w w' : World} {v0 v1 : AV} {u : Value} (hI : Inv G S w) (hlen : cells.length ≤ cells'.length) (hback : back bs.length cells'.length S.bx.length v0 = some v1) (hclean' : ∀ x ∈ cells', cleanL x = true)
    (hvr : VR Gc v0 u) (hI' : Inv Gc ⟨cells' ++ bx, lv⟩ w') (hg : Gro (G.sub bs) ⟨cells, []⟩ w Gc ⟨cells' ++ bx, lv⟩ w') : ∃ G', VR G' v1 u ∧ Inv G' ⟨setAll S.bx bs cells' ++ cells'.drop bs.length, S.lv⟩ w' ∧ Gro G S w G' ⟨setAll S.bx bs cells' ++ cells'.drop bs.length, S.lv⟩ w' ∧ (∀ b, b < S.bx.length → G'.al b = G.al b) ∧ G'.tb = G.tb := by
  obtain ⟨hl2, hbx⟩ := call_boxes hcells
  have hfz : ∀ b o v, G.fz b o = some v → Gc.fz b o = some v := hg.le.fz
  have hlen' : bs.length ≤ cells'.length := by rw [← hl2]; exact hlen
  -- the caller's boxes, and the new ones
  obtain ⟨al', hal'⟩ : ∃ al' : Nat → Option Nat, al' = fun k => if k < S.bx.length then G.al k else if k < S.bx.length + (cells'.length - bs.length) then Gc.al (bs.length + (k - S.bx.length)) else none := ⟨_, rfl⟩
  have ha1 : ∀ k, k < S.bx.length → al' k = G.al k := fun k h => by rw [hal']; simp [h]
  have ha2 : ∀ k B, S.bx.length ≤ k → al' k = some B → k - S.bx.length < cells'.length - bs.length ∧ Gc.al (bs.length + (k - S.bx.length)) = some B := fun k B h h2 => by
    rw [hal'] at h2
    simp only at h2
    rw [if_neg (by omega)] at h2
    split at h2
    · exact ⟨by omega, h2⟩
    · cases h2
  have hnewB : ∀ i B, bs.length ≤ i → Gc.al i = some B → w.heap.size ≤ B := by
    intro i B hi hB
    rcases hg.own B (.inl ⟨i, hB⟩) with (⟨j, hj⟩ | ⟨t, n, s0, s, c, h1, _⟩) | h
    · exfalso
      have h2 := hI'.injA _ _ _ hB (hg.le.al _ _ hj)
      simp only [Gh.sub, Option.bind_eq_some_iff] at hj
      obtain ⟨b, hb, _⟩ := hj
      have := (List.getElem?_eq_some_iff.1 hb).1
      omega
    · simp at h1
    · exact h
  have hle : G.le ⟨al', G.tb, Gc.fz⟩ := ⟨fun b B h => by
    show al' b = some B
    rw [ha1 b (hI.dal b B h).1]; exact h, fun _ _ _ h => h, hfz⟩
  have hnown : ∀ B, (∀ (i b : Nat), bs[i]? = some b → G.al b ≠ some B) → ¬ Owned (G.sub bs) ⟨cells, []⟩ B := by
    rintro B h (⟨i, hi⟩ | ⟨t, n, s0, s, c, h1, _⟩)
    · simp only [Gh.sub, Option.bind_eq_some_iff] at hi
      obtain ⟨b, hb, hB⟩ := hi
      exact h i b hb hB
    · simp at h1
  have hget := setAll_get bs S.bx cells' hnd hlen' (fun b hb => by
    obtain ⟨i, hi, rfl⟩ := List.mem_iff_getElem.1 hb
    obtain ⟨cs, _, h2⟩ := hbx i _ (List.getElem?_eq_getElem hi)
    exact (List.getElem?_eq_some_iff.1 h2).1)
  have hsl := setAll_length bs S.bx cells'
  refine ⟨⟨al', G.tb, Gc.fz⟩, ?_, ⟨?_, ?_, hI'.fz, ?_, hI.dtb, ?_, hI.injT, ?_⟩, ⟨hle, hg.os, hg.tape, hg.output, hg.size, ?_, ?_⟩, ha1, rfl⟩
  · refine hvr.back hback (fun i B hi hi' hB => ?_) (fun _ _ _ h => h)
    show al' _ = _
    rw [hal']
    simp only
    rw [if_neg (by omega), if_pos (by omega), show bs.length + (S.bx.length + (i - bs.length) - S.bx.length) = i by omega]
    exact hB
  · intro b B cs hal hcs
    by_cases hbS : b < S.bx.length
    · rw [List.getElem?_append_left (by rw [hsl]; exact hbS)] at hcs
      have hal : G.al b = some B := by rw [← ha1 b hbS]; exact hal
      by_cases hmem : b ∈ bs
      · obtain ⟨i, hi, hib⟩ := List.mem_iff_getElem.1 hmem
        have hib' : bs[i]? = some b := by rw [List.getElem?_eq_getElem hi, hib]
        have h1 := (hget b).1 i hib'
        rw [h1] at hcs
        have hic : i < cells'.length := (List.getElem?_eq_some_iff.1 hcs).1
        have hal' : Gc.al i = some B := hg.le.al i B (by simp [Gh.sub, hib', hal])
        rcases hI'.box i B cs hal' (by rw [List.getElem?_append_left hic]; exact hcs) with h0 | ⟨us', T, k1, k2, k3, k4⟩
        · exact .inl h0
        · refine .inr ⟨us', T, k1, k2, fun j x u hx hu => (k3 j x u hx hu).move ?_ (fun _ _ _ h => h), k4⟩
          exact cleanL_iff.1 (hclean' cs (List.mem_of_getElem? hcs)) x (List.mem_of_getElem? hx)
      · rw [(hget b).2 hmem] at hcs
        have hd := hI.dal b B hal
        have hn := hnown B (fun i b' hb' hal' => hmem (by
          have := hI.injA _ _ _ hal hal'
          subst this
          exact List.mem_of_getElem? hb'))
        obtain ⟨hh, hf⟩ := hg.fr B hd.2 hn
        rcases hI.box b B cs hal hcs with h0 | ⟨us', T, k1, k2, k3, k4⟩
        · exact .inl h0
        · exact .inr ⟨us', T, by rw [hh]; exact k1, k2, fun j x u hx hu => (k3 j x u hx hu).mono hle, fun o => by rw [show (Gh.mk al' G.tb Gc.fz).fz B o = Gc.fz B o from rfl, hf o]; exact k4 o⟩
    · have hbS := Nat.le_of_not_lt hbS
      obtain ⟨hk, hB⟩ := ha2 b B hbS hal
      rw [List.getElem?_append_right (by rw [hsl]; exact hbS), List.getElem?_drop, hsl] at hcs
      rcases hI'.box _ B cs hB (by rw [List.getElem?_append_left (by omega)]; exact hcs) with h0 | ⟨us', T, k1, k2, k3, k4⟩
      · exact .inl h0
      · refine .inr ⟨us', T, k1, k2, fun j x u hx hu => (k3 j x u hx hu).move ?_ (fun _ _ _ h => h), k4⟩
        exact cleanL_iff.1 (hclean' cs (List.mem_of_getElem? hcs)) x (List.mem_of_getElem? hx)
  · intro t n s0 B s c h1 h2
    obtain ⟨k1, ⟨us', T, k2, k3⟩, k4, k5⟩ := hI.tok t n s0 B s c h1 h2
    have hlt := hI.toklt h1 h2
    obtain ⟨hh, hf⟩ := hg.fr B hlt (hnown B fun i b hb hal => hI.sep b B t n s0 s c hal h1 h2)
    exact ⟨k1, ⟨us', T, by rw [hh]; exact k2, k3⟩, k4, fun o ho => by rw [show (Gh.mk al' G.tb Gc.fz).fz B o = Gc.fz B o from rfl, hf o]; exact k5 o ho⟩
  · intro b B hal
    by_cases hbS : b < S.bx.length
    · have hal : G.al b = some B := by rw [← ha1 b hbS]; exact hal
      have := hI.dal b B hal
      exact ⟨by simp [hsl]; omega, Nat.lt_of_lt_of_le this.2 hg.size⟩
    · obtain ⟨hk, hB⟩ := ha2 b B (Nat.le_of_not_lt hbS) hal
      exact ⟨by simp [hsl]; omega, (hI'.dal _ B hB).2⟩
  · intro b b' B h1 h2
    by_cases hb1 : b < S.bx.length <;> by_cases hb2 : b' < S.bx.length
    · exact hI.injA b b' B (by rw [← ha1 b hb1]; exact h1) (by rw [← ha1 b' hb2]; exact h2)
    · obtain ⟨_, hB⟩ := ha2 b' B (Nat.le_of_not_lt hb2) h2
      have := hnewB _ B (by omega) hB
      have := (hI.dal b B (by rw [← ha1 b hb1]; exact h1)).2
      omega
    · obtain ⟨_, hB⟩ := ha2 b B (Nat.le_of_not_lt hb1) h1
      have := hnewB _ B (by omega) hB
      have := (hI.dal b' B (by rw [← ha1 b' hb2]; exact h2)).2
      omega
    · obtain ⟨_, hB⟩ := ha2 b B (Nat.le_of_not_lt hb1) h1
      obtain ⟨_, hB'⟩ := ha2 b' B (Nat.le_of_not_lt hb2) h2
      have := hI'.injA _ _ _ hB hB'
      omega
  · intro b B t n s0 s c h1 h2 h3
    by_cases hb1 : b < S.bx.length
    · exact hI.sep b B t n s0 s c (by rw [← ha1 b hb1]; exact h1) h2 h3
    · obtain ⟨_, hB⟩ := ha2 b B (Nat.le_of_not_lt hb1) h1
      have := hnewB _ B (by omega) hB
      have := hI.toklt h2 h3
      omega
  · intro B hB hno
    exact hg.fr B hB (hnown B fun i b hb hal => hno (.inl ⟨b, hal⟩))
  · rintro B (⟨b, hb⟩ | ho')
    · by_cases hb1 : b < S.bx.length
      · exact .inl (.inl ⟨b, by rw [← ha1 b hb1]; exact hb⟩)
      · obtain ⟨_, hB⟩ := ha2 b B (Nat.le_of_not_lt hb1) hb
        exact .inr (hnewB _ B (by omega) hB)
    · exact .inl (.inr ho')
/-- A call in its caller. -/
theorem evCall_ok {P : Program} {orc : Orc} {f : FuncId} {as : List AV} {S S' : St} {v : AV} (ho : OrcOk P orc) (he : evCall orc f as S = some (v, S')) {G : Gh} {w : World} {us : Array Value} (hI : Inv G S w) (hv : VRs G as us) :
    (callFunc f us).run P w = .ok (.enter f us) w ∧ Calls P f us w fun e w' => ∃ u G', e = .returned u ∧ VR G' v u ∧ Inv G' S' w' ∧ Gro G S w G' S' w' ∧ (∀ b, b < S.bx.length → G'.al b = G.al b) ∧ G'.tb = G.tb := by
  unfold evCall at he
  simp only [] at he
  generalize hbs : fpOf as = bs at he
  split at he
  · rename_i as' cells has hcells
    split at he
    · rename_i hcond
      simp only [Bool.and_eq_true, decide_eq_true_eq, List.all_eq_true] at hcond
      obtain ⟨hclean, hnd⟩ := hcond
      split at he
      · rename_i v0 cells' horc
        split at he
        · rename_i v1 hback
          split at he
          · rename_i hclean'
            cases he
            rw [List.all_eq_true] at hclean'
            obtain ⟨hen, hlen, hcalls⟩ := ho _ _ _ _ _ horc
            obtain ⟨hIc, hvs⟩ := call_in has hcells hclean hnd hI hv
            refine ⟨hen us w, (hcalls (G.sub bs) w us hIc hvs).mono ?_⟩
            rintro e w' ⟨u, Gc, bx, lv, rfl, hvr, hI', hg⟩
            obtain ⟨G', k1, k2, k3, k4, k5⟩ := call_back hcells hnd hI hlen hback hclean' hvr hI' hg
            exact ⟨u, G', rfl, k1, k2, k3, k4, k5⟩
          · cases he
        · cases he
      · cases he
    · cases he
  · cases he

/-! ### A call in whatever state -/
/-- What a call comes to in its caller's state; and the state, if it has turned. -/
abbrev Clr := FuncId → List AV → St → Option (AV × Option St)
def callS (X : Clr) (f : FuncId) (xs : List AV) (S : St) : Option (AV × St) := match X f xs S with
  | some (v, none) => some (v, S)
  | some (v, some T) => some (v, T)
  | none => none

/-- What nothing stood for, nothing stands for; and nothing is taken away. -/
structure Keep (G : Gh) (S : St) (G' : Gh) (S' : St) : Prop where
  bl : S.bx.length ≤ S'.bx.length
  ll : S.lv.length ≤ S'.lv.length
  al : ∀ b, b < S.bx.length → G.al b = none → G'.al b = none
  tb : ∀ t, t < S.lv.length → (∀ n, G.tb t n = none) → ∀ n, G'.tb t n = none
theorem Keep.refl (G : Gh) (S : St) : Keep G S G S := ⟨Nat.le_refl _, Nat.le_refl _, fun _ _ h => h, fun _ _ h => h⟩
theorem Keep.trans {G G1 G2 : Gh} {S S1 S2 : St} (h : Keep G S G1 S1) (k : Keep G1 S1 G2 S2) : Keep G S G2 S2 :=
  ⟨Nat.le_trans h.bl k.bl, Nat.le_trans h.ll k.ll, fun b hb h0 => k.al b (Nat.lt_of_lt_of_le hb h.bl) (h.al b hb h0), fun t ht h0 => k.tb t (Nat.lt_of_lt_of_le ht h.ll) (h.tb t ht h0)⟩
theorem Keep.box (G : Gh) (S : St) (B : Nat) (cs : List AV) : Keep G S (G.box S.bx.length B) ⟨S.bx ++ [cs], S.lv⟩ :=
  ⟨by simp, Nat.le_refl _, fun b hb h => by simp only [Gh.box]; rw [if_neg (by omega)]; exact h, fun _ _ h => h⟩
theorem Keep.put (G : Gh) (S : St) (b : Nat) (cs : List AV) : Keep G S G ⟨S.bx.set b cs, S.lv⟩ := ⟨by simp, Nat.le_refl _, fun _ _ h => h, fun _ _ h => h⟩
theorem Keep.lit {G : Gh} {S : St} {lv : List (Nat × Nat)} {t n B s c : Nat} {us : Array Value} (hl : S.lv.length ≤ lv.length) (h : S.lv.length ≤ t ∨ ∃ k v, G.tb t k = some v) : Keep G S (G.lit t n B s c us) ⟨S.bx, lv⟩ := ⟨Nat.le_refl _, hl, fun _ _ h => h, fun t' ht' h' n' => by
  simp only [Gh.lit]
  rw [if_neg]
  · exact h' n'
  · rintro ⟨rfl, rfl⟩
    rcases h with h | ⟨k, v, h⟩
    · omega
    · rw [h' k] at h; cases h⟩

structure ClrOk (P : Program) (X : Clr) : Prop where
  ok : ∀ f as S v S', callS X f as S = some (v, S') → ∀ (G : Gh) (w : World) (us : Array Value), Inv G S w → VRs G as us →
    (callFunc f us).run P w = .ok (.enter f us) w ∧ Calls P f us w fun e w' => ∃ u G', e = .returned u ∧ VR G' v u ∧ Inv G' S' w' ∧ Gro G S w G' S' w' ∧ Keep G S G' S'

theorem evCall_len {orc : Orc} {f : FuncId} {as : List AV} {S S' : St} {v : AV} (he : evCall orc f as S = some (v, S')) : S.bx.length ≤ S'.bx.length ∧ S'.lv = S.lv := by
  unfold evCall at he
  simp only [] at he
  split at he
  · split at he
    · split at he
      · split at he
        · split at he
          · cases he
            exact ⟨by simp [setAll_length], rfl⟩
          · cases he
        · cases he
      · cases he
    · cases he
  · cases he
theorem evCall_pure {orc : Orc} {f : FuncId} {as : List AV} {S S' : St} {v : AV} (hf : fpOf as = []) (h : evCall orc f as S = some (v, S')) (hl : S'.bx.length = S.bx.length) : S' = S := by
  unfold evCall at h
  rw [hf] at h
  simp only [List.mapM_nil, Option.pure_def] at h
  split at h
  · split at h
    · split at h
      · rename_i v0 cells' horc
        split at h
        · split at h
          · simp only [Option.some.injEq, Prod.mk.injEq] at h
            obtain ⟨_, rfl⟩ := h
            have hs : setAll S.bx [] cells' = S.bx := by cases cells' <;> rfl
            simp only [hs, List.length_append, List.length_nil, List.drop_zero] at hl ⊢
            have : cells' = [] := List.eq_nil_of_length_eq_zero (by omega)
            rw [this, List.append_nil]
          · cases h
        · cases h
      · cases h
    · cases h
  · cases h
/-- Calls by contracts. -/
def clrOf (orc : Orc) : Clr := fun f xs S => match evCall orc f xs S with
  | some (v, T) => bif (fpOf xs).isEmpty && Nat.beq T.bx.length S.bx.length then some (v, none) else some (v, some T)
  | none => none
theorem callS_clrOf (orc : Orc) (f : FuncId) (xs : List AV) (S : St) : callS (clrOf orc) f xs S = evCall orc f xs S := by
  unfold callS clrOf
  cases he : evCall orc f xs S with
  | none => rfl
  | some p =>
    obtain ⟨v, T⟩ := p
    simp only []
    cases hc : ((fpOf xs).isEmpty && Nat.beq T.bx.length S.bx.length) with
    | false => rfl
    | true =>
      simp only [Bool.and_eq_true, List.isEmpty_iff] at hc
      rw [cond_true]
      simp only []
      rw [evCall_pure hc.1 he (Nat.eq_of_beq_eq_true hc.2)]
theorem clr_ok {P : Program} {orc : Orc} (ho : OrcOk P orc) : ClrOk P (clrOf orc) := ⟨by
  intro f as S v S' he G w us hI hv
  rw [callS_clrOf] at he
  obtain ⟨h1, h2⟩ := evCall_ok ho he hI hv
  obtain ⟨h3, h4⟩ := evCall_len he
  refine ⟨h1, h2.mono ?_⟩
  rintro e w' ⟨u, G', rfl, k1, k2, k3, k4, k5⟩
  exact ⟨u, G', rfl, k1, k2, k3, h3, by rw [h4]; exact Nat.le_refl _, fun b hb h => by rw [k4 b hb]; exact h, fun t _ h n => by rw [k5]; exact h n⟩⟩
end Go.Proofs.Ytncaneioenanjaa
