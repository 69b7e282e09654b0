/- Part 2 of what the law needs: own work, put together. -/
import Derived.OpenShut
import Derived.ShutString
import Derived.ChangeOld
import Derived.ChangeSlices
import Derived.RangeFuncLeaves
import Derived.KernelRfl
import Derived.Test.YtildamklmoekaaaGreatDoorZp0
set_option linter.unusedVariables false
set_option linter.unusedSimpArgs false
namespace Go.Proofs.YtildamklmoekaaaGreatDoor
section
open Go.RowKit
theorem aEj {P : Program} {ops : Array Oper} {xs : List aT} {Q : Exit → Act → World → Prop} {m : Nat} (hok : okD ops xs m = true) :
  ∀ (r k : Nat) (listed : Array Bool) (a : Act) (w : World),k + r = ops.size → m ≤ k → listed.size = ops.size →
   (∀ i,i < k → listed.getD i true = true) → (∀ i,k ≤ i → i < ops.size → listed.getD i true = false) →
   wpOps P ops Q (List.range' k r) a w → wpAny P .any ops Q r listed a w:=by
 obtain ⟨_,_,_,hsp⟩:=oK hok
 intro r
 induction r with
 | zero =>
  intro k listed a w hk hm hs h1 h2 h
  refine ⟨?_,by simpa [wpOps] using h⟩
  apply List.eq_nil_iff_forall_not_mem.2
  intro j hj
  obtain ⟨hj1,o,ho,_⟩:=oJ.1 hj
  have hjn : j < ops.size:=(Array.getElem?_eq_some_iff.1 ho).1
  rw [h1 j (by omega)] at hj1
  cases hj1
 | succ r ih =>
  intro k listed a w hk hm hs h1 h2 h
  obtain ⟨o,x,ho,hx,hlt,_,_,_⟩:=hsp k (by omega)
  have hready : ∀ j,j ∈ Region.ready .any ops listed ↔ j = k:=by
   intro j
   rw [oJ]
   constructor
   ·rintro ⟨hj1,oj,hoj,hall⟩
    have hjn : j < ops.size:=(Array.getElem?_eq_some_iff.1 hoj).1
    by_cases hjk : j < k
    ·rw [h1 j hjk] at hj1; cases hj1
    ·by_cases he : j = k
     ·exact he
     ·obtain ⟨oj',xj,hoj',_,_,_,_,haf⟩:=hsp j hjn
      rw [hoj] at hoj'
      cases hoj'
      have h3:=hall (j - 1) (haf (by omega))
      have h4:=h2 (j - 1) (by omega) (by omega)
      have hkn : j - 1 < listed.size:=by omega
      simp [hkn] at h3 h4
      rw [h3] at h4
      cases h4
   ·rintro rfl
    refine ⟨h2 j (Nat.le_refl _) (by omega),o,ho,fun i hi => ?_⟩
    have h3:=h1 i (hlt i hi)
    have hin : i < listed.size:=by have:=hlt i hi; omega
    simp [hin] at h3 ⊢
    exact h3
  have hsub : ∀ i,i ∈ Region.ready .any ops listed → wpOp P ops Q i (wpAny P .any ops Q r (listed.setIfInBounds i true)) a w:=by
   intro i hi
   have hik:=(hready i).1 hi
   subst hik
   rw [List.range'_succ,wpOps_cons] at h
   refine wpOp_mono (fun a' w' h' => ih (i + 1) _ a' w' (by omega) (by omega) (by simp [hs]) (fun j hj => ?_) (fun j hj hjn => ?_) h') h
   ·by_cases hji : j = i
    ·subst hji
     have : j < listed.size:=by omega
     simp [Array.getElem?_setIfInBounds,this]
    ·have hne : i ≠ j:=fun e => hji e.symm
     have:=h1 j (by omega)
     simpa [Array.getElem?_setIfInBounds_ne hne] using this
   ·have hne : i ≠ j := by omega
    have:=h2 j (by omega) hjn
    simpa [Array.getElem?_setIfInBounds_ne hne] using this
  exact ⟨fun he => (by have:=(hready k).2 rfl; rw [he] at this; cases this),hsub⟩
theorem aGf {α β : Type} {f : α → Option β} : ∀ {l : List α} {m : List β},l.mapM f = some m → ∀ (i : Nat) x y,l[i]? = some x → m[i]? = some y → f x = some y:=by
 intro l m h i x y hx hy
 obtain ⟨x',hx',hf⟩:=(bU h).2 i y hy
 rw [hx] at hx'; cases hx'; exact hf
theorem iL (a : List AV) (d : Option Nat) (v : AV) (t : Nat) (h : d ≠ some t) : (putA a d v).getD t .junk = a.getD t .junk:=by
 cases d with
 | none => rfl
 | some d =>
  have : d ≠ t:=fun e => h (by rw [e])
  simp only [putA,List.getD]
  rw [List.getElem?_set_ne this]
theorem jW (a : List AV) (d : Nat) (v : AV) (h : d < a.length) : (putA a (some d) v).getD d .junk = v:=by
 simp only [putA,List.getD]
 rw [List.getElem?_set_self h]
 rfl
theorem jQ (a : List AV) (d : Option Nat) (v : AV) : (putA a d v).length = a.length:=by cases d <;> simp [putA]
section
variable {P : Program} {orc : Clr} {ops : Array Oper} {xs : List aT} {Q : Exit → Act → World → Prop} {m : Nat} {a a1 : List AV} {v : Nat → AV} {st : Nat → St} {eff : Nat → Bool} {bid tid : Nat → Option Nat} {G0 : Gh} {S0 : St} {w0 : World} {act0 : Act}
theorem aAv (up : Nat → Nat) (hup : ∀ i,i < m → lvl eff m ≤ up i ∨ ∃ j,j < m ∧ eff j = true ∧ Pre ops i j ∧ lvl eff j ≤ up i) (ho : eE P orc) (hok : okD ops xs m = true) (hc : ops.toList.mapM (cL P ops) = some xs) (hlen : a1.length = a.length)
  (h1 : ∀ i,i < m → ∀ t,dO xs i = some t → t < a.length ∧ a1.getD t .junk = v i)
  (h0 : ∀ t,(∀ i,i < m → dO xs i ≠ some t) → a1.getD t .junk = a.getD t .junk)
  (am : Nat → List AV) (ham : ∀ i,i < m → ∀ t,((∀ k,k < i → dO xs k ≠ some t) → (am i).getD t .junk = a.getD t .junk) ∧ ((∃ k,k < i ∧ dO xs k = some t) → (am i).getD t .junk = a1.getD t .junk))
  (hF : ∀ i,i < m → ∀ x,xs[i]? = some x → aEd orc a1 (am i) st (up i) (lvl eff m) (lvl eff i) x (v i) (eff i) (bid i) (tid i))
  (hE : ∀ i,i < m → eff i = true → kF ops i = true)
  (hb : ∀ i j id,i < m → j < m → bid i = some id → bid j = some id → i = j)
  (ht : ∀ i j id,i < m → j < m → tid i = some id → tid j = some id → i = j)
  (hbn : ∀ i id,i < m → bid i = some id → S0.bx.length ≤ id) (htnn : ∀ i id,i < m → tid i = some id → S0.lv.length ≤ id)
  (hend : ∀ G act w,Inv G (st (lvl eff m)) w → Rel G a1 act → Gro G0 S0 w0 G (st (lvl eff m)) w → Keep G0 S0 G (st (lvl eff m)) → act.defers = act0.defers → wpOps P ops Q (List.range' m (ops.size - m)) act w) :
  ∀ (fuel : Nat) (listed : Array Bool) (act : Act) (w : World),fuel = mQ ops.size listed → listed.size = ops.size → (∃ G aD,Mid ops xs m a v st eff bid tid G0 S0 w0 act0 listed act w G aD) →
   (∀ k,m ≤ k → k < ops.size → listed.getD k true = false) →
   (∀ i,listed.getD i false = true → ∀ o,ops[i]? = some o → ∀ k ∈ eU o,listed.getD k false = true) →
   wpAny P .any ops Q fuel listed act w:=by
 obtain ⟨_,hm,hxl,hsp⟩:=oK hok
 have hfinal : ∀ (listed : Array Bool) (act : Act) (w : World),(∀ i,i < m → listed.getD i true = true) → (∃ G aD,Mid ops xs m a v st eff bid tid G0 S0 w0 act0 listed act w G aD) → wpOps P ops Q (List.range' m (ops.size - m)) act w:=by
  rintro listed act w hall ⟨G,aD,M⟩
  have hcnt : cnt eff m listed = lvl eff m:=by
   unfold cnt lvl
   congr 1
   apply List.filter_congr
   intro i hi
   rw [hall i (List.mem_range.1 hi)]
   simp
  have haD : aD = a1 := aFl (by rw [M.len, hlen]) fun t => by
   by_cases hex : ∃ i,i < m ∧ dO xs i = some t
   ·obtain ⟨i,hi,hd⟩:=hex
    rw [M.done i hi (hall i hi) t hd,(h1 i hi t hd).2]
   ·have hno : ∀ i,i < m → dO xs i ≠ some t:=fun i hi he => hex ⟨i,hi,he⟩
    rw [M.rest t fun i hi _ => hno i hi,h0 t hno]
  have hi:=M.inv
  have hg:=M.gro
  have hk:=M.keep
  rw [hcnt] at hi hg hk
  exact hend G act w hi (haD ▸ M.rel) hg hk M.def_
 intro fuel
 induction fuel with
 | zero =>
  intro listed act w hf hs hM h3 h4
  have hall : ∀ i,i < ops.size → listed.getD i true = true:=by
   intro i hi
   cases hl : listed.getD i true with
   | true => rfl
   | false => have:=aDa hi hl; omega
  have hmn : m = ops.size:=by
   rcases Nat.lt_or_ge m ops.size with h | h
   ·have:=hall m h
    rw [h3 m (Nat.le_refl _) h] at this
    cases this
   ·omega
  have hfin:=hfinal listed act w (fun i hi => hall i (by omega)) hM
  have hr : ops.size - m = 0:=by omega
  rw [hr] at hfin
  refine ⟨?_,by simpa [wpOps] using hfin⟩
  apply List.eq_nil_iff_forall_not_mem.2
  intro j hj
  obtain ⟨hj1,o,ho,_⟩:=oJ.1 hj
  have hjn : j < ops.size:=(Array.getElem?_eq_some_iff.1 ho).1
  rw [hall j hjn] at hj1
  cases hj1
 | succ fuel ih =>
  intro listed act w hf hs hM h3 h4
  by_cases hall : ∀ i,i < m → listed.getD i true = true
  ·have hfin:=hfinal listed act w hall hM
   have hcount : mQ ops.size listed = ops.size - m:=by
    unfold mQ
    have : (List.range ops.size).filter (fun i => !listed.getD i true) = List.range' m (ops.size - m):=by
     have e0 : List.range ops.size = List.range m ++ List.range' m (ops.size - m):=by
      have e:=List.range'_append (s:=0) (m:=m) (n:=ops.size - m) (step:=1)
      rw [Nat.zero_add,Nat.one_mul] at e
      rw [List.range_eq_range',List.range_eq_range',e]
      congr 1
      omega
     rw [e0,List.filter_append]
     have e1 : (List.range m).filter (fun i => !listed.getD i true) = []:=by
      apply List.filter_eq_nil_iff.2
      intro i hi
      rw [hall i (List.mem_range.1 hi)]
      decide
     have e2 : (List.range' m (ops.size - m)).filter (fun i => !listed.getD i true) = List.range' m (ops.size - m):=by
      apply List.filter_eq_self.2
      intro i hi
      have:=List.mem_range'_1.1 hi
      rw [h3 i (by omega) (by omega)]
      decide
     rw [e1,e2,List.nil_append]
    rw [this,List.length_range']
   rw [hf,hcount]
   exact aEj hok (ops.size - m) m listed act w (by omega) (Nat.le_refl _) hs hall h3 hfin
  ·have hne : ∃ i,i < m ∧ listed.getD i true = false:=by
    simp only [Classical.not_forall] at hall
    obtain ⟨i,hi,h⟩:=hall
    exact ⟨i,hi,by simpa using h⟩
   obtain ⟨i0,hi0,hl0⟩:=hne
   obtain ⟨j0,hj0⟩:=aDb hs (fun i hi => by obtain ⟨o,x,ho,_,h,_⟩:=hsp i hi; exact ⟨o,ho,h⟩) i0 (by omega) hl0
   refine ⟨fun he => (by rw [he] at hj0; cases hj0),fun i hi => ?_⟩
   obtain ⟨hli,o,hoi,hall'⟩:=oJ.1 hi
   have hin : i < ops.size:=(Array.getElem?_eq_some_iff.1 hoi).1
   obtain ⟨o',x,ho',hx,hlt,hmain,haft,haft'⟩:=hsp i hin
   rw [hoi] at ho'
   cases ho'
   have him : i < m:=by
    rcases Nat.lt_or_ge i m with h | h
    ·exact h
    ·exfalso
     rcases Nat.lt_or_ge m i with hlt' | hge'
     ·have h5:=hall' (i - 1) (haft' hlt')
      have h6:=h3 (i - 1) (by omega) (by omega)
      have : i - 1 < listed.size:=by omega
      simp [this] at h5 h6
      rw [h5] at h6
      cases h6
     ·have him' : m = i := by omega
      have hdown : ∀ r k,k + r = m → k < m → listed.getD k false = true:=by
       intro r
       induction r using Nat.strongRecOn with
       | ind r ihr =>
        intro k hk hkm
        obtain ⟨s,os,hs1,hs2,hos,hks⟩:=haft him' k hkm
        rcases Nat.lt_or_ge s m with hsm | hsm
        ·exact h4 s (ihr (m - s) (by omega) s (by omega) hsm) os hos k hks
        ·have : s = i := by omega
         subst this
         rw [hoi] at hos
         cases hos
         exact hall' k hks
      have h5:=hdown (m - i0) i0 (by omega) hi0
      have : i0 < listed.size:=by omega
      simp [this] at h5 hl0
      rw [h5] at hl0
      cases hl0
   obtain ⟨hdist,hgd,hlook,hlch,_⟩:=hmain him
   obtain ⟨G,aD,M⟩:=hM
   have hcomp : cL P ops o = some x:=aGf hc i o x (by simpa using hoi) hx
   obtain ⟨hcop,hdst,_⟩:=cN hcomp
   have hdO : dO xs i = x.dst:=by simp [dO,hx]
   have hgt : ∀ k,k < ops.size → listed.getD k false = true → listed.getD k true = true:=fun k hk h => by
    have hks : k < listed.size:=by omega
    simp [hks] at h ⊢; exact h
   -- what it reads is what it will be
   have hagree : ∀ t,(∀ k,k < m → dO xs k = some t → k ∈ eU o) → aD.getD t .junk = a1.getD t .junk:=by
    intro t hw
    by_cases hex : ∃ k,k < m ∧ dO xs k = some t
    ·obtain ⟨k,hk,hd⟩:=hex
     have hkl:=hgt k (by omega) (hall' k (hw k hk hd))
     rw [M.done k hk hkl t hd,(h1 k hk t hd).2]
    ·have hno : ∀ k,k < m → dO xs k ≠ some t:=fun k hk he => hex ⟨k,hk,he⟩
     rw [M.rest t fun k hk _ => hno k hk,h0 t hno]
   have hopd : ∀ y ∈ x.op.opds,evd aD y = evd (am i) y:=by
    intro y hy
    cases y with
    | con z => rfl
    | tmp t =>
     show aD.getD t .junk = (am i).getD t .junk
     by_cases hex : ∃ k,k < m ∧ dO xs k = some t
     ·obtain ⟨k,hk,hd⟩:=hex
      rcases hlook t hy k hk hd with hka | ⟨ok,hok',hka⟩
      ·have hkl := hgt k (by omega) (hall' k hka)
       rw [(ham i him t).2 ⟨k,hlt k hka,hd⟩,M.done k hk hkl t hd,(h1 k hk t hd).2]
      ·-- it is turned later
       have hki : i < k:=by
        obtain ⟨ok2,_,hok2,_,hlt2,_⟩:=hsp k (by omega)
        rw [hok'] at hok2
        cases hok2
        exact hlt2 i hka
       have huniq : ∀ k',k' < m → dO xs k' = some t → k' = k:=by
        intro k' hk' hd'
        obtain ⟨_,x2,_,hx2,_,hmain2,_⟩:=hsp k (by omega)
        by_cases he : k' = k
        ·exact he
        ·exact absurd hd' ((hmain2 hk).1 k' hk' he t (by have:=hd; simp only [dO,hx2,Option.bind_some] at this; exact this))
       have hkl : listed.getD k true = false:=by
        cases hl : listed.getD k true with
        | false => rfl
        | true =>
         exfalso
         have hks : k < listed.size:=by omega
         have hl' : listed.getD k false = true:=by simp [hks] at hl ⊢; exact hl
         have:=h4 k hl' ok hok' i hka
         rw [hgt i (by omega) this] at hli
         cases hli
       rw [(ham i him t).1 fun k' hk' hd' => by have:=huniq k' (by omega) hd'; omega]
       exact M.rest t fun k' hk' hl' hd' => by
        have:=huniq k' hk' hd'
        rw [this,hkl] at hl'
        cases hl'
     ·have hno : ∀ k,k < m → dO xs k ≠ some t:=fun k hk he => hex ⟨k,hk,he⟩
      rw [M.rest t fun k hk _ => hno k hk,(ham i him t).1 fun k hk => hno k (by omega)]
   have hguard : bG x.guard aD = bG x.guard a1:=by
    cases hgx : x.guard with
    | none => rfl
    | some g =>
     obtain ⟨d,wnt⟩:=g
     simp only [bG]
     rw [hagree d fun k hk hd => hgd d wnt hgx k hk hd]
   -- how many have turned something
   have hcle : cnt eff m listed ≤ lvl eff m:=by
    unfold cnt lvl
    rw [← List.filter_filter]
    exact (List.filter_sublist).length_le
   have hupc : cnt eff m listed ≤ up i:=by
    rcases hup i him with h | ⟨j,hj,hej,hij,hle⟩
    ·omega
    ·refine Nat.le_trans ?_ hle
     have hjl : listed.getD j true = false:=by
      cases hl : listed.getD j true with
      | false => rfl
      | true =>
       exfalso
       have hjs : j < listed.size:=by omega
       have hl' : listed.getD j false = true:=by simp [hjs] at hl ⊢; exact hl
       have:=hij.listed h4 hl'
       rw [hgt i (by omega) this] at hli
       cases hli
     rw [← aFc (eff:=eff) (Nat.le_of_lt hj)]
     unfold cnt
     rw [← List.countP_eq_length_filter,← List.countP_eq_length_filter]
     refine List.countP_mono_left fun k hk hkp => ?_
     have hkm:=List.mem_range.1 hk
     simp only [Bool.and_eq_true] at hkp
     have hkj : k < j:=by
      rcases Nat.lt_trichotomy k j with h | h | h
      ·exact h
      ·subst h; rw [hjl] at hkp; cases hkp.1
      ·exfalso
       have hks : k < listed.size:=by omega
       have hl' : listed.getD k false = true:=by have:=hkp.1; simp [hks] at this ⊢; exact this
       have:=vK hok h4 k hkm (hE k hkm hkp.2) (fun o2 ho2 => h4 k hl' o2 ho2) j h (hE j hj hej)
       rw [hgt j (by omega) this] at hjl
       cases hjl
     simp [hkj,hkp.2]
   have hlv : eff i = true → cnt eff m listed = lvl eff i:=by
    intro he
    rw [← aFc (eff:=eff) (Nat.le_of_lt him)]
    unfold cnt
    congr 1
    apply List.filter_congr
    intro j hj
    have hjm:=List.mem_range.1 hj
    cases hej : eff j with
    | false => simp
    | true =>
     simp only [Bool.and_true]
     have hlj:=hE j hjm hej
     have hlI:=hE i him he
     by_cases hji : j < i
     ·have := vK hok h4 i him hlI (fun o2 ho2 => by rw [hoi] at ho2; cases ho2; exact hall') j hji hlj
      rw [hgt j (by omega) this]; simp [hji]
     ·have : listed.getD j true = false:=by
       by_cases hje : j = i
       ·rw [hje]; exact hli
       ·cases hl : listed.getD j true with
        | false => rfl
        | true =>
         exfalso
         have hjs : j < listed.size:=by omega
         have hl' : listed.getD j false = true:=by simp [hjs] at hl ⊢; exact hl
         have:=vK hok h4 j hjm hlj (fun o2 ho2 => h4 j hl' o2 ho2) i (by omega) hlI
         rw [hgt i (by omega) this] at hli
         cases hli
      rw [this]; simp [hji]
   -- one more
   have hnext : ∀ (G' : Gh) (u : Value) (w' : World),VR G' (v i) u → Inv G' (st (cnt eff m listed + if eff i then 1 else 0)) w' → Gro G (st (cnt eff m listed)) w G' (st (cnt eff m listed + if eff i then 1 else 0)) w' → Keep G0 S0 G' (st (cnt eff m listed + if eff i then 1 else 0)) →
     (∀ k,k < m → k ≠ i → listed.getD k true = false → ∀ id,bid k = some id → G'.al id = none) → (∀ k,k < m → k ≠ i → listed.getD k true = false → ∀ id,tid k = some id → ∀ n,G'.tb id n = none) → wpAny P .any ops Q fuel (listed.setIfInBounds i true) (act.put o.dst u) w':=by
    intro G' u w' hv hI' hg' hkp hbx htk
    have hset : ∀ k,k ≠ i → (listed.setIfInBounds i true).getD k true = listed.getD k true:=fun k hk => by
     have hne' : i ≠ k:=fun e => hk e.symm
     simp [Array.getElem?_setIfInBounds_ne hne']
    have hcs:=aGu (eff:=eff) him (by omega : i < listed.size) hli
    refine ih _ _ _ ?_ (by simp [hs]) ⟨G',putA aD x.dst (v i),⟨by rw [hcs]; exact hI',hdst ▸ (M.rel.mono hg'.le).put x.dst hv,by rw [jQ,M.len],?_,?_,?_,?_,by rw [hcs]; exact M.gro.trans hg',by rw [hcs]; exact hkp,?_⟩⟩ ?_ ?_
    ·have:=aCZ hin hs hli
     omega
    ·intro k hk hkl t hkt
     by_cases hki : k = i
     ·subst hki
      rw [hdO] at hkt
      rw [hkt,jW _ _ _ (by rw [M.len]; exact (h1 k hk t (by rw [hdO,hkt])).1)]
     ·rw [hset k hki] at hkl
      rw [iL _ _ _ _ fun e => hdist k hk hki t e hkt]
      exact M.done k hk hkl t hkt
    ·intro t hno
     have hdt : x.dst ≠ some t:=by
      have := hno i him (by have : i < listed.size := by omega
                            simp [Array.getElem?_setIfInBounds, this])
      rw [hdO] at this
      exact this
     rw [iL _ _ _ _ hdt]
     refine M.rest t fun k hk hkl => ?_
     by_cases hki : k = i
     ·subst hki; rw [hdO]; exact hdt
     ·exact hno k hk (by rw [hset k hki]; exact hkl)
    ·intro k hk hkl id hid
     by_cases hki : k = i
     ·subst hki
      have : k < listed.size:=by omega
      simp [Array.getElem?_setIfInBounds,this] at hkl
     ·rw [hset k hki] at hkl
      exact hbx k hk hki hkl id hid
    ·intro k hk hkl id hid
     by_cases hki : k = i
     ·subst hki
      have : k < listed.size:=by omega
      simp [Array.getElem?_setIfInBounds,this] at hkl
     ·rw [hset k hki] at hkl
      exact htk k hk hki hkl id hid
    ·rw [← M.def_]; cases o.dst <;> rfl
    ·intro k hk hkn
     rw [hset k (by omega)]
     exact h3 k hk hkn
    ·intro k hkl ok hok' j hj
     have hjl : listed.getD j false = true:=by
      by_cases hki : k = i
      ·subst hki
       rw [hoi] at hok'
       cases hok'
       exact hall' j hj
      ·have hne' : i ≠ k:=fun e => hki e.symm
       exact h4 k (by simpa [Array.getElem?_setIfInBounds_ne hne'] using hkl) ok hok' j hj
     by_cases hji : j = i
     ·subst hji
      have : j < listed.size:=by omega
      simp [Array.getElem?_setIfInBounds,this]
     ·have hne' : i ≠ j:=fun e => hji e.symm
      simpa [Array.getElem?_setIfInBounds_ne hne'] using hjl
   have hidx : ∀ k id,k < m → bid k = some id → ∀ cs,(st (cnt eff m listed)).bx[id]? = some cs → id < (st (cnt eff m listed)).bx.length:=fun k id _ _ cs h => (List.getElem?_eq_some_iff.1 h).1
   unfold wpOp
   simp only [hoi]
   rcases hF i him x hx with ⟨hw,hvi,hef,hbi,hti⟩ | ⟨hw,hFi⟩
   ·rw [if_neg (by rw [cU hcomp M.rel (hguard.trans hw)]; simp)]
    refine hnext G undef w (by rw [hvi]; exact VR.undef G) ?_ ?_ (by rw [hef]; exact M.keep) (fun k hk hki hkl => M.bx k hk hkl) (fun k hk hki hkl => M.tk k hk hkl)
    ·rw [hef]; exact M.inv
    ·rw [hef]; exact .refl _ _ _
   ·rw [if_pos (cU hcomp M.rel (hguard.trans hw))]
    refine .inl ?_
    have hz : eff i = false → (cnt eff m listed + if eff i then 1 else 0) = cnt eff m listed:=fun h => by rw [h]; rfl
    -- a step by evOp
    have hop : ∀ k',evOp orc x.op (am i) (st (cnt eff m listed)) = some (v i,st k') → k' = (cnt eff m listed + if eff i then 1 else 0) → (∀ k id,k < m → bid k = some id → id < (st (cnt eff m listed)).bx.length) → (∀ k id,k < m → tid k = some id → id < (st (cnt eff m listed)).lv.length) → o.wp P act w (wpAny P .any ops Q fuel (listed.setIfInBounds i true)) Q:=by
     rintro k' hev rfl hbl htl
     rw [← aDi x.op _ hopd] at hev
     exact aAV ho hcop hev M.inv M.rel fun G' u w' hv hI' hg' hkp => hnext G' u w' hv hI' hg' (M.keep.trans hkp)
      (fun k hk hki hkl id hid => hkp.al id (hbl k id hk hid) (M.bx k hk hkl id hid)) (fun k hk hki hkl id hid => hkp.tb id (htl k id hk hid) (M.tk k hk hkl id hid))
    -- where the boxes that were laid ahead lie
    have hbl : ∀ k id,k < m → bid k = some id → id < (st (cnt eff m listed)).bx.length:=by
     intro k id hk hid
     have hkx : k < xs.length:=by omega
     rcases hF k hk _ (List.getElem?_eq_getElem hkx) with ⟨_,_,_,h,_⟩ | ⟨_,⟨_,h,_⟩ | ⟨_,_,cs,id',h,_,_,hall2⟩ | ⟨_,h,_⟩ | ⟨_,h,_⟩⟩ <;> rw [hid] at h <;> cases h
     exact hall2 _ hcle
    have htl : ∀ k id,k < m → tid k = some id → id < (st (cnt eff m listed)).lv.length:=by
     intro k id hk hid
     have hkx : k < xs.length:=by omega
     rcases hF k hk _ (List.getElem?_eq_getElem hkx) with ⟨_,_,_,_,h⟩ | ⟨_,⟨_,_,h,_⟩ | ⟨_,h,_⟩ | ⟨_,_,s,els,id',h,_,_,hall2⟩ | ⟨_,_,h,_⟩⟩ <;> rw [hid] at h <;> cases h
     exact hall2 _ hcle
    rcases hFi with ⟨hef,hbi,hti,hv⟩ | ⟨hef,hti,cs,id,hbi,hvi,hv,_⟩ | ⟨hef,hbi,s,els,id,hti,hvi,hv,_⟩ | ⟨hef,hbi,hti,hle,hv⟩
    ·refine hop (cnt eff m listed) ?_ (by rw [hef]; rfl) hbl htl
     rcases hv _ hupc with h5 | ⟨f,as1,h5,h6⟩
     ·rw [cQ h5 (fun _ _ h => by cases h)]; rfl
     ·rw [oQ h5]; exact h6
    ·obtain ⟨h5,h6⟩:=hv _ hupc
     rw [← wD x.op _ hopd] at h5
     obtain ⟨us,T,hrun,hrel⟩:=jF hcop (fun _ => rfl) (M.rel.opd M.inv.gl) M.inv h5
     obtain ⟨k1,k2,k3⟩:=aFo M.inv h6 (M.bx i him hli id hbi) hrel
     unfold Oper.wp
     rw [hrun]
     refine hnext (G.box id w.heap.size) _ _ (by rw [hvi]; exact .ptr _ _ _ k1) (by rw [hz hef]; exact k2) (by rw [hz hef]; exact k3) (by rw [hz hef]; exact ⟨M.keep.bl, M.keep.ll, fun b hb' h0 => by
      simp only [Gh.box]
      rw [if_neg (by have:=hbn i id him hbi; omega)]
      exact M.keep.al b hb' h0, M.keep.tb, M.keep.lvn⟩) (fun k hk hki hkl id' hid => ?_) (fun k hk hki hkl => M.tk k hk hkl)
     simp only [Gh.box]
     rw [if_neg (by rintro rfl; exact hki (hb _ _ _ hk him hid hbi))]
     exact M.bx k hk hkl id' hid
    ·obtain ⟨h5,h6⟩:=hv _ hupc
     rw [← wD x.op _ hopd] at h5
     obtain ⟨us,T,c,hrun,hn,hsz,hss,hvv⟩:=jF hcop (fun _ => rfl) (M.rel.opd M.inv.gl) M.inv h5
     have htn:=M.tk i him hli id hti
     obtain ⟨k1,k2,k3⟩:=xO M.inv _ id els s c us T h6 (fun _ _ _ => Iff.rfl) (fun n v h => by rw [htn n] at h; cases h) hn hsz hss hvv
     unfold Oper.wp
     rw [hrun]
     refine hnext (G.lit id els.length w.heap.size s c us) _ _ (by rw [hvi]; exact k1) (by rw [hz hef]; exact k2) (by rw [hz hef]; exact k3) (by rw [hz hef]; exact ⟨M.keep.bl, M.keep.ll, M.keep.al, fun t ht' h0 n => by
      simp only [Gh.lit]
      rw [if_neg (by rintro ⟨rfl,_⟩; have:=htnn i _ him hti; omega)]
      exact M.keep.tb t ht' h0 n, M.keep.lvn⟩) (fun k hk hki hkl => M.bx k hk hkl) (fun k hk hki hkl id' hid n => ?_)
     simp only [Gh.lit]
     rw [if_neg (by rintro ⟨rfl,_⟩; exact hki (ht _ _ _ hk him hid hti))]
     exact M.tk k hk hkl id' hid n
    ·rw [← hlv hef] at hv
     exact hop _ hv (by rw [hef]; rfl) hbl htl
theorem aCc (ho : eE P orc) (hok : okD ops xs m = true) (hc : ops.toList.mapM (cL P ops) = some xs) (hlen : a1.length = a.length)
  (h1 : ∀ i,i < m → ∀ t,dO xs i = some t → t < a.length ∧ a1.getD t .junk = v i)
  (h0 : ∀ t,(∀ i,i < m → dO xs i ≠ some t) → a1.getD t .junk = a.getD t .junk)
  (am : Nat → List AV) (ham : ∀ i,i < m → ∀ t,((∀ k,k < i → dO xs k ≠ some t) → (am i).getD t .junk = a.getD t .junk) ∧ ((∃ k,k < i ∧ dO xs k = some t) → (am i).getD t .junk = a1.getD t .junk))
  (hF : ∀ i,i < m → ∀ x,xs[i]? = some x → aBE orc a1 (am i) st (lvl eff m) (lvl eff i) x (v i) (eff i) (bid i) (tid i))
  (hE : ∀ i,i < m → eff i = true → kF ops i = true)
  (hb : ∀ i j id,i < m → j < m → bid i = some id → bid j = some id → i = j)
  (ht : ∀ i j id,i < m → j < m → tid i = some id → tid j = some id → i = j)
  (hbn : ∀ i id,i < m → bid i = some id → S0.bx.length ≤ id) (htnn : ∀ i id,i < m → tid i = some id → S0.lv.length ≤ id)
  (hend : ∀ G act w,Inv G (st (lvl eff m)) w → Rel G a1 act → Gro G0 S0 w0 G (st (lvl eff m)) w → Keep G0 S0 G (st (lvl eff m)) → act.defers = act0.defers → wpOps P ops Q (List.range' m (ops.size - m)) act w) :
  ∀ (fuel : Nat) (listed : Array Bool) (act : Act) (w : World),fuel = mQ ops.size listed → listed.size = ops.size → (∃ G aD,Mid ops xs m a v st eff bid tid G0 S0 w0 act0 listed act w G aD) →
   (∀ k,m ≤ k → k < ops.size → listed.getD k true = false) →
   (∀ i,listed.getD i false = true → ∀ o,ops[i]? = some o → ∀ k ∈ eU o,listed.getD k false = true) →
   wpAny P .any ops Q fuel listed act w :=
 aAv (fun _ => lvl eff m) (fun _ _ => .inl (Nat.le_refl _)) ho hok hc hlen h1 h0 am ham (fun i hi x hx => (hF i hi x hx).toU) hE hb ht hbn htnn hend
end
end
section
open Go.RowKit
def gY (a1 : List AV) (x : aT) : AV:=match x.dst with
 | some d => a1.getD d .junk
 | none => .tup []
def aDO : List (Nat × Nat) → List (Nat × Nat) → Bool
 | [],[] => true
 | (a,b) :: l,(c,d) :: m => Nat.beq a c && (Nat.beq b d && aDO l m)
 | _,_ => false
theorem aBS : ∀ (l m : List (Nat × Nat)),aDO l m = true → l = m
 | [],[],_ => rfl
 | (a,b) :: l,(c,d) :: m,h => by
  simp only [aDO,Bool.and_eq_true] at h
  rw [Nat.eq_of_beq_eq_true h.1,Nat.eq_of_beq_eq_true h.2.1,aBS l m h.2.2]
 | [],_ :: _,h => by cases h
 | _ :: _,[],h => by cases h
def aEb : List (List AV) → List (List AV) → Bool
 | [],[] => true
 | x :: l,y :: m => beqL x y && aEb l m
 | _,_ => false
theorem aCw : ∀ (l m : List (List AV)),aEb l m = true → l = m
 | [],[],_ => rfl
 | x :: l,y :: m,h => by
  simp only [aEb,Bool.and_eq_true] at h
  rw [jH _ _ h.1,aCw l m h.2]
 | [],_ :: _,h => by cases h
 | _ :: _,[],h => by cases h
def same (s t : St) : Bool:=aDO s.lv t.lv && aEb s.bx t.bx
theorem aFY {s t : St} (h : same s t = true) : s = t:=by
 simp only [same,Bool.and_eq_true] at h
 cases s; cases t
 simp only [St.mk.injEq]
 exact ⟨aCw _ _ h.2,aBS _ _ h.1⟩
noncomputable def aGS (orc : Clr) (a1 am : List AV) (x : aT) (st : St) : Option (Option St) :=
 match bG x.guard a1 with
 | some false => some none
 | some true => match aop x.op (evd am) st with
  | some (.val _) => some none
  | some (.box _) => some none
  | some (.lit _ _) => some none
  | some (.call f xs) => match orc f xs st with
   | some (v,none) => if v.beq (gY a1 x) then some none else none
   | some (v,some st') => if v.beq (gY a1 x) then some (some st') else none
   | none => none
  | some (.put _ _) => match evOp orc x.op am st with
   | some (v,st') => if v.beq (gY a1 x) then some (some st') else none
   | none => none
  | some (.app _ _ _ _) => match evOp orc x.op am st with
   | some (v,st') => if v.beq (gY a1 x) then some (some st') else none
   | none => none
  | _ => none
 | none => none
def uC (a1 am : List AV) (x : aT) : List AV:=putA am x.dst (gY a1 x)
def uW (a1 : List AV) : List aT → List AV → Nat → List AV
 | [],am,_ => am
 | _ :: _,am,0 => am
 | x :: l,am,i + 1 => uW a1 l (uC a1 am x) i
noncomputable def aBJ (orc : Clr) (a1 : List AV) : List aT → List AV → St → Option (List Bool × List St)
 | [],_,_ => some ([],[])
 | x :: l,am,st => match aGS orc a1 am x st with
  | none => none
  | some none => match aBJ orc a1 l (uC a1 am x) st with
   | some (fs,ss) => some (false :: fs,ss)
   | none => none
  | some (some st') => match aBJ orc a1 l (uC a1 am x) st' with
   | some (fs,ss) => some (true :: fs,st' :: ss)
   | none => none
def oT (a1 : List AV) (x : aT) : Option Nat :=
 match bG x.guard a1,x.op,gY a1 x with
 | some true,.box _,.ptr id 0 => some id
 | _,_,_ => none
def oI (a1 : List AV) (x : aT) : Option Nat :=
 match bG x.guard a1,x.op,gY a1 x with
 | some true,.bsl _ _ _ _ _,.sl _ (some id) => some id
 | _,_,_ => none
noncomputable def chk1 (orc : Clr) (n : Nat) (a1 am : List AV) (n0 t0 : Nat) (sts : List St) (eff : Bool) (x : aT) : Bool :=
 (match x.dst with | some d => decide (d < n) | none => true) &&
 match bG x.guard a1 with
 | some false => !eff && (gY a1 x).beq (.tup [])
 | some true =>
  if eff then (match x.op with | .store _ _ _ | .call _ _ | .app _ _ _ _ _ => true | _ => false) else
  match x.op with
  | .box _ => (match gY a1 x with
   | .ptr id 0 => decide (n0 ≤ id) && sts.all fun st => match aop x.op (evd am) st,st.bx[id]? with
    | some (.box cs),some cs' => beqL cs' cs
    | _,_ => false
   | _ => false)
  | .bsl _ _ _ _ _ => (match gY a1 x with
   | .sl els (some id) => decide (t0 ≤ id) && sts.all fun st => match aop x.op (evd am) st,st.lv[id]? with
    | some (.lit s els'),some (n',s') => beqL els' els && n' == els.length && s' == s
    | _,_ => false
   | _ => false)
  | _ => sts.all fun st => match aop x.op (evd am) st with
   | some (.val u) => u.beq (gY a1 x)
   | some (.call f xs) => match orc f xs st with
    | some (u,none) => u.beq (gY a1 x)
    | _ => false
   | _ => false
 | none => false
def aGU (x : aT) : Bool:=match x.op with | .box _ => true | _ => false
def aGT (x : aT) : Bool:=match x.op with | .bsl _ _ _ _ _ => true | _ => false
structure Memo where
 f : FuncId
 xs : List AV
 S : St
 v : AV
 T : Option St
def lkM : List Memo → FuncId → List AV → St → Option (AV × Option St)
 | [],_,_,_ => none
 | e :: l,f,xs,S => bif Nat.beq e.f f && (beqL e.xs xs && same e.S S) then some (e.v,e.T) else lkM l f xs S
def orcM (lg : List Memo) (orc : Clr) : Clr:=fun f xs S => match lkM lg f xs S with
 | some r => some r
 | none => orc f xs S
theorem aGc {orc : Clr} {lg : List Memo} (h : ∀ e ∈ lg,orc e.f e.xs e.S = some (e.v,e.T)) : orcM lg orc = orc:=by
 funext f xs S
 unfold orcM
 have key : ∀ (l : List Memo),(∀ e ∈ l,orc e.f e.xs e.S = some (e.v,e.T)) → ∀ r,lkM l f xs S = some r → orc f xs S = some r:=by
  intro l
  induction l with
  | nil => intro _ r h; cases h
  | cons e l ih =>
   intro hl r hr
   simp only [lkM] at hr
   cases hc : (Nat.beq e.f f && (beqL e.xs xs && same e.S S)) with
   | true =>
    rw [hc,cond_true] at hr
    cases hr
    simp only [Bool.and_eq_true] at hc
    have h0:=hl e (by simp)
    rw [Nat.eq_of_beq_eq_true hc.1,jH _ _ hc.2.1,aFY hc.2.2] at h0
    exact h0
   | false =>
    rw [hc,cond_false] at hr
    exact ih (fun e he => hl e (List.mem_cons_of_mem _ he)) r hr
 split
 ·rename_i r hr
  exact (key lg h r hr).symm
 ·rfl
noncomputable def pP (orc : Clr) : List aT → List AV → St → Nat → Nat → List Memo → Option (List AV × St × List Memo)
 | [],a,S,_,_,lg => some (a,S,lg)
 | o :: l,a,S,b,t,lg =>
  match bG o.guard a with
  | some true => match aop o.op (evf a) S with
   | some (.box cs) => pP orc l (putA a o.dst (.ptr b 0)) ⟨S.bx.set b cs,S.lv⟩ (b + 1) t lg
   | some (.lit s els) => pP orc l (putA a o.dst (.sl els (some t))) ⟨S.bx,S.lv.set t (els.length,s)⟩ b (t + 1) lg
   | some (.call f xs) => match orc f xs S with
    | some (v,T) => fv v fun v' => putK a o.dst v' fun a' => pP orc l a' (T.getD S) b t (⟨f,xs,S,v,T⟩ :: lg)
    | none => none
   | _ => match evOp orc o.op a S with
    | some (v,S') => putK a o.dst v fun a' => pP orc l a' S' b t lg
    | none => none
  | some false => pP orc l (putA a o.dst (.tup [])) S b t lg
  | none => none
noncomputable def xQ (orc0 : Clr) (m : Nat) (xs : List aT) (a : List AV) (S : St) : Option (List AV × St) :=
 let nb:=((xs.take m).filter aGU).length
 let nt:=((xs.take m).filter aGT).length
 match pP orc0 (xs.take m) a ⟨S.bx ++ List.replicate nb [],S.lv ++ List.replicate nt (0,1)⟩ S.bx.length S.lv.length [] with
 | some (a1,S1,lg) =>
  let orc:=orcM lg orc0
  let st0 : St:=⟨S.bx ++ (S1.bx.drop S.bx.length).take nb,S.lv ++ (S1.lv.drop S.lv.length).take nt⟩
  match aBJ orc a1 (xs.take m) a st0 with
  | some (fs,ss) =>
   if ((List.range (xs.take m).length).all fun i => match (xs.take m)[i]? with
       | some x => chk1 orc a.length a1 (uW a1 (xs.take m) a i) S.bx.length S.lv.length (st0 :: ss) (fs.getD i false) x
       | none => false) &&
    decide ((xs.take m).filterMap (oT a1)).Nodup && decide ((xs.take m).filterMap (oI a1)).Nodup then
    evOps orc (xs.drop m) a1 (ss.getLastD st0)
   else none
  | none => none
 | none => none
theorem uK {orc : Clr} : ∀ (l : List aT) (a a' : List AV) (S S' : St) (b t : Nat) (lg lg' : List Memo),pP orc l a S b t lg = some (a',S',lg') → (∀ e ∈ lg,orc e.f e.xs e.S = some (e.v,e.T)) → a'.length = a.length ∧ (∀ t,(∀ x ∈ l,x.dst ≠ some t) → a'.getD t .junk = a.getD t .junk) ∧ ∀ e ∈ lg',orc e.f e.xs e.S = some (e.v,e.T)
 | [],a,a',S,S',b,t,lg,lg',h,hl => by cases h; exact ⟨rfl,fun _ _ => rfl,hl⟩
 | x :: l,a,a',S,S',b,t,lg,lg',h,hl => by
  have key : ∀ v S2 b2 t2 lg2,pP orc l (putA a x.dst v) S2 b2 t2 lg2 = some (a',S',lg') → (∀ e ∈ lg2,orc e.f e.xs e.S = some (e.v,e.T)) → a'.length = a.length ∧ (∀ t,(∀ y ∈ x :: l,y.dst ≠ some t) → a'.getD t .junk = a.getD t .junk) ∧ ∀ e ∈ lg',orc e.f e.xs e.S = some (e.v,e.T):=by
   intro v S2 b2 t2 lg2 h hl2
   obtain ⟨h1,h2,h3⟩:=uK l _ _ _ _ _ _ _ _ h hl2
   refine ⟨by rw [h1,jQ],fun t ht => ?_,h3⟩
   rw [h2 t fun y hy => ht y (List.mem_cons_of_mem _ hy),iL _ _ _ _ (ht x (by simp))]
  simp only [pP] at h
  split at h
  ·split at h
   ·exact key _ _ _ _ _ h hl
   ·exact key _ _ _ _ _ h hl
   ·split at h
    ·rename_i hc
     rw [uI,jV] at h
     refine key _ _ _ _ _ h fun e he => ?_
     rcases List.mem_cons.1 he with rfl | he
     ·exact hc
     ·exact hl e he
    ·cases h
   ·split at h
    ·rw [jV] at h
     exact key _ _ _ _ _ h hl
    ·cases h
  ·exact key _ _ _ _ _ h hl
  ·cases h
theorem uH (f : Bool) (fs : List Bool) (i : Nat) : lvl (fun j => (f :: fs).getD j false) (i + 1) = (if f then 1 else 0) + lvl (fun j => fs.getD j false) i:=by
 unfold lvl
 rw [List.range_succ_eq_map,List.filter_cons]
 have e : ((List.range i).map Nat.succ).filter (fun j => (f :: fs).getD j false) = ((List.range i).filter fun j => fs.getD j false).map Nat.succ:=by
  rw [List.filter_map]
  congr 1
 rw [e]
 cases f <;> simp; omega
theorem aAC {a1 : List AV} : ∀ (l : List aT) (am : List AV) (i : Nat) (t : Nat),i ≤ l.length → ((∀ k x,k < i → l[k]? = some x → x.dst ≠ some t) → (uW a1 l am i).getD t .junk = am.getD t .junk) ∧ ((∃ k x,k < i ∧ l[k]? = some x ∧ x.dst = some t) → t < am.length → (uW a1 l am i).getD t .junk = a1.getD t .junk)
 | [],am,i,t,hi => ⟨fun _ => rfl,fun ⟨k,x,_,hx,_⟩ => by simp at hx⟩
 | y :: l,am,0,t,hi => ⟨fun _ => rfl,fun ⟨k,x,hk,_⟩ => by omega⟩
 | y :: l,am,i + 1,t,hi => by
  obtain ⟨h1,h2⟩:=aAC (a1:=a1) l (uC a1 am y) i t (by simpa using hi)
  refine ⟨fun hno => ?_,fun ⟨k,x,hk,hx,hd⟩ ht => ?_⟩
  ·show (uW a1 l (uC a1 am y) i).getD t .junk = _
   rw [h1 fun k x hk hx => hno (k + 1) x (by omega) (by simpa using hx)]
   exact iL _ _ _ _ (hno 0 y (by omega) rfl)
  ·show (uW a1 l (uC a1 am y) i).getD t .junk = _
   by_cases hex : ∃ k x,k < i ∧ l[k]? = some x ∧ x.dst = some t
   ·exact h2 hex (by simp only [uC,jQ]; exact ht)
   ·rw [h1 fun k x hk hx hd => hex ⟨k,x,hk,hx,hd⟩]
    cases k with
    | zero =>
     simp only [List.getElem?_cons_zero,Option.some.injEq] at hx
     subst hx
     simp only [uC,hd]
     rw [jW _ _ _ ht]
     simp only [gY,hd]
    | succ k => exact absurd ⟨k,x,by omega,by simpa using hx,hd⟩ hex
theorem xT {orc : Clr} {a1 : List AV} : ∀ (l : List aT) (am : List AV) (st : St) (fs : List Bool) (ss : List St),aBJ orc a1 l am st = some (fs,ss) → fs.length = l.length ∧ lvl (fun j => fs.getD j false) l.length = ss.length ∧
  ∀ i x,l[i]? = some x → fs.getD i false = true → bG x.guard a1 = some true ∧ lvl (fun j => fs.getD j false) i + 1 ≤ ss.length ∧ evOp orc x.op (uW a1 l am i) ((st :: ss).getD (lvl (fun j => fs.getD j false) i) default) = some (gY a1 x,(st :: ss).getD (lvl (fun j => fs.getD j false) i + 1) default)
 | [],am,st,fs,ss,h => by cases h; exact ⟨rfl,rfl,fun i x hx => by simp at hx⟩
 | y :: l,am,st,fs,ss,h => by
  simp only [aBJ] at h
  split at h
  ·cases h
  ·rename_i hk
   split at h
   ·rename_i fs' ss' hw
    cases h
    obtain ⟨h1,h2,h3⟩:=xT l _ _ _ _ hw
    refine ⟨by simp [h1],by rw [List.length_cons,uH,h2]; simp,fun i x hx hf => ?_⟩
    cases i with
    | zero => simp at hf
    | succ i =>
     rw [uH]
     simp only [Bool.false_eq_true,if_false,Nat.zero_add]
     exact h3 i x (by simpa using hx) (by simpa using hf)
   ·cases h
  ·rename_i st' hk
   split at h
   ·rename_i fs' ss' hw
    cases h
    obtain ⟨h1,h2,h3⟩:=xT l _ _ _ _ hw
    refine ⟨by simp [h1],by rw [List.length_cons,uH,h2]; simp; omega,fun i x hx hf => ?_⟩
    cases i with
    | zero =>
     simp only [List.getElem?_cons_zero,Option.some.injEq] at hx
     subst hx
     have hl0 : lvl (fun j => (true :: fs').getD j false) 0 = 0:=rfl
     rw [hl0]
     unfold aGS at hk
     have fin : ∀ {z : Option (Option St)},(match evOp orc y.op am st with | some (v,st') => if v.beq (gY a1 y) then some (some st') else none | none => none) = some (some st') → evOp orc y.op am st = some (gY a1 y,st'):=by
      intro _ hh
      split at hh
      ·rename_i v st2 he
       split at hh
       ·rename_i hb
        cases hh
        rw [he,AV.beq_eq _ _ hb]
       ·cases hh
      ·cases hh
     refine ⟨?_,by simp,?_⟩
     ·split at hk
      ·cases hk
      ·rename_i hw'; exact hw'
      ·cases hk
     ·show evOp orc y.op am st = some (gY a1 y,st')
      split at hk
      ·cases hk
      ·split at hk
       ·cases hk
       ·cases hk
       ·cases hk
       ·rename_i f xs hcl
        split at hk
        ·split at hk <;> cases hk
        ·rename_i v st2 he
         split at hk
         ·rename_i hb
          cases hk
          rw [oQ hcl,gT,he,AV.beq_eq _ _ hb]
         ·cases hk
        ·cases hk
       ·exact fin (z:=none) hk
       ·exact fin (z:=none) hk
       ·cases hk
      ·cases hk
    | succ i =>
     obtain ⟨k1,k2,k3⟩:=h3 i x (by simpa using hx) (by simpa using hf)
     rw [uH]
     simp only [if_true]
     refine ⟨k1,by rw [List.length_cons]; omega,?_⟩
     rw [Nat.add_comm 1]
     show evOp orc x.op (uW a1 l (uC a1 am y) i) _ = _
     simpa [List.getD] using k3
   ·cases h
theorem zM {g : aT → Option Nat} : ∀ {l : List aT},(l.filterMap g).Nodup → ∀ (i j : Nat) x y id,l[i]? = some x → l[j]? = some y → g x = some id → g y = some id → i = j:=by
 intro l
 induction l with
 | nil => intro _ i j x y id hx; simp at hx
 | cons z l ih =>
  intro hn i j x y id hx hy h1 h2
  have hmem : ∀ (k : Nat) u,l[k]? = some u → g u = some id → id ∈ l.filterMap g:=fun k u hu hg => List.mem_filterMap.2 ⟨u,List.mem_of_getElem? hu,hg⟩
  have hn' : (l.filterMap g).Nodup:=by
   rw [List.filterMap_cons] at hn
   split at hn
   ·exact hn
   ·exact (List.nodup_cons.1 hn).2
  cases i with
  | zero =>
   cases j with
   | zero => rfl
   | succ j =>
    simp only [List.getElem?_cons_zero,Option.some.injEq] at hx
    subst hx
    rw [List.filterMap_cons,h1] at hn
    exact absurd (hmem j y (by simpa using hy) h2) (List.nodup_cons.1 hn).1
  | succ i =>
   cases j with
   | zero =>
    simp only [List.getElem?_cons_zero,Option.some.injEq] at hy
    subst hy
    rw [List.filterMap_cons,h2] at hn
    exact absurd (hmem i x (by simpa using hx) h1) (List.nodup_cons.1 hn).1
   | succ j => rw [ih hn' i j x y id (by simpa using hx) (by simpa using hy) h1 h2]
theorem vQ : ∀ (ss : List St) (st0 : St),(st0 :: ss).getD ss.length default = ss.getLastD st0
 | [],st0 => rfl
 | s :: ss,st0 => by
  have:=vQ ss s
  simp only [List.getD,List.length_cons,List.getElem?_cons_succ] at this ⊢
  rw [this]
  cases ss <;> rfl
theorem rV {α β : Type} {f : α → Option β} : ∀ {l : List α} {m : List β},l.mapM f = some m → ∀ k,(l.drop k).mapM f = some (m.drop k)
 | l,m,h,0 => h
 | [],m,h,k + 1 => by simp at h; subst h; simp
 | x :: l,m,h,k + 1 => by
  rw [List.mapM_cons] at h
  simp only [Option.bind_eq_bind,Option.bind_eq_some_iff,Option.pure_def,Option.some.injEq] at h
  obtain ⟨y,_,ys,hys,rfl⟩:=h
  exact rV hys k
theorem Run.drawG {P : Program} {orc : Clr} (ho : eE P orc) (hm : P.follows .mixedOrders = true) {md : Md} {id m : Nat} {ops : Array Oper} {xs : List aT} (hok : okD ops xs m = true) (hc : ops.toList.mapM (cL P ops) = some xs) {a a' : List AV} {S S' : St} (he : xQ orc m xs a S = some (a',S')) :
  Run md P (.region id ops true) a S .norm a' S':=by
 intro G act w hI hR
 obtain ⟨hnd,hmle,hxl,hsp⟩:=oK hok
 unfold xQ at he
 simp only [] at he
 split at he
 ·rename_i a1 S1 lg h1
  obtain ⟨hlen,hslots,hlg⟩:=uK _ _ _ _ _ _ _ _ _ h1 (fun e he => by cases he)
  rw [aGc hlg] at he
  obtain ⟨lb,hlb⟩ : ∃ lb,lb = (S1.bx.drop S.bx.length).take ((xs.take m).filter aGU).length:=⟨_,rfl⟩
  obtain ⟨lt,hlt⟩ : ∃ lt,lt = (S1.lv.drop S.lv.length).take ((xs.take m).filter aGT).length:=⟨_,rfl⟩
  rw [← hlb,← hlt] at he
  generalize hst0 : St.mk (S.bx ++ lb) (S.lv ++ lt) = st0 at he
  split at he
  ·rename_i fs ss hw
   split at he
   ·rename_i hchk
    simp only [Bool.and_eq_true,decide_eq_true_eq,List.all_eq_true,List.mem_range] at hchk
    obtain ⟨⟨hchk,hnb⟩,hnt⟩:=hchk
    obtain ⟨hfl,hlv,hef⟩:=xT _ _ _ _ _ hw
    have hml : (xs.take m).length = m:=by simp; omega
    rw [hml] at hchk hlv hfl
    -- the facts
    let eff : Nat → Bool:=fun j => fs.getD j false
    let st : Nat → St:=fun k => (st0 :: ss).getD k default
    let v : Nat → AV:=fun i => match xs[i]? with | some x => gY a1 x | none => .junk
    let bid : Nat → Option Nat:=fun i => match xs[i]? with | some x => oT a1 x | none => none
    let tid : Nat → Option Nat:=fun i => match xs[i]? with | some x => oI a1 x | none => none
    have htk : ∀ i,i < m → (xs.take m)[i]? = xs[i]?:=fun i hi => List.getElem?_take_of_lt hi
    have hst : ∀ k,k ≤ lvl eff m → st k ∈ st0 :: ss:=by
     intro k hk
     have hk' : k < (st0 :: ss).length:=by rw [List.length_cons,← hlv]; exact Nat.lt_succ_of_le hk
     show (st0 :: ss).getD k default ∈ _
     rw [List.getD,List.getElem?_eq_getElem hk']
     exact List.getElem_mem hk'
    let am : Nat → List AV:=fun i => uW a1 (xs.take m) a i
    have hF : ∀ i,i < m → ∀ x,xs[i]? = some x → aBE orc a1 (am i) st (lvl eff m) (lvl eff i) x (v i) (eff i) (bid i) (tid i):=by
     intro i hi x hx
     have hc1:=hchk i hi
     rw [htk i hi,hx] at hc1
     have hvi : v i = gY a1 x:=by show (match xs[i]? with | some x => gY a1 x | none => .junk) = _; rw [hx]
     have hbi : bid i = oT a1 x:=by show (match xs[i]? with | some x => oT a1 x | none => none) = _; rw [hx]
     have hti : tid i = oI a1 x:=by show (match xs[i]? with | some x => oI a1 x | none => none) = _; rw [hx]
     rw [hvi,hbi,hti]
     simp only [chk1,Bool.and_eq_true] at hc1
     obtain ⟨_,hc2⟩:=hc1
     split at hc2
     ·rename_i hwt
      simp only [Bool.and_eq_true,Bool.not_eq_true'] at hc2
      exact .inl ⟨hwt,AV.beq_eq _ _ hc2.2,hc2.1,by simp [oT,hwt],by simp [oI,hwt]⟩
     ·rename_i hwt
      refine .inr ⟨hwt,?_⟩
      split at hc2
      ·rename_i hfi
       obtain ⟨_,k2,k3⟩:=hef i x (by rw [htk i hi]; exact hx) hfi
       refine .inr (.inr (.inr ⟨hfi,?_,?_,by rw [show lvl eff m = ss.length from hlv]; exact k2,k3⟩))
       ·cases hxo : x.op <;> rw [hxo] at hc2 <;> first | (cases hc2; done) | simp [oT,hwt,hxo]
       ·cases hxo : x.op <;> rw [hxo] at hc2 <;> first | (cases hc2; done) | simp [oI,hwt,hxo]
      ·rename_i hfi
       have hfi : eff i = false:=Bool.eq_false_iff.2 hfi
       split at hc2
       ·-- a box
        rename_i y hxo
        split at hc2
        ·rename_i idb hval
         simp only [Bool.and_eq_true,decide_eq_true_eq,List.all_eq_true] at hc2
         obtain ⟨_,hall⟩:=hc2
         have hcs : ∃ cs,∀ k,k ≤ lvl eff m → aop x.op (evd (am i)) (st k) = some (.box cs) ∧ (st k).bx[idb]? = some cs:=by
          have hsame : ∀ s1 s2,aop x.op (evd (am i)) s1 = aop x.op (evd (am i)) s2:=fun s1 s2 => by rw [hxo]; rfl
          have hbox : ∀ stk ∈ st0 :: ss,∃ cs,aop x.op (evd (am i)) stk = some (.box cs) ∧ stk.bx[idb]? = some cs:=by
           intro stk hmem
           have:=hall stk hmem
           split at this
           ·rename_i cs cs' e1 e2
            exact ⟨cs,e1,by rw [e2,jH _ _ this]⟩
           ·cases this
          obtain ⟨cs,hcs,_⟩:=hbox st0 (by simp)
          refine ⟨cs,fun k hk => ?_⟩
          obtain ⟨cs2,h5,h6⟩:=hbox (st k) (hst k hk)
          have e3:=(hsame st0 (st k)).symm.trans hcs
          rw [h5] at e3
          simp only [Option.some.injEq,Res.box.injEq] at e3
          rw [← e3]
          exact ⟨h5,h6⟩
         obtain ⟨cs,hcs⟩:=hcs
         exact .inr (.inl ⟨hfi,by simp [oI,hwt,hxo],cs,idb,by simp [oT,hwt,hxo,hval],hval,hcs⟩)
        ·cases hc2
       ·-- a row
        rename_i s ag z len ps hxo
        split at hc2
        ·rename_i els idb hval
         simp only [Bool.and_eq_true,decide_eq_true_eq,List.all_eq_true] at hc2
         obtain ⟨_,hall⟩:=hc2
         have hrow : ∀ stk ∈ st0 :: ss,aop x.op (evd (am i)) stk = some (.lit s els) ∧ stk.lv[idb]? = some (els.length,s):=by
          intro stk hmem
          have:=hall stk hmem
          split at this
          ·rename_i s' els' n' s'' e1 e2
           simp only [Bool.and_eq_true,beq_iff_eq] at this
           obtain ⟨⟨g1,g2⟩,g3⟩:=this
           have g0:=jH _ _ g1
           have hs' : s' = s:=by
            rw [hxo] at e1
            simp only [aop,Option.bind_eq_some_iff] at e1
            obtain ⟨_,_,e1⟩:=e1
            split at e1
            ·simp only [Option.some.injEq,Res.lit.injEq] at e1; exact e1.1.symm
            ·cases e1
           exact ⟨by rw [e1,g0,hs'],by rw [e2,g2,g3,hs']⟩
          ·cases this
         exact .inr (.inr (.inl ⟨hfi,by simp [oT,hwt,hxo],s,els,idb,by simp [oI,hwt,hxo,hval],hval,fun k hk => hrow (st k) (hst k hk)⟩))
        ·cases hc2
       ·-- what stays
        rename_i hnb' hnl'
        rw [List.all_eq_true] at hc2
        have hb0 : oT a1 x = none:=by
         unfold oT
         split
         ·rename_i y idb e1 e2 e3; exact absurd e2 (hnb' y)
         ·rfl
        have ht0 : oI a1 x = none:=by
         unfold oI
         split
         ·rename_i e1 e2 e3; exact absurd e2 (hnl' _ _ _ _ _)
         ·rfl
        have hone : ∀ k,k ≤ lvl eff m → aop x.op (evd (am i)) (st k) = some (.val (gY a1 x)) ∨ ∃ f as1,aop x.op (evd (am i)) (st k) = some (.call f as1) ∧ gT orc f as1 (st k) = some (gY a1 x,st k):=by
         intro k hk
         have:=hc2 (st k) (hst k hk)
         split at this
         ·rename_i u e1
          exact .inl (by rw [e1,AV.beq_eq _ _ this])
         ·rename_i f as1 e1
          split at this
          ·rename_i u e2
           exact .inr ⟨f,as1,e1,by rw [gT,e2,AV.beq_eq _ _ this]⟩
          ·cases this
         ·cases this
        exact .inl ⟨hfi,hb0,ht0,hone⟩
     ·cases hc2
    -- boxes and rows laid ahead
    have hI0 : Inv G st0 w.drew ∧ Gro G S w G st0 w.drew ∧ Keep G S G st0 ∧ (∀ b,S.bx.length ≤ b → G.al b = none) ∧ ∀ t n,S.lv.length ≤ t → G.tb t n = none:=by
     obtain ⟨k1,k2,k3,k4⟩:=wE hI.drew lb lt
     rw [hst0] at k1 k2
     exact ⟨k1,(Gro.drew G S w).trans k2,by rw [← hst0]; exact ⟨by simp,by simp,fun _ _ h => h,fun _ _ h => h,fun t ht _ => List.getElem?_append_left ht⟩,k3,k4⟩
    obtain ⟨hI1,hg1,hkp1,hal0,htb0⟩:=hI0
    have hdx : ∀ i t,dO xs i = some t → ∃ x,xs[i]? = some x ∧ x.dst = some t:=fun i t h => by
     simp only [dO,Option.bind_eq_some_iff] at h
     exact h
    have hdst : ∀ i,i < m → ∀ t,dO xs i = some t → t < a.length ∧ a1.getD t .junk = v i:=by
     intro i hi t hd
     obtain ⟨x,hx,hxd⟩:=hdx i t hd
     have hc1:=hchk i hi
     rw [htk i hi,hx] at hc1
     simp only [chk1,Bool.and_eq_true,hxd,decide_eq_true_eq] at hc1
     refine ⟨hc1.1,?_⟩
     show _ = (match xs[i]? with | some x => gY a1 x | none => .junk)
     rw [hx]
     simp only [gY,hxd]
    have hslots0 : ∀ t,(∀ i,i < m → dO xs i ≠ some t) → a1.getD t .junk = a.getD t .junk:=by
     intro t hno
     refine hslots t fun x hx hxd => ?_
     obtain ⟨i,hi,hxi⟩:=List.mem_iff_getElem.1 hx
     have him : i < m:=by rw [← hml]; exact hi
     have : xs[i]? = some x:=by rw [← htk i him,List.getElem?_eq_getElem hi,hxi]
     exact hno i him (by simp [dO,this,hxd])
    have hloud : ∀ i,i < m → eff i = true → kF ops i = true:=by
     intro i hi hfi
     obtain ⟨o,x,hoi,hx,_,hmain,_⟩:=hsp i (by omega)
     have hld:=(hmain hi).2.2.2.2
     have hc1:=hchk i hi
     rw [htk i hi,hx] at hc1
     simp only [chk1,Bool.and_eq_true] at hc1
     obtain ⟨_,hc2⟩:=hc1
     have hfi' : fs.getD i false = true:=hfi
     rw [hfi'] at hc2
     split at hc2
     ·simp at hc2
     ·simp only [if_true] at hc2
      have hla : sT x.op = true:=by
       cases hxo : x.op <;> rw [hxo] at hc2 <;> first | rfl | cases hc2
      simpa [kF,hoi] using hld hla
     ·cases hc2
    have hnod : ∀ (g : aT → Option Nat),((xs.take m).filterMap g).Nodup → ∀ i j id,i < m → j < m → (match xs[i]? with | some x => g x | none => none) = some id → (match xs[j]? with | some x => g x | none => none) = some id → i = j:=by
     intro g hn i j id hi hj h1 h2
     obtain ⟨_,x,_,hx,_⟩:=hsp i (by omega)
     obtain ⟨_,y,_,hy,_⟩:=hsp j (by omega)
     rw [hx] at h1
     rw [hy] at h2
     exact zM hn i j x y id (by rw [htk i hi]; exact hx) (by rw [htk j hj]; exact hy) h1 h2
    refine lT hm hnd yC ?_
    have ham : ∀ i,i < m → ∀ t,((∀ k,k < i → dO xs k ≠ some t) → (am i).getD t .junk = a.getD t .junk) ∧ ((∃ k,k < i ∧ dO xs k = some t) → (am i).getD t .junk = a1.getD t .junk):=by
     intro i hi t
     obtain ⟨g1,g2⟩:=aAC (a1:=a1) (xs.take m) a i t (by omega)
     refine ⟨fun hno => g1 fun k x hk hx hd => hno k hk ?_,fun ⟨k,hk,hd⟩ => ?_⟩
     ·rw [htk k (by omega)] at hx
      simp [dO,hx,hd]
     ·obtain ⟨x,hx,hxd⟩:=hdx k t hd
      exact g2 ⟨k,x,hk,by rw [htk k (by omega)]; exact hx,hxd⟩ (hdst k (by omega) t hd).1
    have hbn : ∀ i idb,i < m → bid i = some idb → S.bx.length ≤ idb:=by
     intro i idb hi hid
     obtain ⟨o,x,_,hx,_⟩:=hsp i (by omega)
     have hid' : oT a1 x = some idb:=by
      have : (match xs[i]? with | some x => oT a1 x | none => none) = some idb:=hid
      rw [hx] at this; exact this
     have hc1:=hchk i hi
     rw [htk i hi,hx] at hc1
     simp only [chk1,Bool.and_eq_true] at hc1
     unfold oT at hid'
     split at hid'
     ·rename_i y idb' e1 e2 e3
      cases hid'
      have hfb : fs.getD i false = false:=by
       cases hfe : fs.getD i false with
       | false => rfl
       | true => rw [e1,e2,hfe] at hc1; simp at hc1
      rw [e1,e2,e3,hfb] at hc1
      simp only [Bool.false_eq_true,if_false,Bool.and_eq_true,decide_eq_true_eq] at hc1
      exact hc1.2.1
     ·cases hid'
    have htn : ∀ i idb,i < m → tid i = some idb → S.lv.length ≤ idb:=by
     intro i idb hi hid
     obtain ⟨o,x,_,hx,_⟩:=hsp i (by omega)
     have hid' : oI a1 x = some idb:=by
      have : (match xs[i]? with | some x => oI a1 x | none => none) = some idb:=hid
      rw [hx] at this; exact this
     have hc1:=hchk i hi
     rw [htk i hi,hx] at hc1
     simp only [chk1,Bool.and_eq_true] at hc1
     unfold oI at hid'
     split at hid'
     ·rename_i e1 e2 e3
      cases hid'
      have hfb : fs.getD i false = false:=by
       cases hfe : fs.getD i false with
       | false => rfl
       | true => rw [e1,e2,hfe] at hc1; simp at hc1
      rw [e1,e2,e3,hfb] at hc1
      simp only [Bool.false_eq_true,if_false,Bool.and_eq_true,decide_eq_true_eq] at hc1
      exact hc1.2.1
     ·cases hid'
    refine aCc (a:=a) (a1:=a1) (v:=v) (st:=st) (eff:=eff) (bid:=bid) (tid:=tid) (G0:=G) (S0:=S) (w0:=w) (act0:=act) ho hok hc hlen hdst hslots0 am ham hF hloud (hnod _ hnb) (hnod _ hnt) hbn htn ?_ ops.size (Array.replicate ops.size false) act w.drew ?_ (by simp) ?_ ?_ ?_
    ·intro G' act' w' hI' hR' hg' hk' hd'
     have hlast : st (lvl eff m) = ss.getLastD st0:=by
      show (st0 :: ss).getD (lvl eff m) default = _
      rw [show lvl eff m = ss.length from hlv]
      exact vQ ss st0
     rw [hlast] at hI' hg' hk'
     have hl:=wpOps_eq_wpList (P:=P) (ops:=ops) (Q:=Post .norm a' S' G S act w) (ops.toList.drop m) m (fun j => by simp)
     rw [show (ops.toList.drop m).length = ops.size - m by simp] at hl
     rw [hl]
     have hcd : (ops.toList.drop m).mapM (cL P ops) = some (xs.drop m):=rV hc m
     exact qW ho _ _ a1 a' _ S' hcd he G' act' w' hI' hR' fun G2 act2 w2 k1 k2 k3 k5 k4 => ⟨rfl,G2,k1,k2,hg'.trans k3,hk'.trans k5,k4.trans hd'⟩
    ·unfold mQ
     have : (List.range ops.size).filter (fun i => !(Array.replicate ops.size false).getD i true) = List.range ops.size:=by
      apply List.filter_eq_self.2
      intro i hi
      have:=List.mem_range.1 hi
      simp [this]
     rw [this,List.length_range]
    ·have hcnt : cnt eff m (Array.replicate ops.size false) = 0:=by
      unfold cnt
      rw [List.length_eq_zero_iff,List.filter_eq_nil_iff]
      intro i hi
      have:=List.mem_range.1 hi
      have : i < ops.size:=by omega
      simp [this]
     have hs0 : st 0 = st0:=rfl
     refine ⟨G,a,⟨by rw [hcnt,hs0]; exact hI1,hR,rfl,fun i hi hl => ?_,fun _ _ => rfl,?_,?_,by rw [hcnt,hs0]; exact hg1,by rw [hcnt,hs0]; exact hkp1,rfl⟩⟩
     ·have : i < ops.size := by omega
      simp [this] at hl
     ·intro i hi _ idb hid
      exact hal0 _ (hbn i idb hi hid)
     ·intro i hi _ idb hid n
      exact htb0 _ n (htn i idb hi hid)
    ·intro k hk hkn
     simp [hkn]
    ·intro i hi
     by_cases h : i < ops.size <;> simp [h] at hi
   ·cases he
  ·cases he
 ·cases he
def yA : AOp → Bool
 | .store _ _ _ | .app _ _ _ _ _ | .box _ | .bsl _ _ _ _ _ | .mksl _ _ _ _ _ _ | .cpy _ _ _ | .slb _ _ _ _ => false
 | _ => true
noncomputable def nT (orc : Clr) (x : aT) (a : List AV) (S : St) : Option AV :=
 match bG x.guard a with
 | some false => some (.tup [])
 | some true => match aop x.op (evf a) S with
  | some (.val v) => some v
  | some (.call f xs) => flw xs fun xs => match orc f xs S with
   | some (v,none) => some v
   | _ => none
  | _ => none
 | none => none
noncomputable def evQ (orc : Clr) : List aT → List AV → St → Option (List AV)
 | [],a,_ => some a
 | x :: l,a,S => match nT orc x a S with
  | some v => fv v fun v => putK a x.dst v fun a' => evQ orc l a' S
  | none => none
theorem oP {orc : Clr} {x : aT} {l : List aT} {a : List AV} {S : St} : evQ orc (x :: l) a S = (nT orc x a S).bind fun v => evQ orc l (putA a x.dst v) S:=by
 simp only [evQ]
 cases nT orc x a S with
 | none => rfl
 | some v => simp only [uI,jV,Option.bind_some]
theorem aFt {orc : Clr} {S : St} : ∀ (l : List aT) (a a1 : List AV),evQ orc l a S = some a1 → ∃ am : Nat → List AV,am 0 = a ∧ am l.length = a1 ∧ ∀ i x,l[i]? = some x → ∃ v,nT orc x (am i) S = some v ∧ am (i + 1) = putA (am i) x.dst v
 | [],a,a1,h => by cases h; exact ⟨fun _ => a,rfl,rfl,fun i x h => by simp at h⟩
 | y :: l,a,a1,h => by
  rw [oP,Option.bind_eq_some_iff] at h
  obtain ⟨v,hv,h⟩:=h
  obtain ⟨am,h0,h1,h2⟩:=aFt l _ _ h
  refine ⟨fun i => match i with | 0 => a | i + 1 => am i,rfl,h1,fun i x hx => ?_⟩
  cases i with
  | zero =>
   simp only [List.getElem?_cons_zero,Option.some.injEq] at hx
   subst hx
   exact ⟨v,hv,h0⟩
  | succ i => exact h2 i x (by simpa using hx)
noncomputable def vS (orc : Clr) (m : Nat) (xs : List aT) (a : List AV) (S : St) : Option (List AV × St) :=
 match (bif (xs.take m).all fun x => yA x.op && (match x.dst with | some d => decide (d < a.length) | none => true) then evQ orc (xs.take m) a S else none) with
 | some a1 => evOps orc (xs.drop m) a1 S
 | none => xQ orc m xs a S
theorem Run.draw {P : Program} {orc : Clr} (ho : eE P orc) (hm : P.follows .mixedOrders = true) {md : Md} {id m : Nat} {ops : Array Oper} {xs : List aT} (hok : okD ops xs m = true) (hc : ops.toList.mapM (cL P ops) = some xs) {a a' : List AV} {S S' : St} (he : vS orc m xs a S = some (a',S')) :
  Run md P (.region id ops true) a S .norm a' S':=by
 unfold vS at he
 split at he
 ·rename_i a1 hq
  cases hcnd : ((xs.take m).all fun x => yA x.op && (match x.dst with | some d => decide (d < a.length) | none => true)) with
  | false => rw [hcnd] at hq; cases hq
  | true =>
   rw [hcnd,cond_true] at hq
   obtain ⟨hnd,hmle,hxl,hsp⟩:=oK hok
   have hml : (xs.take m).length = m:=by simp; omega
   have htk : ∀ i,i < m → (xs.take m)[i]? = xs[i]?:=fun i hi => List.getElem?_take_of_lt hi
   obtain ⟨am,ha0,ham1,hstep⟩:=aFt _ _ _ hq
   rw [hml] at ham1
   have hst : ∀ i,i < m → ∃ o x v,ops[i]? = some o ∧ xs[i]? = some x ∧ nT orc x (am i) S = some v ∧ am (i + 1) = putA (am i) x.dst v:=by
    intro i hi
    obtain ⟨o,x,hoi,hx,_⟩:=hsp i (by omega)
    obtain ⟨v,h1,h2⟩:=hstep i x (by rw [htk i hi]; exact hx)
    exact ⟨o,x,v,hoi,hx,h1,h2⟩
   have hdx : ∀ i t,dO xs i = some t → ∃ x,xs[i]? = some x ∧ x.dst = some t:=fun i t h => by
    simp only [dO,Option.bind_eq_some_iff] at h
    exact h
   -- slots stay where nothing writes
   have hslot : ∀ t i r,i + r ≤ m → (∀ k,i ≤ k → k < i + r → dO xs k ≠ some t) → (am (i + r)).getD t .junk = (am i).getD t .junk:=by
    intro t i r
    induction r with
    | zero => intro _ _; rfl
    | succ r ih =>
     intro hr hno
     obtain ⟨_,x,v,_,hx,_,h2⟩:=hst (i + r) (by omega)
     rw [show i + (r + 1) = i + r + 1 by omega,h2,iL _ _ _ _ (by have:=hno (i + r) (by omega) (by omega); simpa [dO,hx] using this)]
     exact ih (by omega) fun k h1 h2 => hno k h1 (by omega)
   have hlenA : ∀ i,i ≤ m → (am i).length = a.length:=by
    intro i
    induction i with
    | zero => intro _; rw [ha0]
    | succ i ih =>
     intro hi
     obtain ⟨_,x,v,_,_,_,h2⟩:=hst i (by omega)
     rw [h2,jQ,ih (by omega)]
   have hdl : ∀ i t,i < m → dO xs i = some t → t < a.length:=by
    intro i t hi hd
    obtain ⟨x,hx,hxd⟩:=hdx i t hd
    have hmem : x ∈ xs.take m:=List.mem_of_getElem? (by rw [htk i hi]; exact hx)
    have:=List.all_eq_true.1 hcnd x hmem
    simp only [hxd,Bool.and_eq_true,decide_eq_true_eq] at this
    exact this.2
   have huniq : ∀ i k t,i < m → k < m → dO xs i = some t → dO xs k = some t → k = i:=by
    intro i k t hi hk h1 h2
    obtain ⟨_,x,_,hx,_,hmain,_⟩:=hsp i (by omega)
    by_cases he : k = i
    ·exact he
    ·exact absurd h2 ((hmain hi).1 k hk he t (by simpa [dO,hx] using h1))
   let v : Nat → AV:=fun i => match xs[i]? with | some x => (nT orc x (am i) S).getD .junk | none => .junk
   have hv : ∀ i x w,xs[i]? = some x → nT orc x (am i) S = some w → v i = w:=by
    intro i x w hx hw
    show (match xs[i]? with | some x => (nT orc x (am i) S).getD .junk | none => .junk) = w
    rw [hx]
    simp only [hw,Option.getD_some]
   have h1 : ∀ i,i < m → ∀ t,dO xs i = some t → t < a.length ∧ a1.getD t .junk = v i:=by
    intro i hi t hd
    have hlt:=hdl i t hi hd
    obtain ⟨_,x,w,_,hx,hw,h2⟩:=hst i hi
    refine ⟨hlt,?_⟩
    have e1:=hslot t (i + 1) (m - (i + 1)) (by omega) (fun k h1 h2 hk => by have:=huniq i k t hi (by omega) hd hk; omega)
    rw [show i + 1 + (m - (i + 1)) = m by omega,ham1] at e1
    rw [e1,h2,hv i x w hx hw]
    have hxd : x.dst = some t:=by simpa [dO,hx] using hd
    rw [hxd,jW _ _ _ (by rw [hlenA i (by omega)]; exact hlt)]
   have h0 : ∀ t,(∀ i,i < m → dO xs i ≠ some t) → a1.getD t .junk = a.getD t .junk:=by
    intro t hno
    have e1:=hslot t 0 m (by omega) (fun k _ h2 => hno k (by omega))
    rw [Nat.zero_add,ham1,ha0] at e1
    exact e1
   have ham : ∀ i,i < m → ∀ t,((∀ k,k < i → dO xs k ≠ some t) → (am i).getD t .junk = a.getD t .junk) ∧ ((∃ k,k < i ∧ dO xs k = some t) → (am i).getD t .junk = a1.getD t .junk):=by
    intro i hi t
    refine ⟨fun hno => ?_,fun ⟨k,hk,hd⟩ => ?_⟩
    ·have e1 := hslot t 0 i (by omega) (fun k _ h2 => hno k (by omega))
     rw [Nat.zero_add,ha0] at e1
     exact e1
    ·have e1 := hslot t i (m - i) (by omega) (fun k' h1 h2 hk' => by have := huniq k k' t (by omega) (by omega) hd hk'; omega)
     rw [show i + (m - i) = m by omega,ham1] at e1
     exact e1.symm
   have hguard : ∀ i x,i < m → xs[i]? = some x → bG x.guard a1 = bG x.guard (am i):=by
    intro i x hi hx
    obtain ⟨o,x',hoi,hx',hlt,hmain,_⟩:=hsp i (by omega)
    rw [hx] at hx'; cases hx'
    cases hg : x.guard with
    | none => rfl
    | some g =>
     obtain ⟨d,wnt⟩:=g
     simp only [bG]
     have : a1.getD d .junk = (am i).getD d .junk:=by
      by_cases hex : ∃ k,k < m ∧ dO xs k = some d
      ·obtain ⟨k,hk,hd⟩:=hex
       exact ((ham i hi d).2 ⟨k,hlt k ((hmain hi).2.1 d wnt hg k hk hd),hd⟩).symm
      ·have hno : ∀ k,k < m → dO xs k ≠ some d:=fun k hk h => hex ⟨k,hk,h⟩
       rw [h0 d hno,(ham i hi d).1 fun k hk => hno k (by omega)]
     rw [this]
   intro G act w hI hR
   refine lT hm hnd yC ?_
   have hlv : lvl (fun _ => false) m = 0:=by simp [lvl]
   refine aCc (a:=a) (a1:=a1) (v:=v) (st:=fun _ => S) (eff:=fun _ => false) (bid:=fun _ => none) (tid:=fun _ => none) (G0:=G) (S0:=S) (w0:=w) (act0:=act) ho hok hc (by rw [← ham1,hlenA m (Nat.le_refl _)]) h1 h0 am ham ?_ (fun _ _ h => by cases h) (fun _ _ _ _ _ h => by cases h) (fun _ _ _ _ _ h => by cases h) (fun _ _ _ h => by cases h) (fun _ _ _ h => by cases h) ?_ ops.size (Array.replicate ops.size false) act w.drew ?_ (by simp) ?_ ?_ ?_
   ·intro i hi x hx
    obtain ⟨_,x',w',_,hx',hw,_⟩:=hst i hi
    rw [hx] at hx'; cases hx'
    rw [hv i x w' hx hw]
    have hg:=hguard i x hi hx
    unfold nT at hw
    rw [bT] at hw
    split at hw
    ·rename_i hwt
     cases hw
     exact .inl ⟨hg.trans hwt,rfl,rfl,rfl,rfl⟩
    ·rename_i hwt
     refine .inr ⟨hg.trans hwt,.inl ⟨rfl,rfl,rfl,fun k _ => ?_⟩⟩
     split at hw
     ·rename_i e1
      cases hw
      exact .inl e1
     ·rename_i f xs1 e1
      rw [tI] at hw
      split at hw
      ·rename_i e2
       cases hw
       exact .inr ⟨f,xs1,e1,by rw [gT,e2]⟩
      ·cases hw
     ·cases hw
    ·cases hw
   ·intro G' act' w' hI' hR' hg' hk' hd'
    have hl:=wpOps_eq_wpList (P:=P) (ops:=ops) (Q:=Post .norm a' S' G S act w) (ops.toList.drop m) m (fun j => by simp)
    rw [show (ops.toList.drop m).length = ops.size - m by simp] at hl
    rw [hl]
    have hcd : (ops.toList.drop m).mapM (cL P ops) = some (xs.drop m):=rV hc m
    exact qW ho _ _ a1 a' _ S' hcd he G' act' w' hI' hR' fun G2 act2 w2 k1 k2 k3 k5 k4 => ⟨rfl,G2,k1,k2,hg'.trans k3,hk'.trans k5,k4.trans hd'⟩
   ·unfold mQ
    have : (List.range ops.size).filter (fun i => !(Array.replicate ops.size false).getD i true) = List.range ops.size:=by
     apply List.filter_eq_self.2
     intro i hi
     have:=List.mem_range.1 hi
     simp [this]
    rw [this,List.length_range]
   ·refine ⟨G, a, ⟨hI.drew, hR, rfl, fun i hi hl => ?_, fun _ _ => rfl, fun _ _ _ _ h => (by cases h), fun _ _ _ _ h => (by cases h), Gro.drew G S w, .refl _ _, rfl⟩⟩
    have : i < ops.size:=by omega
    simp [this] at hl
   ·intro k hk hkn
    simp [hkn]
   ·intro i hi
    by_cases h : i < ops.size <;> simp [h] at hi
 ·exact Run.drawG ho hm hok hc he
end
section
open Go.RowKit
inductive cD where
 | skip
 | reg (ops : List aT)
 | dreg (m w : Nat) (ops : List aT)
 | seq (c d : cD)
 | cond (c : AOpd) (d e : cD)
 | block (id : Nat) (c : cD)
 | loop (c : cD)
 | exit (id : Nat)
 | ret
 | rangeF (g : AOpd) (ps : List Nat) (assign body : cD)
 | scope (c : cD)
 deriving Inhabited
def pE (l : List AOpd) : List Nat:=l.filterMap fun y => match y with | .tmp t => some t | _ => none
def isSt : AOp → Bool
 | .store _ _ _ => true
 | _ => false
def oL : List aT → List Nat
 | [] => []
 | [y] => match y.guard with | none => (if isSt y.op then pE y.op.opds else []) | some _ => []
 | x :: y :: l => match x.guard,x.dst with
  | none,some d => if (oL (y :: l)).contains d then pE x.op.opds ++ oL (y :: l) else oL (y :: l)
  | _,_ => oL (y :: l)
def wOf (ops : Array Oper) (xs : List aT) (m : Nat) : Nat :=
 if decide (2 ≤ (xs.filter fun x => isSt x.op).length) && !(oL ((xs.take m).drop (m - 1))).isEmpty then (masks ops.toList).getD (m - 1) 0 else 0
def bK (P : Program) : Code → Option cD
 | .skip => some .skip
 | .label _ => some .skip
 | .region _ ops draw =>
  if draw then
   match ops.toList.mapM (cL P ops) with
   | some xs => match (List.range (ops.size + 1)).find? (okD ops xs) with
    | some m => if P.follows .mixedOrders then some (.dreg m (wOf ops xs m) xs) else none
    | none => none
   | none => none
  else if !kD ops then none else (ops.toList.mapM (cL P ops)).map .reg
 | .seq c d => match bK P c,bK P d with
  | some c',some d' => some (.seq c' d')
  | _,_ => none
 | .cond x c d => match aV x,bK P c,bK P d with
  | some x',some c',some d' => some (.cond x' c' d')
  | _,_,_ => none
 | .block id c => (bK P c).map (.block id)
 | .loop c => (bK P c).map .loop
 | .scope c => (bK P c).map .scope
 | .exit id => some (.exit id)
 | .ret => some .ret
 | .rangeFunc g ps x y => match aV g,bK P x,bK P y with
  | some g',some x',some y' => some (.rangeF g' ps.toList x' y')
  | _,_,_ => none
 | _ => none
noncomputable def cB (orc : Clr) : Nat → cD → List AV → St → Option (AEx × List AV × St)
 | 0,_,_,_ => none
 | n + 1,c,a,S =>
  match c with
  | .skip => some (.norm,a,S)
  | .reg ops => match evOps orc ops a S with
   | some (a',S') => some (.norm,a',S')
   | none => none
  | .dreg m _ ops => match vS orc m ops a S with
   | some (a',S') => some (.norm,a',S')
   | none => none
  | .seq c d => match cB orc n c a S with
   | some (.norm,a1,S1) => cB orc n d a1 S1
   | r => r
  | .cond x c d => match evd a x with
   | .bool b => cB orc n (if b then c else d) a S
   | _ => none
  | .block id c => match cB orc n c a S with
   | some (x,a',S') => some (if x = .ex id then .norm else x,a',S')
   | none => none
  | .loop c => match cB orc n c a S with
   | some (.norm,a1,S1) => cB orc n (.loop c) a1 S1
   | r => r
  | .exit id => some (.ex id,a,S)
  | .ret => some (.ret,a,S)
  | .rangeF _ _ _ _ => none
  | .scope _ => none
theorem pQ {P : Program} {orc : Clr} (ho : eE P orc) {md : Md} : ∀ (n : Nat) (c : Code) (ac : cD) (a a' : List AV) (S S' : St) (x : AEx),bK P c = some ac → cB orc n ac a S = some (x,a',S') →
  Run md P c a S x a' S' ∧ ∀ b,c = .loop b → ∃ k,zI md P b k a S x a' S'
 | 0,c,ac,a,a',S,S',x,hc,he => by cases he
 | n + 1,c,ac,a,a',S,S',x,hc,he => by
  have ih:=pQ (P:=P) ho (md:=md) n
  cases c <;> simp only [bK,reduceCtorEq] at hc
  case skip => cases hc; simp only [cB,Option.some.injEq,Prod.mk.injEq] at he; obtain ⟨rfl,rfl,rfl⟩:=he; exact ⟨.skip,fun b h => by cases h⟩
  case label l => cases hc; simp only [cB,Option.some.injEq,Prod.mk.injEq] at he; obtain ⟨rfl,rfl,rfl⟩:=he; exact ⟨.label,fun b h => by cases h⟩
  case exit id => cases hc; simp only [cB,Option.some.injEq,Prod.mk.injEq] at he; obtain ⟨rfl,rfl,rfl⟩:=he; exact ⟨.exit,fun b h => by cases h⟩
  case ret => cases hc; simp only [cB,Option.some.injEq,Prod.mk.injEq] at he; obtain ⟨rfl,rfl,rfl⟩:=he; exact ⟨.ret,fun b h => by cases h⟩
  case rangeFunc g ps x y =>
   split at hc
   ·cases hc; simp [cB] at he
   ·cases hc
  case scope c =>
   simp only [Option.map_eq_some_iff] at hc
   obtain ⟨_,_,rfl⟩:=hc
   simp [cB] at he
  case region id ops draw =>
   split at hc
   ·rename_i hd
    subst hd
    split at hc
    ·rename_i xs hxs
     split at hc
     ·rename_i m hm
      split at hc
      ·rename_i hmix
       cases hc
       simp only [cB] at he
       split at he
       ·rename_i a1 S1 h1
        cases he
        exact ⟨.draw ho hmix (List.find?_some hm) hxs h1,fun b h => by cases h⟩
       ·cases he
      ·cases hc
     ·cases hc
    ·cases hc
   ·rename_i hd
    split at hc
    ·cases hc
    ·rename_i hnd
     have hd : draw = false:=by simpa using hd
     subst hd
     simp only [Option.map_eq_some_iff] at hc
     obtain ⟨xs,hxs,rfl⟩:=hc
     simp only [cB] at he
     split at he
     ·rename_i a1 S1 h1
      cases he
      exact ⟨.region ho (by simpa using hnd) hxs h1,fun b h => by cases h⟩
     ·cases he
  case seq c d =>
   split at hc
   ·rename_i c' d' hc1 hd1
    cases hc
    simp only [cB] at he
    split at he
    ·rename_i a1 S1 h1
     exact ⟨.seq (ih _ _ _ _ _ _ _ hc1 h1).1 (ih _ _ _ _ _ _ _ hd1 he).1,fun b h => by cases h⟩
    ·rename_i hne
     exact ⟨.seq_left (ih _ _ _ _ _ _ _ hc1 he).1 (fun hx => by subst hx; exact hne _ _ he),fun b h => by cases h⟩
   ·cases hc
  case cond y c d =>
   split at hc
   ·rename_i y' c' d' hy hc1 hd1
    cases hc
    simp only [cB] at he
    split at he
    ·rename_i t ht
     refine ⟨.cond hy ht ?_,fun b h => by cases h⟩
     cases t
     ·exact (ih _ _ _ _ _ _ _ hd1 he).1
     ·exact (ih _ _ _ _ _ _ _ hc1 he).1
    ·cases he
   ·cases hc
  case block id c =>
   simp only [Option.map_eq_some_iff] at hc
   obtain ⟨c',hc1,rfl⟩:=hc
   simp only [cB] at he
   split at he
   ·rename_i x1 a1 S1 h1
    cases he
    exact ⟨.block (ih _ _ _ _ _ _ _ hc1 h1).1,fun b h => by cases h⟩
   ·cases he
  case loop c =>
   simp only [Option.map_eq_some_iff] at hc
   obtain ⟨c',hc1,rfl⟩:=hc
   simp only [cB] at he
   have hch : ∃ k,zI md P c k a S x a' S':=by
    split at he
    ·rename_i a1 S1 h1
     obtain ⟨k,hk⟩:=(ih (.loop c) (.loop c') _ _ _ _ _ (by simp [bK,hc1]) he).2 c rfl
     exact ⟨k + 1,.step (ih _ _ _ _ _ _ _ hc1 h1).1 hk⟩
    ·rename_i hne
     exact ⟨0,.last (ih _ _ _ _ _ _ _ hc1 he).1 (fun hx => by subst hx; exact hne _ _ he)⟩
   obtain ⟨k,hk⟩:=hch
   exact ⟨.loop hk,fun b h => by cases h; exact ⟨k,hk⟩⟩
inductive ARes where
 | tmp (t : Nat)
 | cell (t : Nat) (n : Option Nat)
 deriving Inhabited
structure AFn where
 np : Nat
 ntmps : Nat
 res : List ARes
 code : cD
 deriving Inhabited
def sA (P : Program) : ResultVar → Option ARes
 | .tmp t => some (.tmp t)
 | .cell a t => (lP P t).map (.cell a)
def aS (P : Program) (f : FuncId) : Option AFn :=
 match P.funcs[f]? with
 | some fn => match fn.body,fn.results.toList.mapM (sA P) with
  | some c,some rs => match bK P c with
   | some ac => if fn.name == "runtime.NumGoroutine" then none else some ⟨fn.params.size, fn.ntmps, rs, ac⟩
   | none => none
  | _,_ => none
 | none => none
def aAU (a : List AV) (S : St) : ARes → Option AV
 | .tmp t => a[t]?
 | .cell t n => match a[t]? with
  | some (.ptr b o) => (S.bx[b]?).bind fun cs => bN cs o n
  | _ => none
def one : List AV → AV
 | [v] => v
 | vs => .tup vs
def iE (a : List AV) (S : St) (rs : List ARes) : Option AV:=(rs.mapM (aAU a S)).map one
theorem aFZ {P : Program} {G : Gh} {S : St} {w : World} {a : List AV} {act : Act} (hI : Inv G S w) (hR : Rel G a act) {r : ResultVar} {r' : ARes} {v : AV} (hc : sA P r = some r') (hv : aAU a S r' = some v) :
  ∃ u,((match r with | .tmp t => pure (act.tmps.getD t undef) | .cell a t => do loadVar t (← asAddr (act.tmps.getD a undef)) : Sem Value)).run P w = .ok u w ∧ VR G v u:=by
 have hslot : ∀ t x,a[t]? = some x → VR G x (act.tmps.getD t undef):=fun t x h => by
  have hlt : t < act.tmps.size:=by rw [hR.size]; exact (List.getElem?_eq_some_iff.1 h).1
  simpa [Array.getD,hlt] using hR.slot t x _ h (Array.getElem?_eq_getElem hlt)
 cases r with
 | tmp t =>
  cases hc
  exact ⟨_,by simp,hslot t v hv⟩
 | cell t ty =>
  simp only [sA,Option.map_eq_some_iff] at hc
  obtain ⟨n,hn,rfl⟩:=hc
  simp only [aAU] at hv
  split at hv
  ·rename_i b o h
   simp only [Option.bind_eq_some_iff] at hv
   obtain ⟨cs,hcs,hv⟩:=hv
   obtain ⟨B,hB,hu⟩:=(hslot t _ h).inv_ptr
   obtain ⟨u,h1,h2⟩:=tG hn (hI.reads hB hcs) hv
   rw [Nat.zero_add] at h1
   exact ⟨u,by simp only [hu,asAddr,Sem.run_bind,Sem.run_pure,Result.andThen_ok,h1],h2⟩
  ·cases hv
theorem pF {P : Program} {G : Gh} {S : St} {w : World} {a : List AV} {act : Act} (hI : Inv G S w) (hR : Rel G a act) {fn : Func} {rs : List ARes} {v : AV} (hc : fn.results.toList.mapM (sA P) = some rs) (hv : iE a S rs = some v) : ∃ u,(results fn act.tmps).run P w = .ok u w ∧ VR G v u:=by
 simp only [iE,Option.map_eq_some_iff] at hv
 obtain ⟨vs,hvs,rfl⟩:=hv
 obtain ⟨f,hf⟩ : ∃ f : ResultVar → Sem Value,f = (fun r => (match r with | .tmp t => pure (act.tmps.getD t undef) | .cell a t => do loadVar t (← asAddr (act.tmps.getD a undef)) : Sem Value)):=⟨_,rfl⟩
 have key : ∀ (l : List ResultVar) (rs : List ARes) (vs : List AV),l.mapM (sA P) = some rs → rs.mapM (aAU a S) = some vs →
   ∃ us : List Value,(l.mapM f).run P w = .ok us w ∧ us.length = vs.length ∧ ∀ (i : Nat) x u,vs[i]? = some x → us[i]? = some u → VR G x u:=by
  intro l
  induction l with
  | nil => intro rs vs h1 h2; simp at h1; subst h1; simp at h2; subst h2; exact ⟨[],by simp,rfl,fun i x u h => by simp at h⟩
  | cons r l ih =>
   intro rs vs h1 h2
   rw [List.mapM_cons] at h1
   simp only [Option.bind_eq_bind,Option.bind_eq_some_iff,Option.pure_def,Option.some.injEq] at h1
   obtain ⟨r',hr',rs',hrs',rfl⟩:=h1
   rw [List.mapM_cons] at h2
   simp only [Option.bind_eq_bind,Option.bind_eq_some_iff,Option.pure_def,Option.some.injEq] at h2
   obtain ⟨v,hv,vs',hvs',rfl⟩:=h2
   obtain ⟨u,k1,k2⟩:=aFZ hI hR hr' hv
   have k1 : (f r).run P w = .ok u w:=by rw [hf]; exact k1
   obtain ⟨us,k3,k4,k5⟩:=ih rs' vs' hrs' hvs'
   refine ⟨u :: us,?_,by simp [k4],fun i x y hx hy => ?_⟩
   ·rw [List.mapM_cons]
    simp only [Sem.run_bind,k1,Result.andThen_ok,k3,Sem.run_pure]
   ·cases i with
    | zero => simp at hx hy; subst hx hy; exact k2
    | succ i => exact k5 i x y (by simpa using hx) (by simpa using hy)
 obtain ⟨us,h1,h2,h3⟩:=key _ rs vs hc hvs
 have hrun : (results fn act.tmps).run P w = .ok (if h : us.toArray.size = 1 then us.toArray[0] else .tuple us.toArray) w:=by
  have e : results fn act.tmps = (do let vs ← fn.results.mapM f; pure (if h : vs.size = 1 then vs[0] else .tuple vs) : Sem Value):=by rw [hf]; rfl
  rw [e,Array.mapM_eq_mapM_toList]
  simp [h1]
 refine ⟨_,hrun,?_⟩
 clear h1 hrun hvs key
 match vs,us,h2,h3 with
 | [],[],_,_ => exact .tup [] #[] rfl (fun i x u h => by simp at h)
 | [v],[u],_,h3 => simpa [one] using h3 0 v u rfl rfl
 | v :: v2 :: vs,u :: u2 :: us,h2,h3 =>
  rw [dif_neg (by simp)]
  exact .tup _ _ (by simpa using h2) fun i x y hx hy => h3 i x y hx (by simpa using hy)
def start (F : AFn) (as1 : List AV) : List AV:=as1 ++ List.replicate (F.ntmps - as1.length) (.tup [])
theorem aCv {P : Program} {f : FuncId} {F : AFn} {fn : Func} {c : Code} (hf : P.funcs[f]? = some fn) (hb : fn.body = some c) (hF : aS P f = some F) {as1 : List AV} {S : St} {x : AEx} {a' : List AV} {S' : St} {v : AV}
  (hr : Run .plain P c (start F as1) S x a' S') (hx : x = .norm ∨ x = .ret) (hv : iE a' S' F.res = some v) :
  (∀ (us : Array Value) (w : World),(callFunc f us).run P w = .ok (.enter f us) w) ∧ ∀ (G : Gh) (w : World) (us : Array Value),Inv G S w → VRs G as1 us → Calls P f us w fun e w' => ∃ u G',e = .returned u ∧ VR G' v u ∧ Inv G' S' w' ∧ Gro G S w G' S' w' ∧ Keep G S G' S':=by
 unfold aS at hF
 rw [hf] at hF
 simp only [hb] at hF
 split at hF
 ·rename_i c0 rs hc0 hrs
  cases hc0
  split at hF
  ·rename_i ac hac
   split at hF
   ·cases hF
   ·rename_i hname
    cases hF
    refine ⟨fun us w => ?_,fun G w us hI hvs => ?_⟩
    ·simp only [callFunc,program,Sem.run,hf,Sem.run_bind,Result.andThen_ok,hname,hb]
     rfl
    ·refine calls_of_wp hf hb ?_
     have hR : Rel G (start ⟨fn.params.size,fn.ntmps,rs,ac⟩ as1) { tmps:=us ++ Array.replicate (fn.ntmps - us.size) undef,defers:=[] }:=by
      refine ⟨by simp [start,hvs.1],fun i y u hy hu => ?_⟩
      simp only [start] at hy
      simp only at hu
      rw [List.getElem?_append] at hy
      rw [Array.getElem?_append,hvs.1] at hu
      split at hy
      ·rename_i hlt
       rw [if_pos hlt] at hu
       exact hvs.2 i y u hy hu
      ·rename_i hlt
       rw [if_neg hlt] at hu
       have e1:=List.eq_of_mem_replicate (List.mem_of_getElem? hy)
       have e2 : u ∈ (Array.replicate (fn.ntmps - as1.length) undef):=Array.mem_of_getElem? hu
       have e3:=(Array.mem_replicate.1 e2).2
       rw [e1,e3]
       exact .undef G
     refine wp_mono (hr G _ w hI hR) ?_
     rintro e act' w' ⟨he,G',hI',hR',hg,hk,hd⟩
     obtain ⟨u,h1,h2⟩:=pF hI' hR' hrs hv
     rcases hx with rfl | rfl
     ·subst he; exact ⟨hd,u,h1,u,G',rfl,h2,hI',hg,hk⟩
     ·subst he; exact ⟨hd,u,h1,u,G',rfl,h2,hI',hg,hk⟩
  ·cases hF
 ·cases hF
theorem aCr {P : Program} {f : FuncId} {F : AFn} {fn : Func} {c : Code} (hf : P.funcs[f]? = some fn) (hb : fn.body = some c) (hF : aS P f = some F) {as1 : List AV} {cells cells' : List (List AV)} {x : AEx} {a' : List AV} {S' : St} {v : AV}
  (hr : Run .plain P c (start F as1) ⟨cells,[]⟩ x a' S') (hx : x = .norm ∨ x = .ret) (hv : iE a' S' F.res = some v) (hl : cells.length ≤ cells'.length) (hcells : ∃ bx,S'.bx = cells' ++ bx) : rO P f as1 cells v cells':=by
 obtain ⟨h1,h2⟩:=aCv hf hb hF hr hx hv
 refine ⟨h1,hl,fun G w us hI hvs => (h2 G w us hI hvs).mono ?_⟩
 rintro e w' ⟨u,G',rfl,k1,k2,k3,_⟩
 obtain ⟨bx,hbx⟩:=hcells
 obtain ⟨S'bx,S'lv⟩:=S'
 simp only at hbx
 subst hbx
 exact ⟨u,G',bx,S'lv,rfl,k1,k2,k3⟩
end
section
open Go.RowKit
def AV.names : AV → Bool
 | .ptr _ _ | .ms _ _ _ => true
 | .tup vs => vs.any fun v => match v with | .ptr _ _ | .ms _ _ _ => true | _ => false
 | _ => false
noncomputable def evFn (X : Clr) (n : Nat) (F : AFn) (as1 : List AV) (cells : List (List AV)) : Option (AV × List (List AV)) :=
 match cB X n F.code (start F as1) ⟨cells,[]⟩ with
 | some (.ex _,_,_) => none
 | some (_,a',S') => match iE a' S' F.res with
  | some v => let cs:=if v.names then S'.bx else S'.bx.take cells.length
   if cells.length ≤ cs.length then some (v,cs) else none
  | none => none
 | none => none
noncomputable def evIn (X : Clr) (n : Nat) (F : AFn) (as1 : List AV) (S : St) : Option (AV × St) :=
 match cB X n F.code (start F as1) S with
 | some (.ex _,_,_) => none
 | some (_,a',S') => match iE a' S' F.res with
  | some v => some (v,S')
  | none => none
 | none => none
theorem yW {P : Program} {f : FuncId} {F : AFn} (hF : aS P f = some F) : ∃ fn c ac,P.funcs[f]? = some fn ∧ fn.body = some c ∧ bK P c = some ac ∧ F.code = ac:=by
 unfold aS at hF
 split at hF
 ·rename_i fn hf
  split at hF
  ·rename_i c rs hb hrs
   split at hF
   ·rename_i ac hac
    split at hF
    ·cases hF
    ·cases hF
     exact ⟨fn,c,ac,hf,hb,hac,rfl⟩
   ·cases hF
  ·cases hF
 ·cases hF
theorem mL {P : Program} {X : Clr} (ho : eE P X) {n : Nat} {f : FuncId} {F : AFn} (hF : aS P f = some F) {as1 : List AV} {cells cells' : List (List AV)} {v : AV} (he : evFn X n F as1 cells = some (v,cells')) : rO P f as1 cells v cells':=by
 obtain ⟨fn,c,ac,hf,hb,hac,hcode⟩:=yW hF
 unfold evFn at he
 rw [hcode] at he
 split at he
 ·cases he
 ·rename_i x a' S' hne hev
  split at he
  ·rename_i v' hres
   simp only [] at he
   generalize hcs : (if v'.names then S'.bx else S'.bx.take cells.length) = cs at he
   split at he
   ·rename_i hle
    cases he
    have hr:=(pQ (md:=.plain) ho n c ac _ _ _ _ _ hac hev).1
    refine aCr hf hb hF hr ?_ hres hle ?_
    ·cases x with
     | norm => exact .inl rfl
     | ret => exact .inr rfl
     | ex i => exact absurd rfl (hne i)
    ·rw [← hcs]
     split
     ·exact ⟨[],by simp⟩
     ·exact ⟨S'.bx.drop cells.length,by simp⟩
   ·cases he
  ·cases he
 ·cases he
theorem aGs {P : Program} {X : Clr} (ho : eE P X) {n : Nat} {f : FuncId} {F : AFn} (hF : aS P f = some F) {as1 : List AV} {S S' : St} {v : AV} (he : evIn X n F as1 S = some (v,S')) {G : Gh} {w : World} {us : Array Value} (hI : Inv G S w) (hv : VRs G as1 us) :
  (callFunc f us).run P w = .ok (.enter f us) w ∧ Calls P f us w fun e w' => ∃ u G',e = .returned u ∧ VR G' v u ∧ Inv G' S' w' ∧ Gro G S w G' S' w' ∧ Keep G S G' S':=by
 obtain ⟨fn,c,ac,hf,hb,hac,hcode⟩:=yW hF
 unfold evIn at he
 rw [hcode] at he
 split at he
 ·cases he
 ·rename_i x a' T hne hev
  split at he
  ·rename_i v' hres
   cases he
   have hr:=(pQ (md:=.plain) ho n c ac _ _ _ _ _ hac hev).1
   obtain ⟨h1, h2⟩ := aCv hf hb hF hr (by
    cases x with
    | norm => exact .inl rfl
    | ret => exact .inr rfl
    | ex i => exact absurd rfl (hne i)) hres
   exact ⟨h1 us w,h2 G w us hI hv⟩
  ·cases he
 ·cases he
noncomputable def clrN (tab : FuncId → Option AFn) (inl : FuncId → Bool) (base : Clr) (fuel : Nat) : Nat → Clr
 | 0 => base
 | n + 1 => fun f as1 S => match tab f with
  | some F => bif inl f then (evIn (clrN tab inl base fuel n) fuel F as1 S).map (fun p => (p.1,some p.2)) else nB (fun g as1 cells => bif Nat.beq g f then evFn (clrN tab inl base fuel n) fuel F as1 cells else none) f as1 S
  | none => base f as1 S
theorem aBk {P : Program} {tab : FuncId → Option AFn} {inl : FuncId → Bool} {base : Clr} (hb : eE P base) (ht : ∀ f F,tab f = some F → aS P f = some F) (fuel : Nat) : ∀ n,eE P (clrN tab inl base fuel n)
 | 0 => hb
 | n + 1 => ⟨by
  intro f as1 S v S' h G w us hI hv
  have ih:=aBk (inl:=inl) hb ht fuel n
  cases hF : tab f with
  | none =>
   refine hb.ok f as1 S v S' ?_ G w us hI hv
   simp only [gT,clrN,hF] at h
   exact h
  | some F =>
   cases hi : inl f with
   | true =>
    have h' : evIn (clrN tab inl base fuel n) fuel F as1 S = some (v,S'):=by
     simp only [gT,clrN,hF,hi,cond_true] at h
     cases he : evIn (clrN tab inl base fuel n) fuel F as1 S with
     | none => rw [he] at h; cases h
     | some p => rw [he] at h; obtain ⟨p1,p2⟩:=p; simpa using h
    exact aGs ih (ht f F hF) h' hI hv
   | false =>
    have h : gT (nB fun g as1 cells => bif Nat.beq g f then evFn (clrN tab inl base fuel n) fuel F as1 cells else none) f as1 S = some (v,S'):=by
     simpa only [gT,clrN,hF,hi,cond_false] using h
    refine (aFx (P:=P) (orc:=fun g as1 cells => bif Nat.beq g f then evFn (clrN tab inl base fuel n) fuel F as1 cells else none) ?_).ok f as1 S v S' h G w us hI hv
    intro g as1 cells v cells' hh
    simp only [] at hh
    cases hg : Nat.beq g f with
    | true =>
     rw [hg,cond_true] at hh
     rw [Nat.eq_of_beq_eq_true hg]
     exact mL ih (ht f F hF) hh
    | false => rw [hg, cond_false] at hh; cases hh⟩
def aAm : Clr:=fun _ _ _ => none
theorem cP (P : Program) : eE P aAm:=⟨fun _ _ _ _ _ h => by cases h⟩
end
section
open Go.RowKit
theorem eT {orc : Clr} : ∀ (n : Nat) (c : cD) (a : List AV) (S : St) (r : AEx × List AV × St),cB orc n c a S = some r → ∀ m,n ≤ m → cB orc m c a S = some r
 | 0,c,a,S,r,h,m,hm => by cases h
 | n + 1,c,a,S,r,h,m,hm => by
  obtain ⟨m,rfl⟩ : ∃ k,m = k + 1:=⟨m - 1,by omega⟩
  have hm' : n ≤ m:=by omega
  cases c with
  | skip => exact h
  | reg ops => exact h
  | dreg k ops => exact h
  | exit id => exact h
  | ret => exact h
  | rangeF _ _ _ _ => exact h
  | scope _ => exact h
  | seq c d =>
   simp only [cB] at h ⊢
   cases hc : cB orc n c a S with
   | none => rw [hc] at h; cases h
   | some q =>
    rw [hc] at h
    rw [eT n c a S q hc m hm']
    obtain ⟨x,a1,S1⟩:=q
    cases x with
    | norm => exact eT n d a1 S1 r h m hm'
    | ret => exact h
    | ex i => exact h
  | cond y c d =>
   simp only [cB] at h ⊢
   split at h
   ·exact eT n _ a S r h m hm'
   ·cases h
  | block id c =>
   simp only [cB] at h ⊢
   cases hc : cB orc n c a S with
   | none => rw [hc] at h; cases h
   | some q => rw [hc] at h; rw [eT n c a S q hc m hm']; exact h
  | loop c =>
   simp only [cB] at h ⊢
   cases hc : cB orc n c a S with
   | none => rw [hc] at h; cases h
   | some q =>
    rw [hc] at h
    rw [eT n c a S q hc m hm']
    obtain ⟨x,a1,S1⟩:=q
    cases x with
    | norm => exact eT n (.loop c) a1 S1 r h m hm'
    | ret => exact h
    | ex i => exact h
def Ev (orc : Clr) (c : cD) (a : List AV) (S : St) (Q : AEx → List AV → St → Prop) : Prop:=∃ n x a' S',cB orc n c a S = some (x,a',S') ∧ Q x a' S'
def EvO (orc : Clr) (ops : List aT) (a : List AV) (S : St) (Q : List AV → St → Prop) : Prop:=∃ a' S',evOps orc ops a S = some (a',S') ∧ Q a' S'
section rules
variable {orc : Clr} {a : List AV} {S : St} {Q : AEx → List AV → St → Prop}
theorem Ev.mono {c : cD} {Q' : AEx → List AV → St → Prop} (h : Ev orc c a S Q) (k : ∀ x a' S',Q x a' S' → Q' x a' S') : Ev orc c a S Q':=by
 obtain ⟨n,x,a',S',h1,h2⟩:=h
 exact ⟨n,x,a',S',h1,k _ _ _ h2⟩
theorem Ev.skip (h : Q .norm a S) : Ev orc .skip a S Q:=⟨1,.norm,a,S,rfl,h⟩
theorem Ev.ret (h : Q .ret a S) : Ev orc .ret a S Q:=⟨1,.ret,a,S,rfl,h⟩
theorem Ev.exit {id : Nat} (h : Q (.ex id) a S) : Ev orc (.exit id) a S Q:=⟨1,.ex id,a,S,rfl,h⟩
theorem Ev.reg {ops : List aT} (h : EvO orc ops a S (Q .norm)) : Ev orc (.reg ops) a S Q:=by
 obtain ⟨a',S',h1,h2⟩:=h
 exact ⟨1,.norm,a',S',by simp only [cB,h1],h2⟩
theorem Ev.dreg {m w : Nat} {ops : List aT} {a' : List AV} {S' : St} (h : vS orc m ops a S = some (a',S')) (hq : Q .norm a' S') : Ev orc (.dreg m w ops) a S Q :=
 ⟨1,.norm,a',S',by simp only [cB,h],hq⟩
theorem Ev.seq {c d : cD} (h : Ev orc c a S fun x a' S' => match x with | .norm => Ev orc d a' S' Q | x => Q x a' S') : Ev orc (.seq c d) a S Q:=by
 obtain ⟨n,x,a',S',h1,h2⟩:=h
 cases x with
 | norm =>
  obtain ⟨m,y,b,T,h3,h4⟩:=h2
  refine ⟨max n m + 1,y,b,T,?_,h4⟩
  simp only [cB,eT _ _ _ _ _ h1 (max n m) (by omega)]
  exact eT _ _ _ _ _ h3 _ (by omega)
 | ret => exact ⟨n + 1,.ret,a',S',by simp only [cB,h1],h2⟩
 | ex i => exact ⟨n + 1,.ex i,a',S',by simp only [cB,h1],h2⟩
theorem Ev.cond {y : AOpd} {c d : cD} {b : Bool} (hb : evd a y = .bool b) (h : Ev orc (if b then c else d) a S Q) : Ev orc (.cond y c d) a S Q:=by
 obtain ⟨n,x,a',S',h1,h2⟩:=h
 exact ⟨n + 1,x,a',S',by simp only [cB,hb,h1],h2⟩
theorem Ev.block {id : Nat} {c : cD} (h : Ev orc c a S fun x a' S' => Q (if x = .ex id then .norm else x) a' S') : Ev orc (.block id c) a S Q:=by
 obtain ⟨n,x,a',S',h1,h2⟩:=h
 exact ⟨n + 1,_,a',S',by simp only [cB,h1],h2⟩
theorem Ev.loop {c : cD} (I : Nat → List AV → St → Prop) : ∀ (k : Nat) {a : List AV} {S : St},I k a S →
  (∀ k a S,I k a S → Ev orc c a S fun x a' S' => match x with | .norm => ∃ j,j < k ∧ I j a' S' | x => Q x a' S') → Ev orc (.loop c) a S Q:=by
 intro k
 induction k using Nat.strongRecOn with
 | ind k ih =>
  intro a S h round
  obtain ⟨n,x,a',S',h1,h2⟩:=round k a S h
  cases x with
  | norm =>
   obtain ⟨j,hj,h3⟩:=h2
   obtain ⟨m,y,b,T,h4,h5⟩:=ih j hj h3 round
   refine ⟨max n m + 1,y,b,T,?_,h5⟩
   simp only [cB,eT _ _ _ _ _ h1 (max n m) (by omega)]
   exact eT _ _ _ _ _ h4 _ (by omega)
  | ret => exact ⟨n + 1,.ret,a',S',by simp only [cB,h1],h2⟩
  | ex i => exact ⟨n + 1,.ex i,a',S',by simp only [cB,h1],h2⟩
variable {R : List AV → St → Prop}
theorem EvO.nil (h : R a S) : EvO orc [] a S R:=⟨a,S,rfl,h⟩
theorem EvO.eval {ops : List aT} {a' : List AV} {S' : St} (h : evOps orc ops a S = some (a',S')) (hr : R a' S') : EvO orc ops a S R:=⟨a',S',h,hr⟩
theorem EvO.skip {x : aT} {l : List aT} (hw : bG x.guard a = some false) (h : EvO orc l (putA a x.dst (.tup [])) S R) : EvO orc (x :: l) a S R:=by
 obtain ⟨a',S',h1,h2⟩:=h
 exact ⟨a',S',by simp only [evOps,hw,h1],h2⟩
theorem EvO.op {x : aT} {l : List aT} {v : AV} {S1 : St} (hw : bG x.guard a = some true) (hv : evOp orc x.op a S = some (v,S1)) (h : EvO orc l (putA a x.dst v) S1 R) : EvO orc (x :: l) a S R:=by
 obtain ⟨a',S',h1,h2⟩:=h
 exact ⟨a',S',by simp only [evOps,hw,hv,xW,jV,h1],h2⟩
end rules
def mA (P : Program) (f : FuncId) (as1 : List AV) (cells : List (List AV)) (Q : AV → List (List AV) → Prop) : Prop:=∃ v c',rO P f as1 cells v c' ∧ Q v c'
theorem mA.of {P : Program} {orc : Clr} (ho : eE P orc) {f : FuncId} {F : AFn} (hF : aS P f = some F) {as1 : List AV} {cells : List (List AV)} {Q : AV → List (List AV) → Prop}
  (h : Ev orc F.code (start F as1) ⟨cells,[]⟩ fun x a' S' => (x = .norm ∨ x = .ret) ∧ ∃ v,iE a' S' F.res = some v ∧ cells.length ≤ (if v.names then S'.bx else S'.bx.take cells.length).length ∧ Q v (if v.names then S'.bx else S'.bx.take cells.length)) : mA P f as1 cells Q:=by
 obtain ⟨n,x,a',S',h1,hx,v,h2,h3,h4⟩:=h
 refine ⟨v,_,mL ho (n:=n) hF ?_,h4⟩
 unfold evFn
 rw [h1]
 rcases hx with rfl | rfl
 ·simp only [h2]; rw [if_pos h3]
 ·simp only [h2]; rw [if_pos h3]
theorem mA.mono {P : Program} {f : FuncId} {as1 : List AV} {cells : List (List AV)} {Q Q' : AV → List (List AV) → Prop} (h : mA P f as1 cells Q) (k : ∀ v c',Q v c' → Q' v c') : mA P f as1 cells Q':=by
 obtain ⟨v,c',h1,h2⟩:=h
 exact ⟨v,c',h1,k _ _ h2⟩
attribute [irreducible] Ev EvO
structure aCV (P : Program) where
 f : FuncId
 F : AFn
 h : aS P f = some F
def aAh {P : Program} : List (aCV P) → FuncId → Option AFn
 | [],_ => none
 | e :: l,f => bif Nat.beq e.f f then some e.F else aAh l f
theorem xU {P : Program} : ∀ (l : List (aCV P)) (f : FuncId) (F : AFn),aAh l f = some F → aS P f = some F
 | [],f,F,h => by cases h
 | e :: l,f,F,h => by
  simp only [aAh] at h
  cases he : Nat.beq e.f f with
  | true =>
   rw [he] at h
   simp only [cond_true,Option.some.injEq] at h
   have:=Nat.eq_of_beq_eq_true he
   rw [← this,← h]
   exact e.h
  | false =>
   rw [he] at h
   exact xU l f F h
end
section
open Go.RowKit Go.ChangeShapes Go.WideShapes
def Gh.all (W : World) : Gh:=⟨fun _ => none,fun _ _ => none,fun b o => W.cell? ⟨b,o,none⟩,fun _ => none⟩
theorem Inv.all (W : World) (hG : GLW W) : Inv (Gh.all W) ⟨[],[]⟩ W :=
 ⟨fun b B cs h => by simp [Gh.all] at h, fun t n s0 B s c h => by simp at h, fun b o u h => h, fun b B h => by simp [Gh.all] at h, fun t n v h => by simp [Gh.all] at h,
  fun b b' B h => by simp [Gh.all] at h, fun t t' n n' s0 s0' B s s' c c' h => by simp at h, fun b B t n s0 s c h => by simp [Gh.all] at h, hG, fun B m h => by simp [Gh.all] at h⟩
theorem Gro.below {G : Gh} {W W' : World} {G' : Gh} {S' : St} (hG : ∀ B,¬ vD G ⟨[],[]⟩ B) (h : Gro G ⟨[],[]⟩ W G' S' W') : Below W.heap.size W W' :=
 ⟨h.os,h.tape,h.output,h.size,fun k hk => (h.fr k hk (hG k)).1⟩
theorem mA.law {P : Program} {f : FuncId} {xs : List AV} {us : Array Value} {W : World} (h : mA P f xs [] fun v _ => v = .bool true) (hv : VL (Gh.all W) xs us) (hG : GLW W := by exact fun B o u h => by simp [gcell, gtab] at h) :
  Calls P f us W fun e W' => e = .returned (.bool true) ∧ Below W.heap.size W W':=by
 obtain ⟨v,c',hc,rfl⟩:=h
 refine (hc.calls (Gh.all W) W us (Inv.all W hG) hv).mono ?_
 rintro e W' ⟨u,G',bx,lv,rfl,hu,_,hg⟩
 refine ⟨by rw [hu.inv_bool],hg.below fun B => ?_⟩
 rintro (⟨b,hb⟩ | ⟨t,n,s0,s,c,h1,_⟩)
 ·simp [Gh.all] at hb
 ·simp at h1
theorem aGn {P : Program} {H : Type} {enc : TypeId × Value → H} {W : World} {base : Nat} {held : Bool} {a : Option Addr} {len cap : Nat} {d : DataW H} {p : List MemPlace} {t e : TypeId} (ht : P.underlying t = some (.slice e)) (he : P.underlying e = some (.int .i64)) (hc : P.cellsOf e = 1)
  (h : DataW.Trod enc P W base (fun _ => true) held t (.slice a len cap) d p) : ∃ zs : List Int,(∀ z ∈ zs,(Lit.int .i64 z).wf = true) ∧ zs.length ≤ maxLen ∧ VR (Gh.all W) (.sl (zs.map fun z => .int .i64 z) none) (.slice a len cap):=by
 obtain ⟨fuel,hf⟩:=h
 rcases open_ints ht he hc hf with ⟨hcs,_⟩ | ⟨x,l,c,zs,hcs,_,hl,hm,hz,_,hcell,hwz⟩
 ·simp [Value.cells] at hcs
  obtain ⟨rfl,rfl,rfl⟩:=hcs
  exact ⟨[],by simp,by simp,.sl0 _ _⟩
 ·simp [Value.cells] at hcs
  obtain ⟨rfl,rfl,rfl⟩:=hcs
  simp at hz
  have hlen : (zs.take len).length = len:=by simp; omega
  refine ⟨zs.take len,fun z hz' => hwz z (List.mem_of_mem_take hz'),by rw [hlen]; omega,?_⟩
  by_cases h0 : len = 0
  ·subst h0
   simp only [List.take_zero,List.map_nil]
   exact .sl0 _ _
  ·have hx : ∃ b o,x = ⟨b,o,none⟩:=by
    have h1:=hcell 0 (by omega)
    obtain ⟨b,o,sp⟩:=x
    cases sp with
    | none => exact ⟨b,o,rfl⟩
    | some s =>
     exfalso
     unfold World.cell? at h1
     simp only [Addr.add] at h1
     split at h1 <;> simp_all
   obtain ⟨b,o,rfl⟩:=hx
   have hlm : ((zs.take len).map fun z => AV.int .i64 z).length = len:=by rw [List.length_map,hlen]
   have hcl : ∀ i,i < len → W.cell? ⟨b,o + i,none⟩ = some (.int .i64 (zs.getD i 0)):=fun i hi => by
    have h1:=hcell i (by omega)
    have ej : ((⟨b,o,none⟩ : Addr).add i) = ⟨b,o + i,none⟩:=by unfold Addr.add; split <;> simp_all
    rw [ej] at h1
    exact h1
   have hel : ∀ (i : Nat) y,((zs.take len).map fun z => AV.int .i64 z)[i]? = some y → i < len ∧ y = .int .i64 (zs.getD i 0):=fun i y hy => by
    rw [List.getElem?_map,Option.map_eq_some_iff] at hy
    obtain ⟨z,hz1,rfl⟩:=hy
    have hi : i < (zs.take len).length:=(List.getElem?_eq_some_iff.1 hz1).1
    rw [hlen] at hi
    refine ⟨hi,?_⟩
    rw [List.getElem?_take,if_pos hi] at hz1
    rw [List.getD_eq_getElem?_getD,hz1]
    rfl
   have key := VR.sl (G := Gh.all W) ((zs.take len).map fun z => AV.int .i64 z) 1 b o cap (fun j => .int .i64 (zs.getD j 0)) (by rw [hlm]; exact hl) (fun i y hy => by rw [(hel i y hy).2]; rfl)
    (fun i y j x hy hx => by
      obtain ⟨hi,rfl⟩:=hel i y hy
      simp only [AV.cells] at hx
      have hj : j = 0:=by
       have:=(List.getElem?_eq_some_iff.1 hx).1
       simp at this; exact this
      subst hj
      simp only [Nat.mul_one,Nat.add_zero]
      exact hcl i hi)
    (fun i y j x hy hx => by
      obtain ⟨hi,rfl⟩:=hel i y hy
      simp only [AV.cells] at hx
      have hj : j = 0:=by
       have:=(List.getElem?_eq_some_iff.1 hx).1
       simp at this; exact this
      subst hj
      simp only [List.getElem?_cons_zero,Option.some.injEq] at hx
      subst hx
      simp only [Nat.mul_one,Nat.add_zero]
      exact .int _ _)
   rw [hlm] at key
   exact key
end
section
open Go.RowKit
section
variable {orc : Clr} {a : List AV} {S : St} {R : List AV → St → Prop}
theorem EvO.call {orc : Orc} {x : aT} {l : List aT} {f : FuncId} {xs ys : List AV} {bs : List Nat} {cells : List (List AV)} {K : AV → List (List AV) → Prop} (hw : bG x.guard a = some true) (hv : aop x.op (evd a) S = some (.call f xs)) (hbs : fpOf xs = bs) (hr : xs.mapM (ren bs) = some ys) (hc : bs.mapM (fun b => S.bx[b]?) = some cells) (hcl : (cells.all bB && decide bs.Nodup) = true)
  (ho : ∃ v c',orc f ys cells = some (v,c') ∧ K v c')
  (h : ∀ v c',K v c' → ∃ v',back bs.length c'.length S.bx.length v = some v' ∧ c'.all bB = true ∧ EvO (nB orc) l (putA a x.dst v') ⟨bD S.bx bs c' ++ c'.drop bs.length,S.lv⟩ R) : EvO (nB orc) (x :: l) a S R:=by
 subst hbs
 obtain ⟨v,c',h1,h2⟩:=ho
 obtain ⟨v',h3,h4,h5⟩:=h v c' h2
 refine EvO.op hw ?_ h5
 rw [oQ hv,rC]
 simp only [kV,hr,hc,hcl,if_true,h1,h3,h4]
end
section
variable {orc : Clr} {a : List AV} {S : St} {R : List AV → St → Prop}
end
end
section
open Go.RowKit
structure Kept (n m : Nat) (G : Gh) (S : St) (G2 : Gh) (S2 : St) : Prop where
 al : ∀ b,b < n → ∀ B,G.al b = some B → G2.al b = some B
 tb : ∀ t,t < m → ∀ k v,G.tb t k = some v → G2.tb t k = some v
 fz : ∀ b o u,G.fz b o = some u → G2.fz b o = some u
 sz : ∀ B m,G.sz B = some m → G2.sz B = some m
 nn : ∀ t,t < m → (∀ n,G.tb t n = none) → (∀ n,G2.tb t n = none) ∧ S2.lv[t]? = S.lv[t]?
theorem Kept.of_le {n m : Nat} {G G2 : Gh} {S S2 : St} (h : G.le G2) (k : ∀ t,t < m → (∀ n,G.tb t n = none) → (∀ n,G2.tb t n = none) ∧ S2.lv[t]? = S.lv[t]?) : Kept n m G S G2 S2:=⟨fun b _ B => h.al b B,fun t _ => h.tb t,h.fz,h.sz,k⟩
theorem Kept.mono {n m n' m' : Nat} {G G2 : Gh} {S S2 : St} (h : Kept n m G S G2 S2) (hn : n' ≤ n) (hm : m' ≤ m) : Kept n' m' G S G2 S2 :=
 ⟨fun b hb => h.al b (Nat.lt_of_lt_of_le hb hn),fun t ht => h.tb t (Nat.lt_of_lt_of_le ht hm),h.fz,h.sz,fun t ht => h.nn t (Nat.lt_of_lt_of_le ht hm)⟩
structure Lp where
 l : Nat
 t : Nat
 r : Loop
def aAP : Nat → Code
 | 0 => .ret
 | i + 1 => .exit i
def Lp.obj (L : Lp) : Nat → Obj
 | 0 => .loop { L.r with state:=.ready,pending:=none }
 | k + 1 => .loop { L.r with state:=.done,pending:=some (aAP k) }
def Lp.busy (L : Lp) : Obj:=.loop { L.r with state:=.busy,pending:=none }
def gM (D : Nat) : Deferred:={ target:=.collected D,args:=#[] }
def lR (n u : Nat) (d l : List Deferred) (w : World) : Prop:=∃ Ds : List Nat,l = Ds.map gM ++ d ∧ Ds.Nodup ∧ ∀ D ∈ Ds,(n ≤ D ∧ D < u) ∧ w.heap[D]? = some (.deferred (some []))
inductive Fact where
 | le (G0 : Gh) (n m : Nat)
 | lp (L : Lp)
 | bz (L : Lp)
 | df (n u : Nat) (d l : List Deferred)
def Fact.ok : Fact → Gh → St → World → Prop
 | .le G0 n m,G,_,_ => G0.le G ∧ (∀ b B,G0.al b = some B → b < n) ∧ ∀ t k v,G0.tb t k = some v → t < m
 | .lp L,G,S,w => (∀ n,G.tb L.t n = none) ∧ ∃ k,S.lv[L.t]? = some (k,0) ∧ w.heap[L.l]? = some (L.obj k)
 | .bz L,G,S,w => (∀ n,G.tb L.t n = none) ∧ S.lv[L.t]? = some (0,0) ∧ w.heap[L.l]? = some L.busy
 | .df n u d l,_,_,w => lR n u d l w
def Fact.wf (n m : Nat) : Fact → Prop
 | .le _ n0 m0 => n0 ≤ n ∧ m0 ≤ m
 | .lp L | .bz L => L.t < m
 | .df _ _ _ _ => True
def Fact.below (k : Nat) : Fact → Prop
 | .lp L | .bz L => L.l < k
 | .df _ u _ _ => u ≤ k
 | _ => True
def Fact.above (k : Nat) : Fact → Prop
 | .lp L | .bz L => k ≤ L.l
 | _ => True
theorem lR.oth {n u : Nat} {d l : List Deferred} {w w' : World} (h : lR n u d l w) (ho : ∀ (k : Nat) (o : Obj),w.heap[k]? = some o → o.isCells = false → w'.heap[k]? = some o) : lR n u d l w':=by
 obtain ⟨Ds,h1,h2,h3⟩:=h
 exact ⟨Ds,h1,h2,fun D hD => ⟨(h3 D hD).1,ho D _ (h3 D hD).2 rfl⟩⟩
theorem lR.mono {n u u' : Nat} {d l : List Deferred} {w : World} (h : lR n u d l w) (hu : u ≤ u') : lR n u' d l w:=by
 obtain ⟨Ds,h1,h2,h3⟩:=h
 exact ⟨Ds,h1,h2,fun D hD => ⟨⟨(h3 D hD).1.1,Nat.lt_of_lt_of_le (h3 D hD).1.2 hu⟩,(h3 D hD).2⟩⟩
theorem Lp.obj_cells (L : Lp) (k : Nat) : (L.obj k).isCells = false:=by cases k <;> rfl
theorem Fact.step {f : Fact} {G G' : Gh} {S S' : St} {w w' : World} (h : f.ok G S w) (hg : Gro G S w G' S' w') (hk : Keep G S G' S') : f.ok G' S' w':=by
 cases f with
 | le G0 n m => exact ⟨h.1.trans hg.le,h.2⟩
 | lp L =>
  obtain ⟨h1,k,h2,h3⟩:=h
  have ht:=(List.getElem?_eq_some_iff.1 h2).1
  exact ⟨hk.tb L.t ht h1,k,(hk.lvn L.t ht h1).trans h2,hg.oth _ _ h3 (L.obj_cells k)⟩
 | bz L =>
  obtain ⟨h1,h2,h3⟩:=h
  have ht:=(List.getElem?_eq_some_iff.1 h2).1
  exact ⟨hk.tb L.t ht h1,(hk.lvn L.t ht h1).trans h2,hg.oth _ _ h3 rfl⟩
 | df n u d l => exact lR.oth h hg.oth
theorem Fact.ghost {f : Fact} {n m : Nat} {G G2 : Gh} {S S2 : St} {w : World} (h : f.ok G S w) (hw : f.wf n m) (hk : Kept n m G S G2 S2) : f.ok G2 S2 w:=by
 cases f with
 | le G0 n0 m0 =>
  obtain ⟨h1,h2,h3⟩:=h
  exact ⟨⟨fun b B hb => hk.al b (Nat.lt_of_lt_of_le (h2 b B hb) hw.1) B (h1.al b B hb),fun t k v hv => hk.tb t (Nat.lt_of_lt_of_le (h3 t k v hv) hw.2) k v (h1.tb t k v hv),fun b o u hu => hk.fz b o u (h1.fz b o u hu),fun B m hu => hk.sz B m (h1.sz B m hu)⟩,h2,h3⟩
 | lp L =>
  obtain ⟨h1,k,h2,h3⟩:=h
  obtain ⟨k1,k2⟩:=hk.nn L.t hw h1
  exact ⟨k1,k,k2.trans h2,h3⟩
 | bz L =>
  obtain ⟨h1,h2,h3⟩:=h
  obtain ⟨k1,k2⟩:=hk.nn L.t hw h1
  exact ⟨k1,k2.trans h2,h3⟩
 | df n u d l => exact h
theorem Fact.other {f : Fact} {G : Gh} {S : St} {w : World} {l : Nat} {r : Loop} (o : Obj) (h : f.ok G S w) (hl : w.heap[l]? = some (.loop r)) (hne : match f with | .lp L | .bz L => L.l ≠ l | _ => True) : f.ok G S (w.putObj l o):=by
 cases f with
 | le G0 n m => exact h
 | lp L => exact ⟨h.1,h.2.imp fun k hk => ⟨hk.1,(World.putObj_heap_other hne).trans hk.2⟩⟩
 | bz L => exact ⟨h.1,h.2.1,(World.putObj_heap_other hne).trans h.2.2⟩
 | df n u d l' =>
  obtain ⟨Ds,h1,h2,h3⟩:=h
  refine ⟨Ds,h1,h2,fun D hD => ⟨(h3 D hD).1,?_⟩⟩
  have h4:=(h3 D hD).2
  rw [World.putObj_heap_other]
  ·exact h4
  ·rintro rfl; rw [hl] at h4; cases h4
theorem Fact.flag {f : Fact} {G : Gh} {S : St} {w : World} {t : Nat} (p : Nat × Nat) (h : f.ok G S w) (hne : match f with | .lp L | .bz L => L.t ≠ t | _ => True) : f.ok G ⟨S.bx,S.lv.set t p⟩ w:=by
 cases f with
 | le G0 n m => exact h
 | lp L => exact ⟨h.1,h.2.imp fun k hk => ⟨(List.getElem?_set_ne (Ne.symm hne)).trans hk.1,hk.2⟩⟩
 | bz L => exact ⟨h.1,(List.getElem?_set_ne (Ne.symm hne)).trans h.2.1,h.2.2⟩
 | df n u d l' => exact h
structure Cx where
 n : Nat
 m : Nat
 k : Nat
 fs : List Fact
 hw : ∀ f ∈ fs,f.wf n m
 hk : ∀ f ∈ fs,f.below k
def Cx.X (c : Cx) (G : Gh) (S : St) (w : World) : Prop:=∀ f ∈ c.fs,f.ok G S w
def Cx.nat (n : Nat) : Cx:=⟨n,0,0,[],fun _ h => (by cases h),fun _ h => (by cases h)⟩
instance : Coe Nat Cx:=⟨Cx.nat⟩
instance (n : Nat) : OfNat Cx n:=⟨Cx.nat n⟩
@[simp] theorem Cx.nat_n (n : Nat) : (Cx.nat n).n = n:=rfl
@[simp] theorem Cx.nat_m (n : Nat) : (Cx.nat n).m = 0:=rfl
@[simp] theorem Cx.lit_n (n : Nat) : (OfNat.ofNat n : Cx).n = n:=rfl
@[simp] theorem Cx.lit_m (n : Nat) : (OfNat.ofNat n : Cx).m = 0:=rfl
structure Ent where
 G : Gh
 S : St
 w : World
 d : List Deferred
 inv : Inv G S w
 c : Cx
 lv : S.lv.length ≤ c.m
 tr : ∀ t,t < S.lv.length → ∃ n v,G.tb t n = some v
 hc : S.bx.length ≤ c.n
 hW : ∀ f ∈ c.fs,f.above w.heap.size
 b : Nat
 hb : w.heap.size ≤ b
structure Dfr (E : Ent) (G : Gh) (S : St) (l : List Deferred) (w : World) : Prop where
 d : lR E.b w.heap.size E.d l w
 x : E.c.X G S w
 m : E.c.m ≤ S.lv.length
 k : E.c.k ≤ w.heap.size
 b : E.b ≤ w.heap.size
theorem Dfr.step {E : Ent} {G G' : Gh} {S S' : St} {l : List Deferred} {w w' : World} (h : Dfr E G S l w) (hg : Gro G S w G' S' w') (hk : Keep G S G' S') : Dfr E G' S' l w' :=
 ⟨(h.d.oth hg.oth).mono hg.size,fun f hf => Fact.step (h.x f hf) hg hk,Nat.le_trans h.m hk.ll,Nat.le_trans h.k hg.size,Nat.le_trans h.b hg.size⟩
theorem Dfr.ghost {E : Ent} {G G2 : Gh} {S S2 : St} {l : List Deferred} {w : World} (h : Dfr E G S l w) (hm : E.c.m ≤ S2.lv.length) (hf : Kept E.c.n E.c.m G S G2 S2) : Dfr E G2 S2 l w:=⟨h.d,fun f hff => Fact.ghost (h.x f hff) (E.c.hw f hff) hf,hm,h.k,h.b⟩
theorem Dfr.same {E : Ent} {G : Gh} {S S2 : St} {l : List Deferred} {w : World} (h : Dfr E G S l w) (hl : S2.lv = S.lv) : Dfr E G S2 l w:=h.ghost (by rw [hl]; exact h.m) (.of_le (.refl G) fun t _ h0 => ⟨h0,by rw [hl]⟩)
theorem Dfr.same2 {E : Ent} {G G2 : Gh} {S S2 : St} {l : List Deferred} {w : World} (h : Dfr E G S l w) (hle : G.le G2) (ht : G2.tb = G.tb) (hl : S2.lv = S.lv) : Dfr E G2 S2 l w:=h.ghost (by rw [hl]; exact h.m) (.of_le hle fun t _ h0 => ⟨by rw [ht]; exact h0,by rw [hl]⟩)
def Ent.of (G : Gh) (S : St) (w : World) (inv : Inv G S w) (lv : S.lv = []) : Ent:=⟨G,S,w,[],inv,Cx.nat S.bx.length,by rw [lv]; exact Nat.le_refl _,fun t ht => by (rw [lv] at ht; exact absurd ht (Nat.not_lt_zero _)),Nat.le_refl _,fun _ h => (by cases h),w.heap.size,Nat.le_refl _⟩
theorem Dfr.begin (G : Gh) (S : St) (w : World) (inv : Inv G S w) (lv : S.lv = []) : Dfr (Ent.of G S w inv lv) G S [] w:=⟨⟨[],rfl,.nil,fun _ h => (by cases h)⟩,fun _ h => (by cases h),Nat.zero_le _,Nat.zero_le _,Nat.le_refl _⟩
def At (E : Ent) (a : List AV) (S : St) (act : Act) (w : World) : Prop:=∃ G,Inv G S w ∧ Rel G a act ∧ Gro E.G E.S E.w G S w ∧ Keep E.G E.S G S ∧ Dfr E G S act.defers w
theorem Ent.lv0 (E : Ent) (h : E.c.m = 0) : E.S.lv = []:=List.eq_nil_of_length_eq_zero (by have:=E.lv; omega)
theorem Ent.tb0 (E : Ent) (h : E.c.m = 0) (t : Nat) : ¬ t < E.S.lv.length:=by rw [E.lv0 h]; exact Nat.not_lt_zero t
theorem Ent.tbN (E : Ent) {t : Nat} (ht : t < E.S.lv.length) (h0 : ∀ n,E.G.tb t n = none) : False:=by
 obtain ⟨n,v,h⟩:=E.tr t ht
 rw [h0] at h; cases h
def ExO (n0 : Cx) (P : Program) (xs : List aT) (a : List AV) (S : St) (R : List AV → St → Prop) : Prop :=
 ∀ (E : Ent),E.c = n0 → ∀ (ops : Array Oper) (l : List Oper) (Q : Exit → Act → World → Prop),l.mapM (cL P ops) = some xs → (∀ a' S' act' w',R a' S' → At E a' S' act' w' → Q .normal act' w') → ∀ act w,At E a S act w → wpList P ops Q l act w
def Ex (n0 : Cx) (md : Md) (P : Program) (c : cD) (a : List AV) (S : St) (Q : AEx → List AV → St → Prop) : Prop :=
 ∀ (E : Ent),E.c = n0 → ∀ (code : Code),bK P code = some c → ∀ act w,At E a S act w → cwp md P code (fun e act' w' => ∃ x a' S',e = x.out ∧ Q x a' S' ∧ At E a' S' act' w') act w
structure Does (P : Program) (f : FuncId) (xs : List AV) (cells : List (List AV)) (Q : AV → List (List AV) → Prop) : Prop where
 enter : ∀ (us : Array Value) (w : World),(callFunc f us).run P w = .ok (.enter f us) w
 calls : ∀ (G : Gh) (w : World) (us : Array Value),Inv G ⟨cells,[]⟩ w → VRs G xs us → Calls P f us w fun e w' => ∃ u v c' G' bx lv,Q v c' ∧ e = .returned u ∧ VR G' v u ∧ cells.length ≤ c'.length ∧ Inv G' ⟨c' ++ bx,lv⟩ w' ∧ Gro G ⟨cells,[]⟩ w G' ⟨c' ++ bx,lv⟩ w'
theorem Does.mono {P : Program} {f : FuncId} {xs : List AV} {cells : List (List AV)} {Q Q' : AV → List (List AV) → Prop} (h : Does P f xs cells Q) (k : ∀ v c',Q v c' → Q' v c') : Does P f xs cells Q' :=
 ⟨h.enter,fun G w us hI hv => (h.calls G w us hI hv).mono fun e w' ⟨u,v,c',G',bx,lv,h1,h2⟩ => ⟨u,v,c',G',bx,lv,k _ _ h1,h2⟩⟩
theorem mA.does {P : Program} {f : FuncId} {xs : List AV} {cells : List (List AV)} {Q : AV → List (List AV) → Prop} (h : mA P f xs cells Q) : Does P f xs cells Q:=by
 obtain ⟨v,c',hc,hq⟩:=h
 exact ⟨hc.enter,fun G w us hI hv => (hc.calls G w us hI hv).mono fun e w' ⟨u,G',bx,lv,h1,h2,h3,h4⟩ => ⟨u,v,c',G',bx,lv,hq,h1,h2,hc.len,h3,h4⟩⟩
section rules
variable {n0 : Cx} {md : Md} {P : Program} {a : List AV} {S : St} {Q : AEx → List AV → St → Prop} {R : List AV → St → Prop}
theorem ExO.nil (h : R a S) : ExO n0 P [] a S R:=by
 intro E _ ops l Q hc hq act w hA
 cases l with
 | nil => exact hq _ _ _ _ h hA
 | cons o l =>
  rw [List.mapM_cons] at hc
  simp only [Option.bind_eq_bind,Option.bind_eq_some_iff,Option.pure_def,Option.some.injEq] at hc
  obtain ⟨_,_,_,_,h⟩:=hc
  cases h
theorem cG {P : Program} {ops : Array Oper} {l : List Oper} {x : aT} {xs : List aT} (h : l.mapM (cL P ops) = some (x :: xs)) : ∃ o l',l = o :: l' ∧ cL P ops o = some x ∧ l'.mapM (cL P ops) = some xs:=by
 cases l with
 | nil => simp at h
 | cons o l =>
  rw [List.mapM_cons] at h
  simp only [Option.bind_eq_bind,Option.bind_eq_some_iff,Option.pure_def,Option.some.injEq] at h
  obtain ⟨y,hy,ys,hys,h⟩:=h
  cases h
  exact ⟨o,l,rfl,hy,hys⟩
theorem ExO.op {X : Clr} (hX : eE P X) {x : aT} {xs : List aT} {v : AV} {S1 : St} (hw : bG x.guard a = some true) (hv : evOp X x.op a S = some (v,S1)) (h : ExO n0 P xs (putA a x.dst v) S1 R) : ExO n0 P (x :: xs) a S R:=by
 intro E hn ops l Q hc hq act w hA
 obtain ⟨o,l',rfl,hx,hl'⟩:=cG hc
 obtain ⟨h1,h2,_⟩:=cN hx
 obtain ⟨G,hI,hR,hg,hk,hd⟩:=hA
 simp only [wpList]
 rw [if_pos (cU hx hR hw)]
 refine .inl (aAV hX h1 hv hI hR fun G' u w' hv' hI' hg' hk' => ?_)
 exact h E hn ops l' Q hl' hq _ _ ⟨G',hI',h2 ▸ (hR.mono hg'.le).put x.dst hv',hg.trans hg',hk.trans hk',by cases o.dst <;> exact hd.step hg' hk'⟩
theorem ExO.skip {x : aT} {xs : List aT} (hw : bG x.guard a = some false) (h : ExO n0 P xs (putA a x.dst (.tup [])) S R) : ExO n0 P (x :: xs) a S R:=by
 intro E hn ops l Q hc hq act w hA
 obtain ⟨o,l',rfl,hx,hl'⟩:=cG hc
 obtain ⟨h1,h2,_⟩:=cN hx
 obtain ⟨G,hI,hR,hg,hk,hd⟩:=hA
 simp only [wpList]
 rw [if_neg (by rw [cU hx hR hw]; simp)]
 exact h E hn ops l' Q hl' hq _ _ ⟨G,hI,h2 ▸ hR.put x.dst (VR.undef G),hg,hk,by cases o.dst <;> exact hd⟩
theorem ExO.call {x : aT} {l : List aT} {f : FuncId} {xs ys : List AV} {bs : List Nat} {cells : List (List AV)} {K : AV → List (List AV) → Prop} (hw : bG x.guard a = some true) (hv : aop x.op (evd a) S = some (.call f xs)) (hbs : fpOf xs = bs) (hr : xs.mapM (ren bs) = some ys) (hc : bs.mapM (fun b => S.bx[b]?) = some cells) (hcl : (cells.all bB && decide bs.Nodup) = true)
  (ho : Does P f ys cells K)
  (h : ∀ v c',K v c' → ∃ v',back bs.length c'.length S.bx.length v = some v' ∧ c'.all bB = true ∧ ExO n0 P l (putA a x.dst v') ⟨bD S.bx bs c' ++ c'.drop bs.length,S.lv⟩ R) : ExO n0 P (x :: l) a S R:=by
 intro E hn ops l0 Q hco hq act w hA
 obtain ⟨o,l',rfl,hx,hl'⟩:=cG hco
 obtain ⟨h1,h2,_⟩:=cN hx
 obtain ⟨G,hI,hR,hg,hk,hd⟩:=hA
 simp only [wpList]
 rw [if_pos (cU hx hR hw)]
 refine .inl ?_
 unfold Oper.wp
 have hs:=jF h1 (fun _ => rfl) (hR.opd hI.gl) hI hv
 obtain ⟨us,hrun,hvs⟩:=hs
 simp only [Bool.and_eq_true,decide_eq_true_eq,List.all_eq_true] at hcl
 obtain ⟨hIc,hvc⟩:=uR hr hc hcl.1 hcl.2 hI hvs
 rw [hrun,ho.enter]
 simp only [Oper.upon_enter]
 refine (ho.calls (G.sub bs) w us hIc hvc).mono ?_
 rintro e w' ⟨u,v,c',Gc,bx,lv,hK,rfl,hvr,hlen,hI',hg'⟩
 obtain ⟨v',hback,hclean',hrest⟩:=h v c' hK
 obtain ⟨G',k1,k2,k3,k4,k5⟩:=sB hc hcl.2 hI hlen hback (List.all_eq_true.1 hclean') hvr hI' hg'
 have hk' : Keep G S G' ⟨bD S.bx bs c' ++ c'.drop bs.length,S.lv⟩:=⟨by simp [iV],Nat.le_refl _,fun b hb h => by rw [k4 b hb]; exact h,fun t _ h n => by rw [k5]; exact h n,fun _ _ _ => rfl⟩
 exact hrest E hn ops l' Q hl' hq _ _ ⟨G',k2,h2 ▸ (hR.mono k3.le).put x.dst k1,hg.trans k3,hk.trans hk',by cases o.dst <;> exact hd.step k3 hk'⟩
theorem Ex.mono {c : cD} {Q' : AEx → List AV → St → Prop} (h : Ex n0 md P c a S Q) (k : ∀ x a' S',Q x a' S' → Q' x a' S') : Ex n0 md P c a S Q' :=
 fun E hn code hc act w hA => gE (h E hn code hc act w hA) fun e act' w' ⟨x,a',S',h1,h2,h3⟩ => ⟨x,a',S',h1,k _ _ _ h2,h3⟩
theorem aBj {P : Program} {code : Code} {c d : cD} (h : bK P code = some (.seq c d)) : ∃ x y,code = .seq x y ∧ bK P x = some c ∧ bK P y = some d:=by
 cases code <;> simp only [bK,reduceCtorEq] at h
 case seq x y =>
  split at h
  ·rename_i h1 h2
   simp only [Option.some.injEq,cD.seq.injEq] at h
   exact ⟨x,y,rfl,h.1 ▸ h1,h.2 ▸ h2⟩
  ·cases h
 case cond => split at h <;> simp at h
 case region id ops draw =>
  split at h
  ·split at h
   ·split at h
    ·split at h <;> simp at h
    ·cases h
   ·cases h
  ·split at h
   ·cases h
   ·simp at h
 case block => simp at h
 case loop => simp at h
 case rangeFunc => split at h <;> simp at h
 all_goals simp at h
theorem zU {P : Program} {code : Code} {y : AOpd} {c d : cD} (h : bK P code = some (.cond y c d)) : ∃ z x1 x2,code = .cond z x1 x2 ∧ aV z = some y ∧ bK P x1 = some c ∧ bK P x2 = some d:=by
 cases code <;> simp only [bK,reduceCtorEq] at h
 case cond z x1 x2 =>
  split at h
  ·rename_i h1 h2 h3
   simp only [Option.some.injEq,cD.cond.injEq] at h
   exact ⟨z,x1,x2,rfl,h.1 ▸ h1,h.2.1 ▸ h2,h.2.2 ▸ h3⟩
  ·cases h
 case seq => split at h <;> simp at h
 case region id ops draw =>
  split at h
  ·split at h
   ·split at h
    ·split at h <;> simp at h
    ·cases h
   ·cases h
  ·split at h
   ·cases h
   ·simp at h
 case rangeFunc => split at h <;> simp at h
 all_goals simp at h
theorem yY {P : Program} {code : Code} {id : Nat} {c : cD} (h : bK P code = some (.block id c)) : ∃ x,code = .block id x ∧ bK P x = some c:=by
 cases code <;> simp only [bK,reduceCtorEq] at h
 case block id' x =>
  simp only [Option.map_eq_some_iff,cD.block.injEq] at h
  obtain ⟨c',h1,rfl,rfl⟩:=h
  exact ⟨x,rfl,h1⟩
 case seq => split at h <;> simp at h
 case cond => split at h <;> simp at h
 case region id ops draw =>
  split at h
  ·split at h
   ·split at h
    ·split at h <;> simp at h
    ·cases h
   ·cases h
  ·split at h
   ·cases h
   ·simp at h
 case rangeFunc => split at h <;> simp at h
 all_goals simp at h
theorem sX {P : Program} {code : Code} {c : cD} (h : bK P code = some (.loop c)) : ∃ x,code = .loop x ∧ bK P x = some c:=by
 cases code <;> simp only [bK,reduceCtorEq] at h
 case loop x =>
  simp only [Option.map_eq_some_iff,cD.loop.injEq] at h
  obtain ⟨c',h1,rfl⟩:=h
  exact ⟨x,rfl,h1⟩
 case seq => split at h <;> simp at h
 case cond => split at h <;> simp at h
 case region id ops draw =>
  split at h
  ·split at h
   ·split at h
    ·split at h <;> simp at h
    ·cases h
   ·cases h
  ·split at h
   ·cases h
   ·simp at h
 case rangeFunc => split at h <;> simp at h
 all_goals simp at h
theorem uP {P : Program} {code : Code} {xs : List aT} (h : bK P code = some (.reg xs)) : ∃ id ops,code = .region id ops false ∧ kD ops = true ∧ ops.toList.mapM (cL P ops) = some xs:=by
 cases code <;> simp only [bK,reduceCtorEq] at h
 case region id ops draw =>
  split at h
  ·split at h
   ·split at h
    ·split at h <;> simp at h
    ·cases h
   ·cases h
  ·rename_i hd
   split at h
   ·cases h
   ·rename_i hnd
    have hd : draw = false:=by simpa using hd
    subst hd
    simp only [Option.map_eq_some_iff,cD.reg.injEq] at h
    obtain ⟨ys,h1,rfl⟩:=h
    exact ⟨id,ops,rfl,by simpa using hnd,h1⟩
 case seq => split at h <;> simp at h
 case cond => split at h <;> simp at h
 case rangeFunc => split at h <;> simp at h
 all_goals simp at h
theorem Ex.skip (h : Q .norm a S) : Ex n0 md P .skip a S Q:=by
 intro E hn code hc act w hA
 cases code <;> simp only [bK,reduceCtorEq] at hc
 case skip => exact aCo ⟨.norm,a,S,rfl,h,hA⟩
 case label => exact aAy ⟨.norm,a,S,rfl,h,hA⟩
 case seq => split at hc <;> simp at hc
 case cond => split at hc <;> simp at hc
 case region id ops draw =>
  split at hc
  ·split at hc
   ·split at hc
    ·split at hc <;> simp at hc
    ·cases hc
   ·cases hc
  ·split at hc
   ·cases hc
   ·simp at hc
 case rangeFunc => split at hc <;> simp at hc
 all_goals simp at hc
theorem Ex.ret (h : Q .ret a S) : Ex n0 md P .ret a S Q:=by
 intro E hn code hc act w hA
 cases code <;> simp only [bK,reduceCtorEq] at hc
 case ret => exact aEa ⟨.ret,a,S,rfl,h,hA⟩
 case seq => split at hc <;> simp at hc
 case cond => split at hc <;> simp at hc
 case region id ops draw =>
  split at hc
  ·split at hc
   ·split at hc
    ·split at hc <;> simp at hc
    ·cases hc
   ·cases hc
  ·split at hc
   ·cases hc
   ·simp at hc
 case rangeFunc => split at hc <;> simp at hc
 all_goals simp at hc
theorem Ex.exit {id : Nat} (h : Q (.ex id) a S) : Ex n0 md P (.exit id) a S Q:=by
 intro E hn code hc act w hA
 cases code <;> simp only [bK,reduceCtorEq] at hc
 case exit id' => cases hc; exact aCp ⟨.ex id,a,S,rfl,h,hA⟩
 case seq => split at hc <;> simp at hc
 case cond => split at hc <;> simp at hc
 case region id ops draw =>
  split at hc
  ·split at hc
   ·split at hc
    ·split at hc <;> simp at hc
    ·cases hc
   ·cases hc
  ·split at hc
   ·cases hc
   ·simp at hc
 case rangeFunc => split at hc <;> simp at hc
 all_goals simp at hc
theorem Ex.reg {xs : List aT} (h : ExO n0 P xs a S (Q .norm)) : Ex n0 md P (.reg xs) a S Q:=by
 intro E hn code hc act w hA
 obtain ⟨id,ops,rfl,hnd,hxs⟩:=uP hc
 refine yQ hnd (fun a w h => by
  obtain ⟨x,_,_,h,_⟩:=h
  cases x <;> cases h) ?_
 have hl:=wpOps_eq_wpList (P:=P) (ops:=ops) (Q:=fun e act' w' => ∃ x a' S',e = x.out ∧ Q x a' S' ∧ At E a' S' act' w') ops.toList 0 (fun j => by simp)
 rw [Array.length_toList,← List.range_eq_range'] at hl
 rw [hl]
 exact h E hn ops _ _ hxs (fun a' S' act' w' h1 h2 => ⟨.norm,a',S',rfl,h1,h2⟩) act w hA
theorem Ex.dreg {X : Clr} (hX : eE P X) {m w : Nat} {xs : List aT} {a' : List AV} {S' : St} (h : vS X m xs a S = some (a',S')) (hq : Q .norm a' S') : Ex n0 md P (.dreg m w xs) a S Q:=by
 intro E hn code hc act w hA
 have hr:=(pQ (md:=md) hX 1 code _ a a' S S' .norm hc (by simp only [cB,h])).1
 obtain ⟨G,hI,hR,hg,hk,hd⟩:=hA
 refine gE (hr G act w hI hR) ?_
 rintro e act' w' ⟨he,G',h1,h2,h3,h4,h5⟩
 exact ⟨.norm,a',S',he,hq,G',h1,h2,hg.trans h3,hk.trans h4,h5 ▸ hd.step h3 h4⟩
theorem Ex.seq {c d : cD} (h : Ex n0 md P c a S fun x a' S' => match x with | .norm => Ex n0 md P d a' S' Q | x => Q x a' S') : Ex n0 md P (.seq c d) a S Q:=by
 intro E hn code hc act w hA
 obtain ⟨x,y,rfl,h1,h2⟩:=aBj hc
 refine aBi (gE (h E hn x h1 act w hA) ?_)
 rintro e act' w' ⟨z,a',S',rfl,hq,hA'⟩
 cases z with
 | norm => exact hq E hn y h2 act' w' hA'
 | ex i => exact ⟨.ex i,a',S',rfl,hq,hA'⟩
 | ret => exact ⟨.ret,a',S',rfl,hq,hA'⟩
theorem Ex.cond {y : AOpd} {c d : cD} {b : Bool} (hb : evd a y = .bool b) (h : Ex n0 md P (if b then c else d) a S Q) : Ex n0 md P (.cond y c d) a S Q:=by
 intro E hn code hc act w hA
 obtain ⟨z,x1,x2,rfl,h1,h2,h3⟩:=zU hc
 obtain ⟨G,hI,hR,hg,hk,hd⟩:=hA
 have hz:=(hR.opd hI.gl) z y h1
 rw [hb] at hz
 refine aCq hz.inv_bool ?_
 cases b
 ·exact h E hn x2 h3 act w ⟨G,hI,hR,hg,hk,hd⟩
 ·exact h E hn x1 h2 act w ⟨G,hI,hR,hg,hk,hd⟩
theorem Ex.block {id : Nat} {c : cD} (h : Ex n0 md P c a S fun x a' S' => Q (if x = .ex id then .norm else x) a' S') : Ex n0 md P (.block id c) a S Q:=by
 intro E hn code hc act w hA
 obtain ⟨x,rfl,h1⟩:=yY hc
 refine aAz (gE (h E hn x h1 act w hA) ?_)
 rintro e act' w' ⟨z,a',S',rfl,hq,hA'⟩
 cases z with
 | norm => exact ⟨.norm,a',S',rfl,hq,hA'⟩
 | ret => exact ⟨.ret,a',S',rfl,hq,hA'⟩
 | ex i =>
  simp only [AEx.out,Exit.inBlock]
  simp only [AEx.ex.injEq] at hq
  by_cases hi : i = id
  ·rw [if_pos hi] at hq; rw [if_pos hi]; exact ⟨.norm,a',S',rfl,hq,hA'⟩
  ·rw [if_neg hi] at hq; rw [if_neg hi]; exact ⟨.ex i,a',S',rfl,hq,hA'⟩
theorem Ex.loop {c : cD} (I : Nat → List AV → St → Prop) (k : Nat) (h : I k a S)
  (round : ∀ k a S,I k a S → Ex n0 md P c a S fun x a' S' => match x with | .norm => ∃ j,j < k ∧ I j a' S' | x => Q x a' S') : Ex n0 md P (.loop c) a S Q:=by
 intro E hn code hc act w hA
 obtain ⟨x,rfl,h1⟩:=sX hc
 let I0 : Nat → Act → World → Prop:=fun k act w => ∃ a S,I k a S ∧ At E a S act w
 refine yR (fun act w => ∃ k,I0 k act w) (fun act w => kE fun k => I0 k act w) ⟨k,a,S,h,hA⟩ ?_
 intro act1 w1 hex
 obtain ⟨⟨a1,S1,hi1,hA1⟩,hmin⟩:=iM hex
 generalize hm : (kE fun k => I0 k act1 w1) = m at hi1 hmin
 refine gE (round m a1 S1 hi1 E hn x h1 act1 w1 hA1) ?_
 rintro e act2 w2 ⟨z,a2,S2,rfl,hq,hA2⟩
 cases z with
 | norm =>
  obtain ⟨j,hj,hij⟩:=hq
  have hi : I0 j act2 w2:=⟨a2,S2,hij,hA2⟩
  refine ⟨⟨j,hi⟩,?_⟩
  have:=(iM (p:=fun k => I0 k act2 w2) ⟨j,hi⟩).2 j hi
  exact Nat.lt_of_le_of_lt this hj
 | ret => exact ⟨.ret,a2,S2,rfl,hq,hA2⟩
 | ex i => exact ⟨.ex i,a2,S2,rfl,hq,hA2⟩
end rules
theorem Inv.putObj {G : Gh} {S : St} {w : World} (hI : Inv G S w) {D : Nat} {o : Obj} (o' : Obj) (h : w.heap[D]? = some o) (ho : o.isCells = false) : Inv G S (w.putObj D o'):=by
 have hne : ∀ {B : Nat} {us : Array Value} {T : TypeId} {r : Nat × Nat},w.heap[B]? = some (Obj.cells us T r) → (w.putObj D o').heap[B]? = some (Obj.cells us T r):=fun {B us T r} hB => by
  have : B ≠ D:=by
   rintro rfl
   rw [h] at hB; cases hB; cases ho
  rw [World.putObj_heap_other this]; exact hB
 have hsz : (w.putObj D o').heap.size = w.heap.size:=by simp [World.putObj]
 refine ⟨fun b B cs h1 h2 => ?_, fun t n s0 B s c h1 h2 => ?_, fun b o u hf => ?_, fun b B h1 => ?_, hI.dtb, hI.injA, hI.injT, hI.sep, hI.gl, fun B m hm => by
   obtain ⟨us,T,k1,k2⟩:=hI.sz B m hm
   exact ⟨us, T, hne k1, k2⟩⟩
 ·rcases hI.box b B cs h1 h2 with h0 | ⟨us,T,k1,k2⟩
  ·exact .inl h0
  ·exact .inr ⟨us,T,hne k1,k2⟩
 ·obtain ⟨k1,⟨us,T,k2,k3⟩,k4⟩:=hI.tok t n s0 B s c h1 h2
  exact ⟨k1,⟨us,T,hne k2,k3⟩,k4⟩
 ·have hc:=hI.fz b o u hf
  obtain ⟨x,hx,hx'⟩:=cells_of_cell hc
  have : b ≠ D:=by
   rintro rfl
   rw [h] at hx; cases hx; rw [ho] at hx'; cases hx'
  rw [gQ (World.putObj_heap_other this)]
  exact hc
 ·rw [hsz]; exact hI.dal b B h1
def gR (w : World) : List Nat → World
 | [] => w
 | D :: Ds => gR (w.putObj D (.deferred none)) Ds
theorem Inv.shut {G : Gh} {S : St} : ∀ {Ds : List Nat} {w : World},Inv G S w → Ds.Nodup → (∀ D ∈ Ds,w.heap[D]? = some (.deferred (some []))) → Inv G S (gR w Ds)
 | [],w,hI,_,_ => hI
 | D :: Ds,w,hI,hn,h => by
  have hn':=List.nodup_cons.1 hn
  show Inv G S (gR (w.putObj D (.deferred none)) Ds)
  refine Inv.shut (hI.putObj _ (h D (by simp)) rfl) hn'.2 fun D' hD' => ?_
  rw [World.putObj_heap_other (by rintro rfl; exact hn'.1 hD')]
  exact h D' (List.mem_cons_of_mem _ hD')
theorem eW : ∀ {Ds : List Nat} {w : World},(gR w Ds).heap.size = w.heap.size ∧ (gR w Ds).os = w.os ∧ (gR w Ds).tape = w.tape ∧ (gR w Ds).output = w.output ∧ ∀ B,B ∉ Ds → (gR w Ds).heap[B]? = w.heap[B]?
 | [],w => ⟨rfl,rfl,rfl,rfl,fun _ _ => rfl⟩
 | D :: Ds,w => by
  obtain ⟨h1,h2,h3,h4,h5⟩:=eW (Ds:=Ds) (w:=w.putObj D (.deferred none))
  refine ⟨h1.trans (by simp [World.putObj]),h2,h3,h4,fun B hB => ?_⟩
  simp only [List.mem_cons,not_or] at hB
  exact (h5 B hB.2).trans (World.putObj_heap_other hB.1)
theorem Gro.shut {G G' : Gh} {S S' : St} {w w' : World} (h : Gro G S w G' S' w') {Ds : List Nat} (hD : ∀ D ∈ Ds,w.heap.size ≤ D) : Gro G S w G' S' (gR w' Ds):=by
 obtain ⟨h1,h2,h3,h4,h5⟩:=eW (Ds:=Ds) (w:=w')
 refine ⟨h.le,h2.trans h.os,h3.trans h.tape,h4.trans h.output,by rw [h1]; exact h.size,fun B hB hno => ?_,h.own,fun k o hk ho => ?_⟩
 ·obtain ⟨k1,k2⟩:=h.fr B hB hno
  exact ⟨(h5 B fun hm => by have:=hD B hm; omega).trans k1,k2⟩
 ·have hlt:=(Array.getElem?_eq_some_iff.1 hk).1
  rw [h5 k fun hm => by have:=hD k hm; omega]
  exact h.oth k o hk ho
theorem pL {n : Nat} {P : Program} {fn : Func} {tmps : Array Value} {R : Ending → World → Prop} : ∀ (Ds : List Nat) (w : World),Ds.Nodup → (∀ D ∈ Ds,w.heap[D]? = some (.deferred (some []))) → (∃ v,(results fn tmps).run P (gR w Ds) = .ok v (gR w Ds) ∧ R (.returned v) (gR w Ds)) → LeavesInM Fence.wide n P fn tmps R (Ds.map gM) .returning w
 | [],w,_,_,h => h
 | D :: Ds,w,hn,h,hr => by
  have hn':=List.nodup_cons.1 hn
  refine ⟨by simp,.inl ⟨D,w.putObj D (.deferred none),rfl,run_takeDeferred (h D (by simp)),pL Ds _ hn'.2 (fun D' hD' => ?_) hr⟩⟩
  rw [World.putObj_heap_other (by rintro rfl; exact hn'.1 hD')]
  exact h D' (List.mem_cons_of_mem _ hD')
theorem eD {P : Program} {f : FuncId} {fn : Func} {c : Code} {args : Array Value} {w : World} {R : Ending → World → Prop} (hf : P.funcs[f]? = some fn) (hb : fn.body = some c)
  (h : c.wp P (fun e a' w' => (e = .normal ∨ e = .ret) ∧ ∃ Ds : List Nat, a'.defers = Ds.map gM ∧ Ds.Nodup ∧ (∀ D ∈ Ds, w'.heap[D]? = some (.deferred (some []))) ∧ ∃ v, (results fn a'.tmps).run P (gR w' Ds) = .ok v (gR w' Ds) ∧ R (.returned v) (gR w' Ds))
    { tmps := args ++ Array.replicate (fn.ntmps - args.size) undef, defers := [] } w) : Calls P f args w R := by
 refine callsIn_wide.1 (callsIn_of_wp_marks (F:=Fence.wide) (n:=0) hf hb trivial (wpIn_wide.2 (wp_mono h ?_)) rfl)
 rintro e a' w' ⟨he,Ds,h1,h2,h3,h4⟩
 rcases he with rfl | rfl
 ·show LeavesInM _ _ _ _ _ _ a'.defers _ _
  rw [h1]; exact pL Ds w' h2 h3 h4
 ·show LeavesInM _ _ _ _ _ _ a'.defers _ _
  rw [h1]; exact pL Ds w' h2 h3 h4
theorem Does.of {P : Program} {f : FuncId} {F : AFn} (hF : aS P f = some F) {xs : List AV} {cells : List (List AV)} {Q : AV → List (List AV) → Prop}
  (h : Ex cells.length .plain P F.code (start F xs) ⟨cells,[]⟩ fun x a' S' => (x = .norm ∨ x = .ret) ∧ ∃ v,iE a' S' F.res = some v ∧ cells.length ≤ (if v.names then S'.bx else S'.bx.take cells.length).length ∧ Q v (if v.names then S'.bx else S'.bx.take cells.length)) : Does P f xs cells Q:=by
 unfold aS at hF
 split at hF
 ·rename_i fn hf
  split at hF
  ·rename_i c rs hb hrs
   split at hF
   ·rename_i ac hac
    split at hF
    ·cases hF
    ·rename_i hname
     cases hF
     refine ⟨fun us w => ?_,fun G w us hI hvs => ?_⟩
     ·simp only [callFunc,program,Sem.run,hf,Sem.run_bind,Result.andThen_ok,hname,hb]
      rfl
     ·refine eD hf hb ?_
      have hR : Rel G (start ⟨fn.params.size,fn.ntmps,rs,ac⟩ xs) { tmps:=us ++ Array.replicate (fn.ntmps - us.size) undef,defers:=[] }:=by
       refine ⟨by simp [start,hvs.1],fun i y u hy hu => ?_⟩
       simp only [start] at hy
       simp only at hu
       rw [List.getElem?_append] at hy
       rw [Array.getElem?_append,hvs.1] at hu
       split at hy
       ·rename_i hlt
        rw [if_pos hlt] at hu
        exact hvs.2 i y u hy hu
       ·rename_i hlt
        rw [if_neg hlt] at hu
        have e1:=List.eq_of_mem_replicate (List.mem_of_getElem? hy)
        have e2 : u ∈ (Array.replicate (fn.ntmps - xs.length) undef):=Array.mem_of_getElem? hu
        have e3:=(Array.mem_replicate.1 e2).2
        rw [e1,e3]
        exact .undef G
      refine wp_mono (h (.of G ⟨cells,[]⟩ w hI rfl) rfl c hac _ w ⟨G,hI,hR,.refl _ _ _,.refl _ _,.begin _ _ _ _ _⟩) ?_
      rintro e act' w' ⟨x,a',S',he,⟨hx,v,hv,hlen,hq⟩,G',hI',hR',hg,hk,hd⟩
      obtain ⟨Ds,e1,e2,e3⟩:=hd.d
      have e1 : act'.defers = Ds.map gM:=by rw [e1]; exact List.append_nil _
      have hI':=hI'.shut e2 fun D hD => (e3 D hD).2
      have hg:=hg.shut fun D hD => (e3 D hD).1.1
      obtain ⟨u,h1,h2⟩:=pF hI' hR' hrs hv
      have hbx : ∃ bx,S'.bx = (if v.names then S'.bx else S'.bx.take cells.length) ++ bx:=by
       split
       ·exact ⟨[],by simp⟩
       ·exact ⟨S'.bx.drop cells.length,by simp⟩
      obtain ⟨bx,hbx⟩:=hbx
      generalize (if v.names then S'.bx else S'.bx.take cells.length) = c' at hlen hq hbx
      obtain ⟨S'bx,S'lv⟩:=S'
      simp only at hbx
      subst hbx
      rcases hx with rfl | rfl
      ·subst he; exact ⟨.inl rfl,Ds,e1,e2,fun D hD => (e3 D hD).2,u,h1,u,v,c',G',bx,S'lv,hq,rfl,h2,hlen,hI',hg⟩
      ·subst he; exact ⟨.inr rfl,Ds,e1,e2,fun D hD => (e3 D hD).2,u,h1,u,v,c',G',bx,S'lv,hq,rfl,h2,hlen,hI',hg⟩
   ·cases hF
  ·cases hF
 ·cases hF
theorem Does.law {P : Program} {f : FuncId} {xs : List AV} {us : Array Value} {W : World} (h : Does P f xs [] fun v _ => v = .bool true) (hv : VRs (Gh.all W) xs us) (hG : GLW W := by exact fun B o u h => by simp [gcell, gtab] at h) :
  Calls P f us W fun e W' => e = .returned (.bool true) ∧ Below W.heap.size W W':=by
 refine (h.calls (Gh.all W) W us (Inv.all W hG) hv).mono ?_
 rintro e W' ⟨u,v,c',G',bx,lv,rfl,rfl,hu,_,_,hg⟩
 refine ⟨by rw [hu.inv_bool],hg.below fun B => ?_⟩
 rintro (⟨b,hb⟩ | ⟨t,n,s0,s,c,h1,_⟩)
 ·simp [Gh.all] at hb
 ·simp at h1
end
section
open Go.RowKit
def re1 (n : Nat) (σ : List Nat) (x : AV) : Option AV:=match x with
 | .ptr b o => if b < n then some (.ptr b o) else none
 | .ms b k s => if b < n then some (.ms b k s) else none
 | .mg b k s => if b < n then some (.mg b k s) else none
 | .sl els (some t) => if bB els then (σ.idxOf? t).map fun i => .sl els (some i) else none
 | .yld l t => some (.yld l t)
 | x => if x.clean then some x else none
def re (n : Nat) (σ : List Nat) (x : AV) : Option AV:=match x with
 | .agg cs => (cs.mapM (re1 n σ)).map .agg
 | .tup cs => (cs.mapM (re1 n σ)).map .tup
 | .fn f ps cs => (ps.mapM (re1 n σ)).bind fun ps' => (cs.mapM (re1 n σ)).map (.fn f ps')
 | x => re1 n σ x
def Gh.cut (G : Gh) (n : Nat) (σ : List Nat) : Gh:=⟨fun b => if b < n then G.al b else none,fun t k => (σ[t]?).bind fun t0 => G.tb t0 k,G.fz,G.sz⟩
theorem VR.re1 {G : Gh} {n : Nat} {σ : List Nat} {x y : AV} {u : Value} (h : VR G x u) (hr : re1 n σ x = some y) : VR (G.cut n σ) y u:=by
 unfold Proofs.YtildamklmoekaaaGreatDoor.re1 at hr
 split at hr
 ·rename_i b o
  split at hr
  ·rename_i hb
   cases hr
   obtain ⟨B,hB,rfl⟩:=h.inv_ptr
   exact .ptr b o B (by simp [Gh.cut,hb,hB])
  ·cases hr
 ·rename_i b k s
  split at hr
  ·rename_i hb
   cases hr
   rcases h.inv_ms with ⟨B,c,hB,rfl,hc⟩ | ⟨rfl,A,c,rfl⟩
   ·exact .ms b k s B c (by simp [Gh.cut,hb,hB]) hc
   ·exact .ms0 b s A c
  ·cases hr
 ·rename_i b k s
  split at hr
  ·rename_i hb
   cases hr
   rcases h.inv_mg with ⟨B,c,hB,rfl,hc,hm,h0⟩ | ⟨rfl,rfl⟩
   ·exact .mg b k s B c (by simp [Gh.cut,hb,hB]) hc hm h0
   ·exact .mg0 b s
  ·cases hr
 ·rename_i els t
  split at hr
  ·rename_i hcl
   simp only [Option.map_eq_some_iff] at hr
   obtain ⟨i,hi,rfl⟩:=hr
   have hti:=vP hi
   cases h with
   | slt els t s B c us hb hn hs hf hv =>
    refine .slt els i s B c us (by simp [Gh.cut,hti,hb]) hn hs hf fun a e j z h1 h2 => (hv a e j z h1 h2).move ?_ (fun _ _ _ h => h)
    have he:=cO.1 hcl e (List.mem_of_getElem? h1)
    have hx:=List.mem_of_getElem? h2
    cases e <;> simp only [AV.cells,List.mem_singleton] at hx <;> first | (subst hx; exact he) | exact cO.1 (by simpa [AV.clean] using he) z hx
   | slt0 t hb => exact .slt0 i (by simp [Gh.cut,hti,hb])
  ·cases hr
 ·rename_i l t
  cases hr
  cases h
  exact .yld l t
 ·split at hr
  ·rename_i hc
   cases hr
   exact h.move hc (fun _ _ _ h => h)
  ·cases hr
theorem VR.re {G : Gh} {n : Nat} {σ : List Nat} {x y : AV} {u : Value} (h : VR G x u) (hr : re n σ x = some y) : VR (G.cut n σ) y u:=by
 unfold Proofs.YtildamklmoekaaaGreatDoor.re at hr
 split at hr
 ·rename_i cs
  simp only [Option.map_eq_some_iff] at hr
  obtain ⟨ds,hds,rfl⟩:=hr
  obtain ⟨h1,h2⟩:=bU hds
  cases h with
  | agg _ us hl h =>
   refine .agg ds us (by rw [hl,h1]) fun i z v hz hv => ?_
   obtain ⟨z',hz',hr'⟩:=h2 i z hz
   exact (h i z' v hz' hv).re1 hr'
 ·rename_i cs
  simp only [Option.map_eq_some_iff] at hr
  obtain ⟨ds,hds,rfl⟩:=hr
  obtain ⟨h1,h2⟩:=bU hds
  cases h with
  | tup _ us hl h =>
   refine .tup ds us (by rw [hl,h1]) fun i z v hz hv => ?_
   obtain ⟨z',hz',hr'⟩:=h2 i z hz
   exact (h i z' v hz' hv).re1 hr'
 ·rename_i f ps cs
  simp only [Option.map_eq_some_iff,Option.bind_eq_some_iff] at hr
  obtain ⟨qs,hqs,ds,hds,rfl⟩:=hr
  obtain ⟨vs,us,rfl,hp,hl,hv⟩:=h.inv_fn
  obtain ⟨h1,h2⟩:=bU hds
  obtain ⟨g1,g2⟩:=bU hqs
  refine .fn f qs ds vs us (by rw [hp.1,g1]) (fun i z v hz hv' => ?_) (by rw [hl,h1]) fun i z v hz hv' => ?_
  ·obtain ⟨z',hz',hr'⟩:=g2 i z hz
   exact (hp.2 i z' v hz' hv').re1 hr'
  ·obtain ⟨z',hz',hr'⟩:=h2 i z hz
   exact (hv i z' v hz' hv').re1 hr'
 ·exact h.re1 hr
def lZ (n : Nat) (σ : List Nat) : List Bool → List AV → List AV
 | b :: bs,x :: l => (if b then (re n σ x).getD .junk else .junk) :: lZ n σ bs l
 | [],x :: l => (re n σ x).getD .junk :: lZ n σ [] l
 | _,[] => []
theorem oM (n : Nat) (σ : List Nat) : ∀ (bs : List Bool) (l : List AV),(lZ n σ bs l).length = l.length ∧ ∀ (i : Nat) y,(lZ n σ bs l)[i]? = some y → y = .junk ∨ ∃ x,l[i]? = some x ∧ re n σ x = some y
 | bs,[] => by cases bs <;> exact ⟨rfl,fun i y h => by simp [lZ] at h⟩
 | [],x :: l => by
  obtain ⟨h1,h2⟩:=oM n σ [] l
  refine ⟨by simp [lZ,h1],fun i y h => ?_⟩
  cases i with
  | zero =>
   simp only [lZ,List.getElem?_cons_zero,Option.some.injEq] at h
   cases hr : re n σ x with
   | none => rw [hr] at h; exact .inl h.symm
   | some z => rw [hr] at h; exact .inr ⟨x,rfl,by rw [hr]; simpa using h⟩
  | succ i => exact h2 i y (by simpa [lZ] using h)
 | b :: bs,x :: l => by
  obtain ⟨h1,h2⟩:=oM n σ bs l
  refine ⟨by simp [lZ,h1],fun i y h => ?_⟩
  cases i with
  | zero =>
   simp only [lZ,List.getElem?_cons_zero,Option.some.injEq] at h
   cases b with
   | false => exact .inl (by simpa using h.symm)
   | true =>
    simp only [if_true] at h
    cases hr : re n σ x with
    | none => rw [hr] at h; exact .inl h.symm
    | some z => rw [hr] at h; exact .inr ⟨x,rfl,by rw [hr]; simpa using h⟩
  | succ i => exact h2 i y (by simpa [lZ] using h)
def aM (n0 : Cx) (a : List AV) (S : St) (a2 : List AV) (S2 : St) : Prop:=∀ (E : Ent),E.c = n0 → ∀ act w,At E a S act w → At E a2 S2 act w
theorem aM.refl (n0 : Cx) (a : List AV) (S : St) : aM n0 a S a S:=fun _ _ _ _ h => h
theorem aFm {n0 : Cx} {a : List AV} {S : St} (n : Nat) (σ : List Nat) (live : List Bool) {bx2 : List (List AV)} {lv2 : List (Nat × Nat)} (hn : n0.n ≤ n) (hl : n ≤ S.bx.length) (hbx : (S.bx.take n).mapM (fun cs => cs.mapM (re n σ)) = some bx2) (hlv : σ.mapM (fun t => S.lv[t]?) = some lv2) (hσ : σ.Nodup) (hσ0 : ∀ t, t < n0.m → σ[t]? = some t := by exact fun _ h => absurd h (Nat.not_lt_zero _)) :
  ∀ (E : Ent),E.c = n0 → ∀ (act : Act) (w : World) (G : Gh),Inv G S w → Rel G a act → Gro E.G E.S E.w G S w → Keep E.G E.S G S → Dfr E G S act.defers w →
  Inv (G.cut n σ) ⟨bx2,lv2⟩ w ∧ Rel (G.cut n σ) (lZ n σ live a) act ∧ Gro E.G E.S E.w (G.cut n σ) ⟨bx2,lv2⟩ w ∧ Keep E.G E.S (G.cut n σ) ⟨bx2,lv2⟩ ∧ Dfr E (G.cut n σ) ⟨bx2,lv2⟩ act.defers w:=by
 intro E hE act w G hI hR hg hk hd
 have hEn : E.S.bx.length ≤ n:=by have:=E.hc; rw [hE] at this; omega
 obtain ⟨b1,b2⟩:=bU hbx
 obtain ⟨l1,l2⟩:=bU hlv
 have hbl : bx2.length = n:=by rw [b1]; simp; omega
 have hlvg : ∀ (t : Nat) p,lv2[t]? = some p → ∃ t0,σ[t]? = some t0 ∧ S.lv[t0]? = some p:=fun t p h => l2 t p h
 have hEtb : ∀ t,t < E.S.lv.length → t < n0.m:=fun t ht => by have:=E.lv; rw [hE] at this; omega
 have hml : n0.m ≤ lv2.length:=by
  rw [l1]
  cases hm : n0.m with
  | zero => exact Nat.zero_le _
  | succ m => exact (List.getElem?_eq_some_iff.1 (hσ0 m (by omega))).1
 refine ⟨⟨?_,?_,hI.fz,?_,?_,?_,?_,?_,hI.gl,hI.sz⟩,⟨?_,?_⟩,⟨⟨?_,?_,hg.le.fz,hg.le.sz⟩,hg.os,hg.tape,hg.output,hg.size,hg.fr,?_,hg.oth⟩,⟨?_,?_,?_,?_,fun t ht h0 => (E.tbN ht h0).elim⟩,hd.ghost ?_ ⟨?_,?_,fun _ _ _ h => h,fun _ _ h => h,?_⟩⟩
 ·intro b B cs hal hcs
  simp only [Gh.cut] at hal
  split at hal
  ·rename_i hbn
   obtain ⟨cs0,hcs0,hm⟩:=b2 b cs hcs
   rw [List.getElem?_take_of_lt hbn] at hcs0
   obtain ⟨m1,m2⟩:=bU hm
   rcases hI.box b B cs0 hal hcs0 with rfl | ⟨us,T,k1,k2,k3,k4⟩
   ·exact .inl (List.eq_nil_of_length_eq_zero (by rw [m1]; rfl))
   ·refine .inr ⟨us, T, k1, by rw [m1]; exact k2, fun i x u hx hu => ?_, k4⟩
    obtain ⟨x0,hx0,hr⟩:=m2 i x hx
    exact (k3 i x0 u hx0 hu).re hr
  ·cases hal
 ·intro t k s0 B s c h1 h2
  obtain ⟨t0,ht0,h3⟩:=hlvg t _ h1
  simp only [Gh.cut,ht0,Option.bind_some] at h2
  exact hI.tok t0 k s0 B s c h3 h2
 ·intro b B hal
  simp only [Gh.cut] at hal
  split at hal
  ·rename_i hbn
   exact ⟨by rw [hbl]; exact hbn,(hI.dal b B hal).2⟩
  ·cases hal
 ·intro t k v h
  simp only [Gh.cut,Option.bind_eq_some_iff] at h
  obtain ⟨t0,ht0,h⟩:=h
  obtain ⟨m,s,h1,h2⟩:=hI.dtb t0 k v h
  have hlt : t < lv2.length:=by rw [l1]; exact (List.getElem?_eq_some_iff.1 ht0).1
  obtain ⟨t1,ht1,h3⟩:=hlvg t _ (List.getElem?_eq_getElem hlt)
  rw [ht0] at ht1; cases ht1
  rw [h1] at h3
  exact ⟨m,s,by rw [List.getElem?_eq_getElem hlt]; exact h3.symm,h2⟩
 ·intro b b' B h1 h2
  simp only [Gh.cut] at h1 h2
  split at h1
  ·split at h2
   ·exact hI.injA b b' B h1 h2
   ·cases h2
  ·cases h1
 ·intro t t' k k' s0 s0' B s s' c c' h1 h2 h3 h4
  obtain ⟨t0,ht0,g1⟩:=hlvg t _ h1
  obtain ⟨t0',ht0',g2⟩:=hlvg t' _ h2
  simp only [Gh.cut,ht0,ht0',Option.bind_some] at h3 h4
  have:=hI.injT t0 t0' k k' s0 s0' B s s' c c' g1 g2 h3 h4
  subst this
  exact (List.getElem?_inj (List.getElem?_eq_some_iff.1 ht0).1 hσ).1 (by rw [ht0,ht0'])
 ·intro b B t k s0 s c h1 h2 h3
  obtain ⟨t0,ht0,g1⟩:=hlvg t _ h2
  simp only [Gh.cut,ht0,Option.bind_some] at h1 h3
  split at h1
  ·exact hI.sep b B t0 k s0 s c h1 g1 h3
  ·cases h1
 ·rw [hR.size,(oM n σ live a).1]
 ·intro i y u hy hu
  rcases (oM n σ live a).2 i y hy with rfl | ⟨x,hx,hr⟩
  ·exact .junk u
  ·exact (hR.slot i x u hx hu).re hr
 ·intro b B h
  have:=(E.inv.dal b B h).1
  simp only [Gh.cut]
  rw [if_pos (by omega)]
  exact hg.le.al b B h
 ·intro t k v h
  obtain ⟨m,s,h1,_⟩:=E.inv.dtb t k v h
  have ht:=hσ0 t (hEtb t (List.getElem?_eq_some_iff.1 h1).1)
  simp only [Gh.cut,ht,Option.bind_some]
  exact hg.le.tb t k v h
 ·rintro B (⟨b,hb⟩ | ⟨t,k,s0,s,c,h1,h2⟩)
  ·simp only [Gh.cut] at hb
   split at hb
   ·exact hg.own B (.inl ⟨b,hb⟩)
   ·cases hb
  ·obtain ⟨t0,ht0,g1⟩:=hlvg t _ h1
   simp only [Gh.cut,ht0,Option.bind_some] at h2
   exact hg.own B (.inr ⟨t0,k,s0,s,c,g1,h2⟩)
 ·rw [hbl]; exact hEn
 ·have:=E.lv
  rw [hE] at this
  exact Nat.le_trans this hml
 ·intro b hb h
  simp only [Gh.cut]
  rw [if_pos (by omega)]
  exact hk.al b hb h
 ·intro t ht h0
  exact (E.tbN ht h0).elim
 ·rw [hE]
  exact hml
 ·intro b hb B h
  rw [hE] at hb
  simp only [Gh.cut]
  rw [if_pos (by omega)]; exact h
 ·intro t ht k v h
  rw [hE] at ht
  simp only [Gh.cut,hσ0 t ht,Option.bind_some]; exact h
 ·intro t ht h0
  rw [hE] at ht
  have ht0:=hσ0 t ht
  refine ⟨fun k => by simp only [Gh.cut,ht0,Option.bind_some]; exact h0 k,?_⟩
  have hlt : t < lv2.length:=by rw [l1]; exact (List.getElem?_eq_some_iff.1 ht0).1
  obtain ⟨t0,e1,e2⟩:=hlvg t _ (List.getElem?_eq_getElem hlt)
  rw [ht0] at e1; cases e1
  show lv2[t]? = S.lv[t]?
  rw [e2,List.getElem?_eq_getElem hlt]
theorem forgets {n0 : Cx} {a : List AV} {S : St} (n : Nat) (σ : List Nat) (live : List Bool) {bx2 : List (List AV)} {lv2 : List (Nat × Nat)} (hn : n0.n ≤ n) (hl : n ≤ S.bx.length) (hbx : (S.bx.take n).mapM (fun cs => cs.mapM (re n σ)) = some bx2) (hlv : σ.mapM (fun t => S.lv[t]?) = some lv2) (hσ : σ.Nodup) (hσ0 : ∀ t, t < n0.m → σ[t]? = some t := by exact fun _ h => absurd h (Nat.not_lt_zero _)) :
  aM n0 a S (lZ n σ live a) ⟨bx2,lv2⟩:=fun E hE act w ⟨G,hI,hR,hg,hk,hd⟩ => ⟨G.cut n σ,aFm n σ live hn hl hbx hlv hσ hσ0 E hE act w G hI hR hg hk hd⟩
section rules
variable {n0 : Cx} {md : Md} {P : Program} {a a2 : List AV} {S S2 : St} {Q : AEx → List AV → St → Prop} {R : List AV → St → Prop}
theorem Ex.forget {c : cD} (hf : aM n0 a S a2 S2) (h : Ex n0 md P c a2 S2 Q) : Ex n0 md P c a S Q:=fun E hn code hc act w hA => h E hn code hc act w (hf E hn act w hA)
theorem ExO.forget {xs : List aT} (hf : aM n0 a S a2 S2) (h : ExO n0 P xs a2 S2 R) : ExO n0 P xs a S R:=fun E hn ops l Q hc hq act w hA => h E hn ops l Q hc hq act w (hf E hn act w hA)
theorem Ex.loopF {c : cD} (I : Nat → List AV → St → Prop) (k : Nat) (h : ∃ a2 S2,aM n0 a S a2 S2 ∧ I k a2 S2)
  (round : ∀ k a S,I k a S → Ex n0 md P c a S fun x a' S' => match x with | .norm => ∃ a2 S2,aM n0 a' S' a2 S2 ∧ ∃ j,j < k ∧ I j a2 S2 | x => Q x a' S') : Ex n0 md P (.loop c) a S Q:=by
 obtain ⟨a2,S2,hf,hi⟩:=h
 refine Ex.forget hf ?_
 intro E hn code hc act w hA
 obtain ⟨x,rfl,h1⟩:=sX hc
 let I0 : Nat → Act → World → Prop:=fun k act w => ∃ a S,I k a S ∧ At E a S act w
 refine yR (fun act w => ∃ k,I0 k act w) (fun act w => kE fun k => I0 k act w) ⟨k,a2,S2,hi,hA⟩ ?_
 intro act1 w1 hex
 obtain ⟨⟨a1,S1,hi1,hA1⟩,hmin⟩:=iM hex
 generalize hm : (kE fun k => I0 k act1 w1) = m at hi1 hmin
 refine gE (round m a1 S1 hi1 E hn x h1 act1 w1 hA1) ?_
 rintro e act2 w2 ⟨z,a3,S3,rfl,hq,hA2⟩
 cases z with
 | norm =>
  obtain ⟨a4,S4,hf4,j,hj,hij⟩:=hq
  have hi : I0 j act2 w2:=⟨a4,S4,hij,hf4 E hn _ _ hA2⟩
  refine ⟨⟨j,hi⟩,?_⟩
  have:=(iM (p:=fun k => I0 k act2 w2) ⟨j,hi⟩).2 j hi
  exact Nat.lt_of_le_of_lt this hj
 | ret => exact ⟨.ret,a3,S3,rfl,hq,hA2⟩
 | ex i => exact ⟨.ex i,a3,S3,rfl,hq,hA2⟩
inductive LitB (n : Bool) : Bool → Prop
 | t (h : n = true) : LitB n true
 | f (h : n = false) : LitB n false
theorem LitB.eq {n b : Bool} (h : LitB n b) : n = b := by cases h with
 | t h => exact h
 | f h => exact h
theorem ExO.run : ∀ (xs : List aT) {a a' : List AV} {S S' : St},evOps aAm xs a S = some (a',S') → R a' S' → ExO n0 P xs a S R
 | [],a,a',S,S',h,hr => by cases h; exact .nil hr
 | x :: xs,a,a',S,S',h,hr => by
  simp only [evOps] at h
  split at h
  ·rename_i hw
   split at h
   ·rename_i v S1 hv
    rw [jV,xW] at h
    exact .op (cP P) hw hv (ExO.run xs h hr)
   ·cases h
  ·rename_i hw
   exact .skip hw (ExO.run xs h hr)
  ·cases h
end rules
end
section
open Go.RowKit
def jR (x : aT) (n : Nat) : Bool:=match x.dst with
 | some d => decide (d < n)
 | none => true
def qK (l : List aT) (d : Nat) : Bool:=match l.getLast? with
 | some y => (match y.guard with | none => (match y.op with | .store _ (.tmp t) _ => t == d | _ => false) | some _ => false)
 | none => false
theorem aDf {x : aT} {r : List aT} {t : Nat} (hr : r ≠ []) (h : t ∈ oL (x :: r)) : t ∈ oL r ∨ ∃ d,x.dst = some d ∧ d ∈ oL r ∧ t ∈ pE x.op.opds:=by
 cases r with
 | nil => exact absurd rfl hr
 | cons y l =>
  simp only [oL] at h
  split at h
  ·rename_i d hg hd
   split at h
   ·rename_i hc
    rcases List.mem_append.1 h with h | h
    ·exact .inr ⟨d,hd,by simpa using hc,h⟩
    ·exact .inl h
   ·exact .inl h
  ·exact .inl h
def aCY (l : List aT) (d : Nat) : Bool:=(oL l).contains d
def qJ (W : Nat → Bool) (l : List aT) (d : Nat) : Bool:=aCY l d || (!l.isEmpty && W l.length)
def allB (l : List aT) (d : Nat) : Bool:=l.all fun y => !sT y.op || (pE y.op.opds).contains d
def aHR : AOp → Bool
 | .bsl _ _ _ _ _ => true
 | _ => false
def rowB (x : aT) (l : List aT) (d : Nat) : Bool:=aHR x.op && allB l d
inductive DrO (X : Clr) (W : Nat → Bool) (b0 k0 : Nat) (sts : List St) : List aT → List AV → Nat → List Nat → List Nat → List AV → Prop
 | nil {a : List AV} {lv : Nat} {bs ts : List Nat} (h : lv + 1 = sts.length) : DrO X W b0 k0 sts [] a lv bs ts a
 | pure {x : aT} {l : List aT} {a : List AV} {lv : Nat} {bs ts : List Nat} {a1 : List AV} (v : AV) (hw : bG x.guard a = some true) (hd : jR x a.length = true) (hv : ∀ st ∈ sts,aop x.op (evd a) st = some (.val v)) (h : DrO X W b0 k0 sts l (putA a x.dst v) lv bs ts a1) : DrO X W b0 k0 sts (x :: l) a lv bs ts a1
 | call {x : aT} {l : List aT} {a : List AV} {lv : Nat} {bs ts : List Nat} {a1 : List AV} (f : FuncId) (ys : List AV) (v : AV) (hw : bG x.guard a = some true) (hd : jR x a.length = true) (hv : ∀ st ∈ sts,aop x.op (evd a) st = some (.call f ys)) (hc : ∀ st ∈ sts,gT X f ys st = some (v,st)) (h : DrO X W b0 k0 sts l (putA a x.dst v) lv bs ts a1) : DrO X W b0 k0 sts (x :: l) a lv bs ts a1
 | row {x : aT} {l : List aT} {a : List AV} {lv : Nat} {bs ts : List Nat} {a1 : List AV} (t s : Nat) (els : List AV) (hw : bG x.guard a = some true) (hd : jR x a.length = true) (hv : ∀ st ∈ sts,aop x.op (evd a) st = some (.lit s els)) (hr : ∀ st ∈ sts,st.lv[t]? = some (els.length,s)) (ht : k0 ≤ t) (hn : t ∉ ts) (h : DrO X W b0 k0 sts l (putA a x.dst (.sl els (some t))) lv bs (t :: ts) a1) : DrO X W b0 k0 sts (x :: l) a lv bs ts a1
 | rowF {x : aT} {l : List aT} {a : List AV} {lv : Nat} {bs ts : List Nat} {a1 : List AV} (t s : Nat) (els : List AV) (d : Nat) (hw : bG x.guard a = some true) (hd : jR x a.length = true) (hxd : x.dst = some d) (hwt : rowB x l d = true) (hv : ∀ st ∈ sts,aop x.op (evd a) st = some (.lit s els)) (hr : ∀ st ∈ sts.take (lv + 1),st.lv[t]? = some (els.length,s)) (hr2 : ∀ st ∈ sts,t < st.lv.length) (ht : k0 ≤ t) (hn : t ∉ ts) (h : DrO X W b0 k0 sts l (putA a x.dst (.sl els (some t))) lv bs (t :: ts) a1) : DrO X W b0 k0 sts (x :: l) a lv bs ts a1
 | box {x : aT} {l : List aT} {a : List AV} {lv : Nat} {bs ts : List Nat} {a1 : List AV} (id : Nat) (cs : List AV) (hw : bG x.guard a = some true) (hd : jR x a.length = true) (hv : ∀ st ∈ sts,aop x.op (evd a) st = some (.box cs)) (hr : ∀ st ∈ sts,st.bx[id]? = some cs) (ht : b0 ≤ id) (hn : id ∉ bs) (h : DrO X W b0 k0 sts l (putA a x.dst (.ptr id 0)) lv (id :: bs) ts a1) : DrO X W b0 k0 sts (x :: l) a lv bs ts a1
 | boxL {x : aT} {l : List aT} {a : List AV} {lv : Nat} {bs ts : List Nat} {a1 : List AV} (id : Nat) (cs : List AV) (d : Nat) (hw : bG x.guard a = some true) (hd : jR x a.length = true) (hv : ∀ st ∈ sts,aop x.op (evd a) st = some (.box cs)) (hr : ∀ st ∈ sts.dropLast,st.bx[id]? = some cs) (hr2 : ∀ st ∈ sts,id < st.bx.length) (hx : x.dst = some d) (hy : qK l d = true) (ht : b0 ≤ id) (hn : id ∉ bs) (h : DrO X W b0 k0 sts l (putA a x.dst (.ptr id 0)) lv (id :: bs) ts a1) : DrO X W b0 k0 sts (x :: l) a lv bs ts a1
 | pureL {x : aT} {l : List aT} {a : List AV} {lv : Nat} {bs ts : List Nat} {a1 : List AV} (v : AV) (d : Nat) (hw : bG x.guard a = some true) (hd : jR x a.length = true) (hxd : x.dst = some d) (hwt : qJ W l d = true) (hv : ∀ st ∈ sts.dropLast,aop x.op (evd a) st = some (.val v)) (h : DrO X W b0 k0 sts l (putA a x.dst v) lv bs ts a1) : DrO X W b0 k0 sts (x :: l) a lv bs ts a1
 | eff {x : aT} {l : List aT} {a : List AV} {lv : Nat} {bs ts : List Nat} {a1 : List AV} (v : AV) (st st' : St) (hw : bG x.guard a = some true) (hd : jR x a.length = true) (hl : sT x.op = true) (hs : sts[lv]? = some st) (hs' : sts[lv + 1]? = some st') (hv : evOp X x.op a st = some (v,st')) (h : DrO X W b0 k0 sts l (putA a x.dst v) (lv + 1) bs ts a1) : DrO X W b0 k0 sts (x :: l) a lv bs ts a1
 | skip {x : aT} {l : List aT} {a : List AV} {lv : Nat} {bs ts : List Nat} {a1 : List AV} (hw : bG x.guard a = some false) (hd : jR x a.length = true) (h : DrO X W b0 k0 sts l (putA a x.dst (.tup [])) lv bs ts a1) : DrO X W b0 k0 sts (x :: l) a lv bs ts a1
def aFN (X : Clr) (W : Nat → Bool) (rest : List aT) (sts : List St) (a : List AV) (x : aT) (lv : Nat) (v : AV) (eff : Bool) (bid tid : Option Nat) : Prop :=
 jR x a.length = true ∧ ((bG x.guard a = some false ∧ v = .tup [] ∧ eff = false ∧ bid = none ∧ tid = none) ∨ (bG x.guard a = some true ∧
  ((eff = false ∧ bid = none ∧ tid = none ∧ ∀ st ∈ sts, aop x.op (evd a) st = some (.val v) ∨ ∃ f ys, aop x.op (evd a) st = some (.call f ys) ∧ gT X f ys st = some (v, st)) ∨
   (eff = false ∧ bid = none ∧ ∃ s els id,tid = some id ∧ v = .sl els (some id) ∧ ∀ st ∈ sts,aop x.op (evd a) st = some (.lit s els) ∧ st.lv[id]? = some (els.length,s)) ∨
   (eff = false ∧ tid = none ∧ ∃ cs id,bid = some id ∧ v = .ptr id 0 ∧ ∀ st ∈ sts,aop x.op (evd a) st = some (.box cs) ∧ st.bx[id]? = some cs) ∨
   (eff = true ∧ bid = none ∧ tid = none ∧ sT x.op = true ∧ ∃ st st',sts[lv]? = some st ∧ sts[lv + 1]? = some st' ∧ evOp X x.op a st = some (v,st')) ∨
   (eff = false ∧ tid = none ∧ ∃ cs id d,bid = some id ∧ v = .ptr id 0 ∧ x.dst = some d ∧ qK rest d = true ∧ (∀ st ∈ sts,aop x.op (evd a) st = some (.box cs) ∧ id < st.bx.length) ∧ ∀ st ∈ sts.dropLast,st.bx[id]? = some cs) ∨
   (eff = false ∧ bid = none ∧ tid = none ∧ ∃ d,x.dst = some d ∧ qJ W rest d = true ∧ ∀ st ∈ sts.dropLast,aop x.op (evd a) st = some (.val v)) ∨
   (eff = false ∧ bid = none ∧ ∃ s els id d, tid = some id ∧ v = .sl els (some id) ∧ x.dst = some d ∧ rowB x rest d = true ∧ (∀ st ∈ sts, aop x.op (evd a) st = some (.lit s els) ∧ id < st.lv.length) ∧ ∀ st ∈ sts.take (lv + 1), st.lv[id]? = some (els.length, s)))))
theorem dV (f : Bool) (e : Nat → Bool) (i : Nat) : lvl (fun j => match j with | 0 => f | j + 1 => e j) (i + 1) = (if f then 1 else 0) + lvl e i:=by
 unfold lvl
 rw [List.range_succ_eq_map,List.filter_cons]
 have e1 : ((List.range i).map Nat.succ).filter (fun j => match j with | 0 => f | j + 1 => e j) = ((List.range i).filter e).map Nat.succ:=by
  rw [List.filter_map]
  congr 1
 rw [e1]
 cases f <;> simp; omega
theorem DrO.spec {X : Clr} {W : Nat → Bool} {b0 k0 : Nat} {sts : List St} {l : List aT} {a : List AV} {lv : Nat} {bs ts : List Nat} {a1 : List AV} (h : DrO X W b0 k0 sts l a lv bs ts a1) :
  ∃ (am : Nat → List AV) (v : Nat → AV) (eff : Nat → Bool) (bid tid : Nat → Option Nat),am 0 = a ∧ am l.length = a1 ∧ lv + lvl eff l.length + 1 = sts.length ∧
   (∀ i x,l[i]? = some x → am (i + 1) = putA (am i) x.dst (v i) ∧ aFN X W (l.drop (i + 1)) sts (am i) x (lv + lvl eff i) (v i) (eff i) (bid i) (tid i)) ∧
   ((∀ i t,i < l.length → bid i = some t → b0 ≤ t ∧ t ∉ bs) ∧ (∀ i j t,i < l.length → j < l.length → bid i = some t → bid j = some t → i = j)) ∧
   ((∀ i t,i < l.length → tid i = some t → k0 ≤ t ∧ t ∉ ts) ∧ (∀ i j t,i < l.length → j < l.length → tid i = some t → tid j = some t → i = j)):=by
 induction h with
 | @nil a lv bs ts h =>
  exact ⟨fun _ => a,fun _ => .junk,fun _ => false,fun _ => none,fun _ => none,rfl,rfl,by simp [lvl]; omega,fun i x h => by simp at h,⟨fun i t h => by simp at h,fun i j t h => by simp at h⟩,⟨fun i t h => by simp at h,fun i j t h => by simp at h⟩⟩
 | @skip x l a lv bs ts a1 hw hd h ih =>
  obtain ⟨am,vs,eff,bid,tid,i1,i2,i3,i4,i5,i6⟩:=ih
  refine ⟨fun i => match i with | 0 => a | i + 1 => am i, fun i => match i with | 0 => .tup [] | i + 1 => vs i, fun i => match i with | 0 => false | i + 1 => eff i, fun i => match i with | 0 => none | i + 1 => bid i, fun i => match i with | 0 => none | i + 1 => tid i, rfl, i2, ?_, ?_, ⟨fun i t hi ht => by
   cases i with
   | zero => cases ht
   | succ i => exact i5.1 i t (by simpa using hi) ht,fun i j t hi hj h1 h2 => by
   cases i with
   | zero => cases h1
   | succ i => cases j with
    | zero => cases h2
    | succ j => rw [i5.2 i j t (by simpa using hi) (by simpa using hj) h1 h2]⟩,⟨fun i t hi ht => by
   cases i with
   | zero => cases ht
   | succ i => exact i6.1 i t (by simpa using hi) ht,fun i j t hi hj h1 h2 => by
   cases i with
   | zero => cases h1
   | succ i => cases j with
    | zero => cases h2
    | succ j => rw [i6.2 i j t (by simpa using hi) (by simpa using hj) h1 h2]⟩⟩
  ·rw [List.length_cons,dV]; simpa using i3
  ·intro i y hy
   cases i with
   | zero =>
    simp only [List.getElem?_cons_zero,Option.some.injEq] at hy
    subst hy
    exact ⟨i1,hd,.inl ⟨hw,rfl,rfl,rfl,rfl⟩⟩
   | succ i =>
    rw [dV]
    simpa using i4 i y (by simpa using hy)
 | @pure x l a lv bs ts a1 v hw hd hv h ih =>
  obtain ⟨am,vs,eff,bid,tid,i1,i2,i3,i4,i5,i6⟩:=ih
  refine ⟨fun i => match i with | 0 => a | i + 1 => am i, fun i => match i with | 0 => v | i + 1 => vs i, fun i => match i with | 0 => false | i + 1 => eff i, fun i => match i with | 0 => none | i + 1 => bid i, fun i => match i with | 0 => none | i + 1 => tid i, rfl, i2, ?_, ?_, ⟨fun i t hi ht => by
   cases i with
   | zero => cases ht
   | succ i => exact i5.1 i t (by simpa using hi) ht,fun i j t hi hj h1 h2 => by
   cases i with
   | zero => cases h1
   | succ i => cases j with
    | zero => cases h2
    | succ j => rw [i5.2 i j t (by simpa using hi) (by simpa using hj) h1 h2]⟩,⟨fun i t hi ht => by
   cases i with
   | zero => cases ht
   | succ i => exact i6.1 i t (by simpa using hi) ht,fun i j t hi hj h1 h2 => by
   cases i with
   | zero => cases h1
   | succ i => cases j with
    | zero => cases h2
    | succ j => rw [i6.2 i j t (by simpa using hi) (by simpa using hj) h1 h2]⟩⟩
  ·rw [List.length_cons,dV]; simpa using i3
  ·intro i y hy
   cases i with
   | zero =>
    simp only [List.getElem?_cons_zero,Option.some.injEq] at hy
    subst hy
    exact ⟨i1,hd,.inr ⟨hw,.inl ⟨rfl,rfl,rfl,fun st hs => .inl (hv st hs)⟩⟩⟩
   | succ i =>
    rw [dV]
    simpa using i4 i y (by simpa using hy)
 | @pureL x l a lv bs ts a1 v d hw hd hxd hwt hv h ih =>
  obtain ⟨am,vs,eff,bid,tid,i1,i2,i3,i4,i5,i6⟩:=ih
  refine ⟨fun i => match i with | 0 => a | i + 1 => am i, fun i => match i with | 0 => v | i + 1 => vs i, fun i => match i with | 0 => false | i + 1 => eff i, fun i => match i with | 0 => none | i + 1 => bid i, fun i => match i with | 0 => none | i + 1 => tid i, rfl, i2, ?_, ?_, ⟨fun i t hi ht => by
   cases i with
   | zero => cases ht
   | succ i => exact i5.1 i t (by simpa using hi) ht,fun i j t hi hj h1 h2 => by
   cases i with
   | zero => cases h1
   | succ i => cases j with
    | zero => cases h2
    | succ j => rw [i5.2 i j t (by simpa using hi) (by simpa using hj) h1 h2]⟩,⟨fun i t hi ht => by
   cases i with
   | zero => cases ht
   | succ i => exact i6.1 i t (by simpa using hi) ht,fun i j t hi hj h1 h2 => by
   cases i with
   | zero => cases h1
   | succ i => cases j with
    | zero => cases h2
    | succ j => rw [i6.2 i j t (by simpa using hi) (by simpa using hj) h1 h2]⟩⟩
  ·rw [List.length_cons,dV]; simpa using i3
  ·intro i y hy
   cases i with
   | zero =>
    simp only [List.getElem?_cons_zero,Option.some.injEq] at hy
    subst hy
    exact ⟨i1,hd,.inr ⟨hw,.inr (.inr (.inr (.inr (.inr (.inl ⟨rfl,rfl,rfl,d,hxd,hwt,hv⟩)))))⟩⟩
   | succ i =>
    rw [dV]
    simpa using i4 i y (by simpa using hy)
 | @call x l a lv bs ts a1 f ys v hw hd hv hc h ih =>
  obtain ⟨am,vs,eff,bid,tid,i1,i2,i3,i4,i5,i6⟩:=ih
  refine ⟨fun i => match i with | 0 => a | i + 1 => am i, fun i => match i with | 0 => v | i + 1 => vs i, fun i => match i with | 0 => false | i + 1 => eff i, fun i => match i with | 0 => none | i + 1 => bid i, fun i => match i with | 0 => none | i + 1 => tid i, rfl, i2, ?_, ?_, ⟨fun i t hi ht => by
   cases i with
   | zero => cases ht
   | succ i => exact i5.1 i t (by simpa using hi) ht,fun i j t hi hj h1 h2 => by
   cases i with
   | zero => cases h1
   | succ i => cases j with
    | zero => cases h2
    | succ j => rw [i5.2 i j t (by simpa using hi) (by simpa using hj) h1 h2]⟩,⟨fun i t hi ht => by
   cases i with
   | zero => cases ht
   | succ i => exact i6.1 i t (by simpa using hi) ht,fun i j t hi hj h1 h2 => by
   cases i with
   | zero => cases h1
   | succ i => cases j with
    | zero => cases h2
    | succ j => rw [i6.2 i j t (by simpa using hi) (by simpa using hj) h1 h2]⟩⟩
  ·rw [List.length_cons,dV]; simpa using i3
  ·intro i y hy
   cases i with
   | zero =>
    simp only [List.getElem?_cons_zero,Option.some.injEq] at hy
    subst hy
    exact ⟨i1,hd,.inr ⟨hw,.inl ⟨rfl,rfl,rfl,fun st hs => .inr ⟨f,ys,hv st hs,hc st hs⟩⟩⟩⟩
   | succ i =>
    rw [dV]
    simpa using i4 i y (by simpa using hy)
 | @row x l a lv bs ts a1 id s els hw hd hv hr ht hn h ih =>
  obtain ⟨am,vs,eff,bid,tid,i1,i2,i3,i4,i5,i6⟩:=ih
  refine ⟨fun i => match i with | 0 => a | i + 1 => am i, fun i => match i with | 0 => .sl els (some id) | i + 1 => vs i, fun i => match i with | 0 => false | i + 1 => eff i, fun i => match i with | 0 => none | i + 1 => bid i, fun i => match i with | 0 => some id | i + 1 => tid i, rfl, i2, ?_, ?_, ⟨fun i t hi ht => by
   cases i with
   | zero => cases ht
   | succ i => exact i5.1 i t (by simpa using hi) ht,fun i j t hi hj h1 h2 => by
   cases i with
   | zero => cases h1
   | succ i => cases j with
    | zero => cases h2
    | succ j => rw [i5.2 i j t (by simpa using hi) (by simpa using hj) h1 h2]⟩,⟨fun i t hi ht' => by
   cases i with
   | zero => cases ht'; exact ⟨ht,hn⟩
   | succ i =>
    obtain ⟨h1,h2⟩:=i6.1 i t (by simpa using hi) ht'
    exact ⟨h1,fun h => h2 (List.mem_cons_of_mem _ h)⟩,fun i j t hi hj h1 h2 => by
   cases i with
   | zero => cases j with
    | zero => rfl
    | succ j =>
     cases h1
     exact absurd (List.mem_cons_self ..) (i6.1 j id (by simpa using hj) h2).2
   | succ i => cases j with
    | zero =>
     cases h2
     exact absurd (List.mem_cons_self ..) (i6.1 i id (by simpa using hi) h1).2
    | succ j => rw [i6.2 i j t (by simpa using hi) (by simpa using hj) h1 h2]⟩⟩
  ·rw [List.length_cons,dV]; simpa using i3
  ·intro i y hy
   cases i with
   | zero =>
    simp only [List.getElem?_cons_zero,Option.some.injEq] at hy
    subst hy
    exact ⟨i1,hd,.inr ⟨hw,.inr (.inl ⟨rfl,rfl,s,els,id,rfl,rfl,fun st hs => ⟨hv st hs,hr st hs⟩⟩)⟩⟩
   | succ i =>
    rw [dV]
    simpa using i4 i y (by simpa using hy)
 | @rowF x l a lv bs ts a1 id s els d hw hd hxd hwt hv hr hr2 ht hn h ih =>
  obtain ⟨am,vs,eff,bid,tid,i1,i2,i3,i4,i5,i6⟩:=ih
  refine ⟨fun i => match i with | 0 => a | i + 1 => am i, fun i => match i with | 0 => .sl els (some id) | i + 1 => vs i, fun i => match i with | 0 => false | i + 1 => eff i, fun i => match i with | 0 => none | i + 1 => bid i, fun i => match i with | 0 => some id | i + 1 => tid i, rfl, i2, ?_, ?_, ⟨fun i t hi ht => by
   cases i with
   | zero => cases ht
   | succ i => exact i5.1 i t (by simpa using hi) ht,fun i j t hi hj h1 h2 => by
   cases i with
   | zero => cases h1
   | succ i => cases j with
    | zero => cases h2
    | succ j => rw [i5.2 i j t (by simpa using hi) (by simpa using hj) h1 h2]⟩,⟨fun i t hi ht' => by
   cases i with
   | zero => cases ht'; exact ⟨ht,hn⟩
   | succ i =>
    obtain ⟨h1,h2⟩:=i6.1 i t (by simpa using hi) ht'
    exact ⟨h1,fun h => h2 (List.mem_cons_of_mem _ h)⟩,fun i j t hi hj h1 h2 => by
   cases i with
   | zero => cases j with
    | zero => rfl
    | succ j =>
     cases h1
     exact absurd (List.mem_cons_self ..) (i6.1 j id (by simpa using hj) h2).2
   | succ i => cases j with
    | zero =>
     cases h2
     exact absurd (List.mem_cons_self ..) (i6.1 i id (by simpa using hi) h1).2
    | succ j => rw [i6.2 i j t (by simpa using hi) (by simpa using hj) h1 h2]⟩⟩
  ·rw [List.length_cons,dV]; simpa using i3
  ·intro i y hy
   cases i with
   | zero =>
    simp only [List.getElem?_cons_zero,Option.some.injEq] at hy
    subst hy
    exact ⟨i1,hd,.inr ⟨hw,.inr (.inr (.inr (.inr (.inr (.inr ⟨rfl,rfl,s,els,id,d,rfl,rfl,hxd,hwt,fun st hs => ⟨hv st hs,hr2 st hs⟩,by simpa [lvl] using hr⟩)))))⟩⟩
   | succ i =>
    rw [dV]
    simpa using i4 i y (by simpa using hy)
 | @box x l a lv bs ts a1 id cs hw hd hv hr ht hn h ih =>
  obtain ⟨am,vs,eff,bid,tid,i1,i2,i3,i4,i5,i6⟩:=ih
  refine ⟨fun i => match i with | 0 => a | i + 1 => am i, fun i => match i with | 0 => .ptr id 0 | i + 1 => vs i, fun i => match i with | 0 => false | i + 1 => eff i, fun i => match i with | 0 => some id | i + 1 => bid i, fun i => match i with | 0 => none | i + 1 => tid i, rfl, i2, ?_, ?_, ⟨fun i t hi ht' => by
   cases i with
   | zero => cases ht'; exact ⟨ht,hn⟩
   | succ i =>
    obtain ⟨h1,h2⟩:=i5.1 i t (by simpa using hi) ht'
    exact ⟨h1,fun h => h2 (List.mem_cons_of_mem _ h)⟩,fun i j t hi hj h1 h2 => by
   cases i with
   | zero => cases j with
    | zero => rfl
    | succ j =>
     cases h1
     exact absurd (List.mem_cons_self ..) (i5.1 j id (by simpa using hj) h2).2
   | succ i => cases j with
    | zero =>
     cases h2
     exact absurd (List.mem_cons_self ..) (i5.1 i id (by simpa using hi) h1).2
    | succ j => rw [i5.2 i j t (by simpa using hi) (by simpa using hj) h1 h2]⟩,⟨fun i t hi ht => by
   cases i with
   | zero => cases ht
   | succ i => exact i6.1 i t (by simpa using hi) ht,fun i j t hi hj h1 h2 => by
   cases i with
   | zero => cases h1
   | succ i => cases j with
    | zero => cases h2
    | succ j => rw [i6.2 i j t (by simpa using hi) (by simpa using hj) h1 h2]⟩⟩
  ·rw [List.length_cons,dV]; simpa using i3
  ·intro i y hy
   cases i with
   | zero =>
    simp only [List.getElem?_cons_zero,Option.some.injEq] at hy
    subst hy
    exact ⟨i1,hd,.inr ⟨hw,.inr (.inr (.inl ⟨rfl,rfl,cs,id,rfl,rfl,fun st hs => ⟨hv st hs,hr st hs⟩⟩))⟩⟩
   | succ i =>
    rw [dV]
    simpa using i4 i y (by simpa using hy)
 | @boxL x l a lv bs ts a1 id cs d hw hd hv hr hr2 hx hy ht hn h ih =>
  obtain ⟨am,vs,eff,bid,tid,i1,i2,i3,i4,i5,i6⟩:=ih
  refine ⟨fun i => match i with | 0 => a | i + 1 => am i, fun i => match i with | 0 => .ptr id 0 | i + 1 => vs i, fun i => match i with | 0 => false | i + 1 => eff i, fun i => match i with | 0 => some id | i + 1 => bid i, fun i => match i with | 0 => none | i + 1 => tid i, rfl, i2, ?_, ?_, ⟨fun i t hi ht' => by
   cases i with
   | zero => cases ht'; exact ⟨ht,hn⟩
   | succ i =>
    obtain ⟨h1,h2⟩:=i5.1 i t (by simpa using hi) ht'
    exact ⟨h1,fun h => h2 (List.mem_cons_of_mem _ h)⟩,fun i j t hi hj h1 h2 => by
   cases i with
   | zero => cases j with
    | zero => rfl
    | succ j =>
     cases h1
     exact absurd (List.mem_cons_self ..) (i5.1 j id (by simpa using hj) h2).2
   | succ i => cases j with
    | zero =>
     cases h2
     exact absurd (List.mem_cons_self ..) (i5.1 i id (by simpa using hi) h1).2
    | succ j => rw [i5.2 i j t (by simpa using hi) (by simpa using hj) h1 h2]⟩,⟨fun i t hi ht => by
   cases i with
   | zero => cases ht
   | succ i => exact i6.1 i t (by simpa using hi) ht,fun i j t hi hj h1 h2 => by
   cases i with
   | zero => cases h1
   | succ i => cases j with
    | zero => cases h2
    | succ j => rw [i6.2 i j t (by simpa using hi) (by simpa using hj) h1 h2]⟩⟩
  ·rw [List.length_cons,dV]; simpa using i3
  ·intro i y hy
   cases i with
   | zero =>
    simp only [List.getElem?_cons_zero,Option.some.injEq] at hy
    subst hy
    exact ⟨i1,hd,.inr ⟨hw,.inr (.inr (.inr (.inr (.inl ⟨rfl,rfl,cs,id,d,rfl,rfl,hx,by simpa using hy,fun st hs => ⟨hv st hs,hr2 st hs⟩,hr⟩))))⟩⟩
   | succ i =>
    rw [dV]
    simpa using i4 i y (by simpa using hy)
 | @eff x l a lv bs ts a1 v st st' hw hd hl hs hs' hv h ih =>
  obtain ⟨am,vs,eff,bid,tid,i1,i2,i3,i4,i5,i6⟩:=ih
  refine ⟨fun i => match i with | 0 => a | i + 1 => am i, fun i => match i with | 0 => v | i + 1 => vs i, fun i => match i with | 0 => true | i + 1 => eff i, fun i => match i with | 0 => none | i + 1 => bid i, fun i => match i with | 0 => none | i + 1 => tid i, rfl, i2, ?_, ?_, ⟨fun i t hi ht => by
   cases i with
   | zero => cases ht
   | succ i => exact i5.1 i t (by simpa using hi) ht,fun i j t hi hj h1 h2 => by
   cases i with
   | zero => cases h1
   | succ i => cases j with
    | zero => cases h2
    | succ j => rw [i5.2 i j t (by simpa using hi) (by simpa using hj) h1 h2]⟩,⟨fun i t hi ht => by
   cases i with
   | zero => cases ht
   | succ i => exact i6.1 i t (by simpa using hi) ht,fun i j t hi hj h1 h2 => by
   cases i with
   | zero => cases h1
   | succ i => cases j with
    | zero => cases h2
    | succ j => rw [i6.2 i j t (by simpa using hi) (by simpa using hj) h1 h2]⟩⟩
  ·rw [List.length_cons,dV]
   simp only [if_true]
   omega
  ·intro i y hy
   cases i with
   | zero =>
    simp only [List.getElem?_cons_zero,Option.some.injEq] at hy
    subst hy
    exact ⟨i1,hd,.inr ⟨hw,.inr (.inr (.inr (.inl ⟨rfl,rfl,rfl,hl,st,st',by simpa [lvl] using hs,by simpa [lvl] using hs',hv⟩)))⟩⟩
   | succ i =>
    rw [dV]
    simp only [if_true]
    have:=i4 i y (by simpa using hy)
    rw [show lv + (1 + lvl eff i) = lv + 1 + lvl eff i by omega]
    exact this
theorem zT {P : Program} {code : Code} {m w : Nat} {xs : List aT} (h : bK P code = some (.dreg m w xs)) : ∃ id ops,code = .region id ops true ∧ P.follows .mixedOrders = true ∧ okD ops xs m = true ∧ ops.toList.mapM (cL P ops) = some xs ∧ w = wOf ops xs m:=by
 cases code <;> simp only [bK,reduceCtorEq] at h
 case region id ops draw =>
  split at h
  ·rename_i hd
   subst hd
   split at h
   ·rename_i ys hys
    split at h
    ·rename_i k hk
     split at h
     ·rename_i hmix
      simp only [Option.some.injEq,cD.dreg.injEq] at h
      obtain ⟨rfl,rfl,rfl⟩:=h
      exact ⟨id,ops,rfl,hmix,List.find?_some hk,hys,rfl⟩
     ·cases h
    ·cases h
   ·cases h
  ·split at h
   ·cases h
   ·simp at h
 case seq => split at h <;> simp at h
 case cond => split at h <;> simp at h
 case rangeFunc => split at h <;> simp at h
 all_goals simp at h
open Classical in
theorem Ex.drawE {n0 : Cx} {md : Md} {P : Program} {X : Clr} (hX : eE P X) {m wk : Nat} {xs : List aT} {a a1 : List AV} {S : St} {Q : AEx → List AV → St → Prop} (lb : List (List AV)) (lt : List (Nat × Nat)) (ss : List St)
  (hD : DrO X (fun k => wk.testBit (m - 1 - k)) S.bx.length S.lv.length (⟨S.bx ++ lb,S.lv ++ lt⟩ :: ss) (xs.take m) a 0 [] [] a1) (hT : ExO n0 P (xs.drop m) a1 (ss.getLastD ⟨S.bx ++ lb,S.lv ++ lt⟩) (Q .norm)) : Ex n0 md P (.dreg m wk xs) a S Q:=by
 intro E hn code hco act w hA
 obtain ⟨id,ops,rfl,hmix,hok,hc,hwm⟩:=zT hco
 obtain ⟨hnd,hmle,hxl,hsp⟩:=oK hok
 have hml : (xs.take m).length = m:=by simp; omega
 have htk : ∀ i,i < m → (xs.take m)[i]? = xs[i]?:=fun i hi => List.getElem?_take_of_lt hi
 generalize hst0 : St.mk (S.bx ++ lb) (S.lv ++ lt) = st0 at hD hT
 obtain ⟨am,v,eff,bid,tid,ha0,ham1,hlv,hstep,⟨hbn,hbd⟩,htn,htd⟩:=hD.spec
 rw [hml] at ham1 hlv htn htd hbn hbd
 simp only [Nat.zero_add,List.length_cons] at hlv hstep
 let st : Nat → St:=fun k => (st0 :: ss).getD k default
 have hstm : ∀ k,k ≤ lvl eff m → st k ∈ st0 :: ss:=by
  intro k hk
  have hk' : k < (st0 :: ss).length:=by rw [List.length_cons]; omega
  show (st0 :: ss).getD k default ∈ _
  rw [List.getD,List.getElem?_eq_getElem hk']
  exact List.getElem_mem hk'
 have hst : ∀ i,i < m → ∃ o x,ops[i]? = some o ∧ xs[i]? = some x ∧ am (i + 1) = putA (am i) x.dst (v i) ∧ aFN X (fun k => wk.testBit (m - 1 - k)) ((xs.take m).drop (i + 1)) (st0 :: ss) (am i) x (lvl eff i) (v i) (eff i) (bid i) (tid i):=by
  intro i hi
  obtain ⟨o,x,hoi,hx,_⟩:=hsp i (by omega)
  obtain ⟨h1,h2⟩:=hstep i x (by rw [htk i hi]; exact hx)
  exact ⟨o,x,hoi,hx,h1,h2⟩
 have hdx : ∀ i t,dO xs i = some t → ∃ x,xs[i]? = some x ∧ x.dst = some t:=fun i t h => by
  simp only [dO,Option.bind_eq_some_iff] at h
  exact h
 have hslot : ∀ t i r,i + r ≤ m → (∀ k,i ≤ k → k < i + r → dO xs k ≠ some t) → (am (i + r)).getD t .junk = (am i).getD t .junk:=by
  intro t i r
  induction r with
  | zero => intro _ _; rfl
  | succ r ih =>
   intro hr hno
   obtain ⟨_,x,_,hx,h2,_⟩:=hst (i + r) (by omega)
   rw [show i + (r + 1) = i + r + 1 by omega,h2,iL _ _ _ _ (by have:=hno (i + r) (by omega) (by omega); simpa [dO,hx] using this)]
   exact ih (by omega) fun k h1 h2 => hno k h1 (by omega)
 have hlenA : ∀ i,i ≤ m → (am i).length = a.length:=by
  intro i
  induction i with
  | zero => intro _; rw [ha0]
  | succ i ih =>
   intro hi
   obtain ⟨_,x,_,_,h2,_⟩:=hst i (by omega)
   rw [h2,jQ,ih (by omega)]
 have hdl : ∀ i t,i < m → dO xs i = some t → t < a.length:=by
  intro i t hi hd
  obtain ⟨_,x,_,hx,_,hdo,_⟩:=hst i hi
  have hxd : x.dst = some t:=by simpa [dO,hx] using hd
  simp only [jR,hxd,decide_eq_true_eq] at hdo
  rw [← hlenA i (by omega)]; exact hdo
 have huniq : ∀ i k t,i < m → k < m → dO xs i = some t → dO xs k = some t → k = i:=by
  intro i k t hi hk h1 h2
  obtain ⟨_,x,_,hx,_,hmain,_⟩:=hsp i (by omega)
  by_cases he : k = i
  ·exact he
  ·exact absurd h2 ((hmain hi).1 k hk he t (by simpa [dO,hx] using h1))
 have h1 : ∀ i,i < m → ∀ t,dO xs i = some t → t < a.length ∧ a1.getD t .junk = v i:=by
  intro i hi t hd
  have hlt:=hdl i t hi hd
  obtain ⟨_,x,_,hx,h2,_⟩:=hst i hi
  refine ⟨hlt,?_⟩
  have e1:=hslot t (i + 1) (m - (i + 1)) (by omega) (fun k h1 h2 hk => by have:=huniq i k t hi (by omega) hd hk; omega)
  rw [show i + 1 + (m - (i + 1)) = m by omega,ham1] at e1
  have hxd : x.dst = some t:=by simpa [dO,hx] using hd
  rw [e1,h2,hxd,jW _ _ _ (by rw [hlenA i (by omega)]; exact hlt)]
 have h0 : ∀ t,(∀ i,i < m → dO xs i ≠ some t) → a1.getD t .junk = a.getD t .junk:=by
  intro t hno
  have e1:=hslot t 0 m (by omega) (fun k _ h2 => hno k (by omega))
  rw [Nat.zero_add,ham1,ha0] at e1
  exact e1
 have ham : ∀ i,i < m → ∀ t,((∀ k,k < i → dO xs k ≠ some t) → (am i).getD t .junk = a.getD t .junk) ∧ ((∃ k,k < i ∧ dO xs k = some t) → (am i).getD t .junk = a1.getD t .junk):=by
  intro i hi t
  refine ⟨fun hno => ?_,fun ⟨k,hk,hd⟩ => ?_⟩
  ·have e1 := hslot t 0 i (by omega) (fun k _ h2 => hno k (by omega))
   rw [Nat.zero_add,ha0] at e1
   exact e1
  ·have e1 := hslot t i (m - i) (by omega) (fun k' h1 h2 hk' => by have := huniq k k' t (by omega) (by omega) hd hk'; omega)
   rw [show i + (m - i) = m by omega,ham1] at e1
   exact e1.symm
 have hguard : ∀ i x,i < m → xs[i]? = some x → bG x.guard a1 = bG x.guard (am i):=by
  intro i x hi hx
  obtain ⟨o,x',hoi,hx',hlt,hmain,_⟩:=hsp i (by omega)
  rw [hx] at hx'; cases hx'
  cases hg : x.guard with
  | none => rfl
  | some g =>
   obtain ⟨d,wnt⟩:=g
   simp only [bG]
   have : a1.getD d .junk = (am i).getD d .junk:=by
    by_cases hex : ∃ k,k < m ∧ dO xs k = some d
    ·obtain ⟨k,hk,hd⟩:=hex
     exact ((ham i hi d).2 ⟨k,hlt k ((hmain hi).2.1 d wnt hg k hk hd),hd⟩).symm
    ·have hno : ∀ k,k < m → dO xs k ≠ some d:=fun k hk h => hex ⟨k,hk,h⟩
     rw [h0 d hno,(ham i hi d).1 fun k hk => hno k (by omega)]
   rw [this]
 obtain ⟨G,hI,hR,hg0,hk0,hd0⟩:=hA
 have hahead:=wE hI.drew lb lt
 rw [hst0] at hahead
 obtain ⟨a1h,a2h,a3h,a4h⟩:=hahead
 refine lT hmix hnd (fun a w h => by
  obtain ⟨x,_,_,h,_⟩:=h
  cases x <;> cases h) ?_
 -- boxes that the last operation writes
 have hlastE : ∀ i d,i < m → dO xs i = some d → qK ((xs.take m).drop (i + 1)) d = true → eff (m - 1) = true ∧ i < m - 1 ∧ ∃ oj,ops[m - 1]? = some oj ∧ i ∈ eU oj:=by
  intro i d hi hdi hwt
  unfold qK at hwt
  cases hgl : ((xs.take m).drop (i + 1)).getLast? with
  | none => rw [hgl] at hwt; cases hwt
  | some y =>
   rw [hgl] at hwt
   simp only at hwt
   rw [List.getLast?_eq_getElem?,List.getElem?_drop] at hgl
   have hlen2 : ((xs.take m).drop (i + 1)).length = m - (i + 1):=by rw [List.length_drop,hml]
   rw [hlen2] at hgl
   have hlt2:=(List.getElem?_eq_some_iff.1 hgl).1
   rw [hml] at hlt2
   have him : i < m - 1:=by
    rcases Nat.lt_or_ge i (m - 1) with h | h
    ·exact h
    ·exfalso
     have : ((xs.take m).drop (i + 1)) = []:=by apply List.drop_eq_nil_of_le; rw [hml]; omega
     rw [this] at hlen2
     have h3 : i + 1 + (m - (i + 1) - 1) < m:=hlt2
     omega
   rw [show i + 1 + (m - (i + 1) - 1) = m - 1 by omega,htk (m - 1) (by omega)] at hgl
   obtain ⟨oj,y2,hoj,hy2,_,_,hf⟩:=hst (m - 1) (by omega)
   rw [hgl] at hy2; cases hy2
   have hgn : y.guard = none:=by
    cases hg : y.guard with
    | none => rfl
    | some g => rw [hg] at hwt; cases hwt
   rw [hgn] at hwt
   simp only at hwt
   have hf:=hf.resolve_left (fun h => by have h1:=h.1; rw [hgn] at h1; cases h1) |>.2
   obtain ⟨oj2,y3,hoj2,hy3,hlt3,hmain3,_⟩:=hsp (m - 1) (by omega)
   rw [hoj] at hoj2; cases hoj2
   rw [hgl] at hy3; cases hy3
   cases hop : y.op with
   | store n x2 z =>
    rw [hop] at hwt
    cases x2 with
    | con _ => cases hwt
    | tmp t =>
     simp only [beq_iff_eq] at hwt
     subst hwt
     refine ⟨?_,him,oj,hoj,?_⟩
     ·rcases hf with ⟨_,_,_,e3⟩ | ⟨_,_,s,els,id,_,_,e4⟩ | ⟨_,_,cs,id,_,_,e4⟩ | ⟨e1,_⟩ | ⟨_,_,cs,id,d2,_,_,_,_,e4,_⟩ | ⟨_,_,_,d2,_,e6,_⟩ | ⟨_,_,s,els,id,d2,_,_,_,_,e7,_⟩
      ·exfalso
       rcases e3 st0 (List.mem_cons_self ..) with h | ⟨f,ys,h,_⟩ <;> rw [hop] at h <;> simp only [aop] at h <;> split at h <;> simp [Option.bind_eq_some_iff] at h
      ·exfalso
       have h:=(e4 st0 (List.mem_cons_self ..)).1
       rw [hop] at h; simp only [aop] at h
       split at h <;> simp [Option.bind_eq_some_iff] at h
      ·exfalso
       have h:=(e4 st0 (List.mem_cons_self ..)).1
       rw [hop] at h; simp only [aop] at h
       split at h <;> simp [Option.bind_eq_some_iff] at h
      ·exact e1
      ·exfalso
       have h:=(e4 st0 (List.mem_cons_self ..)).1
       rw [hop] at h; simp only [aop] at h
       split at h <;> simp [Option.bind_eq_some_iff] at h
      ·exfalso
       rw [show m - 1 + 1 = m by omega,List.drop_eq_nil_of_le (by rw [hml]; exact Nat.le_refl _)] at e6
       cases e6
      ·exfalso
       have h:=(e7 st0 (List.mem_cons_self ..)).1
       rw [hop] at h; simp only [aop] at h
       split at h <;> simp [Option.bind_eq_some_iff] at h
     ·rcases (hmain3 (by omega)).2.2.1 t (by rw [hop]; simp [AOp.opds]) i hi hdi with h | ⟨ok, hok2, h⟩
      ·exact h
      ·exfalso
       obtain ⟨ok3,_,hok3,_,hlt4,_⟩:=hsp i (by omega)
       rw [hok2] at hok3; cases hok3
       have:=hlt4 _ h
       omega
   | _ => rw [hop] at hwt; cases hwt
 -- what the last operation waits for
 have hneed : ∀ n k,k + n + 1 = m → ∀ t,t ∈ oL ((xs.take m).drop k) → eff (m - 1) = true ∧ ∀ i,i < k → dO xs i = some t → Pre ops i (m - 1):=by
  intro n
  induction n with
  | zero =>
   intro k hk t ht
   obtain rfl : k = m - 1:=by omega
   obtain ⟨oj,y,hoj,hy,_,_,hf⟩:=hst (m - 1) (by omega)
   have hdr : (xs.take m).drop (m - 1) = [y]:=by
    rw [List.drop_eq_getElem_cons (by rw [hml]; omega),List.drop_eq_nil_of_le (by rw [hml]; omega)]
    have:=htk (m - 1) (by omega)
    rw [hy,List.getElem?_eq_getElem (by rw [hml]; omega)] at this
    rw [Option.some.inj this]
   rw [hdr] at ht
   simp only [oL] at ht
   split at ht
   ·rename_i hgn
    split at ht
    ·rename_i hst2
     have hf:=hf.resolve_left (fun h => by have h1:=h.1; rw [hgn] at h1; cases h1) |>.2
     obtain ⟨oj2,y3,hoj2,hy3,hlt3,hmain3,_⟩:=hsp (m - 1) (by omega)
     rw [hoj] at hoj2; cases hoj2
     rw [hy] at hy3; cases hy3
     have hmem : AOpd.tmp t ∈ y.op.opds:=by
      simp only [pE,List.mem_filterMap] at ht
      obtain ⟨z,hz,hz2⟩:=ht
      cases z with
      | tmp t2 => simp only [Option.some.injEq] at hz2; subst hz2; exact hz
      | con _ => cases hz2
     refine ⟨?_,fun i hi hdi => ?_⟩
     ·cases hop : y.op with
      | store n x2 z =>
       rcases hf with ⟨_,_,_,e3⟩ | ⟨_,_,s,els,id,_,_,e4⟩ | ⟨_,_,cs,id,_,_,e4⟩ | ⟨e1,_⟩ | ⟨_,_,cs,id,d2,_,_,_,_,e4,_⟩ | ⟨_,_,_,d2,_,e6,_⟩ | ⟨_,_,s,els,id,d2,_,_,_,_,e7,_⟩
       ·exfalso
        rcases e3 st0 (List.mem_cons_self ..) with h | ⟨f,ys,h,_⟩ <;> rw [hop] at h <;> simp only [aop] at h <;> split at h <;> simp [Option.bind_eq_some_iff] at h
       ·exfalso
        have h:=(e4 st0 (List.mem_cons_self ..)).1
        rw [hop] at h; simp only [aop] at h
        split at h <;> simp [Option.bind_eq_some_iff] at h
       ·exfalso
        have h:=(e4 st0 (List.mem_cons_self ..)).1
        rw [hop] at h; simp only [aop] at h
        split at h <;> simp [Option.bind_eq_some_iff] at h
       ·exact e1
       ·exfalso
        have h:=(e4 st0 (List.mem_cons_self ..)).1
        rw [hop] at h; simp only [aop] at h
        split at h <;> simp [Option.bind_eq_some_iff] at h
       ·exfalso
        rw [show m - 1 + 1 = m by omega,List.drop_eq_nil_of_le (by rw [hml]; exact Nat.le_refl _)] at e6
        cases e6
       ·exfalso
        have h:=(e7 st0 (List.mem_cons_self ..)).1
        rw [hop] at h; simp only [aop] at h
        split at h <;> simp [Option.bind_eq_some_iff] at h
      | _ => rw [hop] at hst2; cases hst2
     ·rcases (hmain3 (by omega)).2.2.1 t hmem i (by omega) hdi with h | ⟨ok, hok2, h⟩
      ·exact .one hoj h
      ·exfalso
       obtain ⟨ok3,_,hok3,_,hlt4,_⟩:=hsp i (by omega)
       rw [hok2] at hok3; cases hok3
       have:=hlt4 _ h
       omega
    ·simp at ht
   ·simp at ht
  | succ n ih =>
   intro k hk t ht
   obtain ⟨ok,y,hok1,hy,_,_,_⟩:=hst k (by omega)
   have hdr : (xs.take m).drop k = y :: (xs.take m).drop (k + 1):=by
    rw [List.drop_eq_getElem_cons (by rw [hml]; omega)]
    have:=htk k (by omega)
    rw [hy,List.getElem?_eq_getElem (by rw [hml]; omega)] at this
    rw [Option.some.inj this]
   rw [hdr] at ht
   have hne : (xs.take m).drop (k + 1) ≠ []:=fun h => by
    have:=congrArg List.length h
    rw [List.length_drop,hml] at this
    simp at this; omega
   rcases aDf hne ht with h | ⟨d,hd1,hd2,hd3⟩
   ·obtain ⟨g1, g2⟩ := ih (k + 1) (by omega) t h
    exact ⟨g1,fun i hi => g2 i (by omega)⟩
   ·obtain ⟨g1, g2⟩ := ih (k + 1) (by omega) d hd2
    have gk:=g2 k (by omega) (by simp [dO,hy,hd1])
    refine ⟨g1,fun i hi hdi => .more ?_ gk⟩
    obtain ⟨ok2,y3,hok2,hy3,hlt3,hmain3,_⟩:=hsp k (by omega)
    rw [hok1] at hok2; cases hok2
    rw [hy] at hy3; cases hy3
    have hmem : AOpd.tmp t ∈ y.op.opds:=by
     simp only [pE,List.mem_filterMap] at hd3
     obtain ⟨z,hz,hz2⟩:=hd3
     cases z with
     | tmp t2 => simp only [Option.some.injEq] at hz2; subst hz2; exact hz
     | con _ => cases hz2
    rcases (hmain3 (by omega)).2.2.1 t hmem i (by omega) hdi with h | ⟨ok4,hok4,h⟩
    ·exact .one hok1 h
    ·exfalso
     obtain ⟨ok3,_,hok3,_,hlt4,_⟩:=hsp i (by omega)
     rw [hok4] at hok3; cases hok3
     have:=hlt4 _ h
     omega
 have hlastC : ∀ i d,i < m → dO xs i = some d → aCY ((xs.take m).drop (i + 1)) d = true → eff (m - 1) = true ∧ i < m - 1 ∧ Pre ops i (m - 1):=by
  intro i d hi hdi hwt
  unfold aCY at hwt
  have hmem : d ∈ oL ((xs.take m).drop (i + 1)):=by simpa using hwt
  have him : i + 1 < m:=by
   rcases Nat.lt_or_ge (i + 1) m with h | h
   ·exact h
   ·rw [List.drop_eq_nil_of_le (by rw [hml]; omega)] at hmem
    cases hmem
  obtain ⟨g1,g2⟩:=hneed (m - (i + 1) - 1) (i + 1) (by omega) d hmem
  exact ⟨g1,by omega,g2 i (by omega) hdi⟩
 have hlm1 : eff (m - 1) = true → 0 < m → lvl eff m = lvl eff (m - 1) + 1:=fun he hm0 => by
  unfold lvl
  obtain ⟨k,rfl⟩ : ∃ k,m = k + 1:=⟨m - 1,by omega⟩
  simp only [Nat.add_sub_cancel] at he ⊢
  rw [List.range_succ,List.filter_append]
  simp [he]
 have hstd : ∀ k,k < lvl eff m → st k ∈ (st0 :: ss).dropLast:=by
  intro k hk
  have hk' : k < (st0 :: ss).dropLast.length:=by rw [List.length_dropLast,List.length_cons]; omega
  have e1 : (st0 :: ss).dropLast[k]? = some (st k):=by
   show _ = some ((st0 :: ss).getD k default)
   rw [List.getElem?_dropLast,if_pos (by rw [List.length_cons]; omega),List.getD]
   rw [List.getElem?_eq_getElem (by rw [List.length_cons]; omega)]
   rfl
  exact List.mem_of_getElem? e1
 have hlastW : ∀ i d,i < m → dO xs i = some d → qJ (fun k => wk.testBit (m - 1 - k)) ((xs.take m).drop (i + 1)) d = true → eff (m - 1) = true ∧ i < m - 1 ∧ Pre ops i (m - 1):=by
  intro i d hi hdi hwt
  unfold qJ at hwt
  rw [Bool.or_eq_true] at hwt
  rcases hwt with hwt | hwt
  ·exact hlastC i d hi hdi hwt
  ·rw [Bool.and_eq_true] at hwt
   have hwt:=hwt.2
   simp only [List.length_drop,hml] at hwt
   rw [show m - 1 - (m - (i + 1)) = i by omega,hwm] at hwt
   unfold wOf at hwt
   split at hwt
   ·rename_i hcw
    simp only [Bool.and_eq_true,Bool.not_eq_true',List.isEmpty_eq_false_iff] at hcw
    obtain ⟨t,ht⟩:=List.exists_mem_of_ne_nil _ hcw.2
    obtain ⟨g1,_⟩:=hneed 0 (m - 1) (by omega) t ht
    obtain ⟨oj,y,hoj,_⟩:=hst (m - 1) (by omega)
    have hoj' : ops.toList[m - 1]? = some oj:=by rw [Array.getElem?_toList]; exact hoj
    have hP:=aBQ (L:=fun j => Pre ops j (m - 1)) _ ops.toList rfl (fun i o hi hL k hk => .more (.one (by rw [← Array.getElem?_toList]; exact hi) hk) hL) (m - 1) oj hoj' (fun k hk => .one hoj hk) i hwt
    have hlt : ∀ i j,Pre ops i j → j < m → i < j:=by
     intro i j h
     induction h with
     | @one i j oj h k =>
      intro hj
      obtain ⟨ok3,_,hok3,_,hlt4,_⟩:=hsp j (by omega)
      rw [h] at hok3; cases hok3
      exact hlt4 _ k
     | more _ _ ih1 ih2 =>
      intro hj
      have:=ih2 hj
      have:=ih1 (by omega)
      omega
    exact ⟨g1,hlt i (m - 1) hP (by omega),hP⟩
   ·simp at hwt
 refine aAv (fun i => if ∃ x d,xs[i]? = some x ∧ x.dst = some d ∧ rowB x ((xs.take m).drop (i + 1)) d = true then lvl eff i else if ∃ d,dO xs i = some d ∧ (qK ((xs.take m).drop (i + 1)) d = true ∨ qJ (fun k => wk.testBit (m - 1 - k)) ((xs.take m).drop (i + 1)) d = true) then lvl eff m - 1 else lvl eff m) ?_ (a:=a) (a1:=a1) (v:=v) (st:=st) (eff:=eff) (bid:=bid) (tid:=tid) (G0:=G) (S0:=S) (w0:=w) (act0:=act) hX hok hc (by rw [← ham1,hlenA m (Nat.le_refl _)]) h1 h0 am ham ?_ ?_ hbd htd (fun i t hi h => (hbn i t hi h).1) (fun i t hi h => (htn i t hi h).1) ?_ ops.size (Array.replicate ops.size false) act w.drew ?_ (by simp) ?_ ?_ ?_
 ·intro i hi
  by_cases hc1 : ∃ x d,xs[i]? = some x ∧ x.dst = some d ∧ rowB x ((xs.take m).drop (i + 1)) d = true
  ·rw [if_pos hc1]
   obtain ⟨x0,d,hx0,hxd0,hrb⟩:=hc1
   simp only [rowB,Bool.and_eq_true] at hrb
   -- the first that turns something behind it
   have first : ∀ n k,k + n = m → lvl eff k ≤ lvl eff i → lvl eff m ≤ lvl eff i ∨ ∃ j,k ≤ j ∧ j < m ∧ eff j = true ∧ lvl eff j ≤ lvl eff i:=by
    intro n
    induction n with
    | zero => intro k hk hle; exact .inl (by rw [← hk]; exact hle)
    | succ n ih =>
     intro k hk hle
     cases he : eff k with
     | true => exact .inr ⟨k,Nat.le_refl _,by omega,he,hle⟩
     | false =>
      have : lvl eff (k + 1) = lvl eff k:=by unfold lvl; rw [List.range_succ,List.filter_append]; simp [he]
      rcases ih (k + 1) (by omega) (by omega) with h | ⟨j,h1,h2⟩
      ·exact .inl h
      ·exact .inr ⟨j,by omega,h2⟩
   obtain ⟨oi,xi,hoi,hxi,_,_,hfi⟩:=hst i hi
   rw [hx0] at hxi; cases hxi
   have hei : eff i = false:=by
    cases he : eff i with
    | false => rfl
    | true =>
     exfalso
     cases hop0 : x0.op with
     | bsl s ag z len ps =>
      rcases hfi with ⟨_,_,e1,_⟩ | ⟨_,⟨e1,_⟩ | ⟨e1,_⟩ | ⟨e1,_⟩ | ⟨_,_,_,e3,_⟩ | ⟨e1,_⟩ | ⟨e1,_⟩ | ⟨e1,_⟩⟩ <;> first | (rw [he] at e1; cases e1; done) | (rw [hop0] at e3; cases e3)
     | _ => rw [hop0] at hrb; cases hrb.1
   have hl1 : lvl eff (i + 1) = lvl eff i:=by unfold lvl; rw [List.range_succ,List.filter_append]; simp [hei]
   rcases first (m - (i + 1)) (i + 1) (by omega) (by omega) with h | ⟨j,j1,j2,j3,j4⟩
   ·exact .inl h
   ·refine .inr ⟨j,j2,j3,?_,j4⟩
    obtain ⟨oj,y,hoj,hy,_,_,hf⟩:=hst j j2
    have hla : sT y.op = true:=by
     have hf:=hf.resolve_left (fun h => by have h1:=h.2.2.1; rw [j3] at h1; cases h1) |>.2
     rcases hf with ⟨e1,_⟩ | ⟨e1,_⟩ | ⟨e1,_⟩ | ⟨_,_,_,e3,_⟩ | ⟨e1,_⟩ | ⟨e1,_⟩ | ⟨e1,_⟩ <;> first | exact e3 | (rw [j3] at e1; cases e1)
    have hym : y ∈ (xs.take m).drop (i + 1):=by
     refine List.mem_of_getElem? (i:=j - (i + 1)) ?_
     rw [List.getElem?_drop,show i + 1 + (j - (i + 1)) = j by omega,htk j j2,hy]
    have hc:=List.all_eq_true.1 hrb.2 y hym
    rw [hla] at hc
    have hmem : AOpd.tmp d ∈ y.op.opds:=by
     simp only [Bool.not_true,Bool.false_or,List.contains_iff_mem,pE,List.mem_filterMap] at hc
     obtain ⟨z,hz,hz2⟩:=hc
     cases z with
     | tmp t2 => simp only [Option.some.injEq] at hz2; subst hz2; exact hz
     | con _ => cases hz2
    obtain ⟨oj2,y3,hoj2,hy3,hlt3,hmain3,_⟩:=hsp j (by omega)
    rw [hoj] at hoj2; cases hoj2
    rw [hy] at hy3; cases hy3
    rcases (hmain3 j2).2.2.1 d hmem i hi (by simp [dO,hx0,hxd0]) with h | ⟨ok4,hok4,h⟩
    ·exact .one hoj h
    ·exfalso
     obtain ⟨ok3,_,hok3,_,hlt4,_⟩:=hsp i (by omega)
     rw [hok4] at hok3; cases hok3
     have:=hlt4 _ h
     omega
  rw [if_neg hc1]
  by_cases hc2 : ∃ d,dO xs i = some d ∧ (qK ((xs.take m).drop (i + 1)) d = true ∨ qJ (fun k => wk.testBit (m - 1 - k)) ((xs.take m).drop (i + 1)) d = true)
  ·obtain ⟨d,hdi,hwt⟩:=hc2
   obtain ⟨q1,q2,q4⟩ : eff (m - 1) = true ∧ i < m - 1 ∧ Pre ops i (m - 1):=by
    rcases hwt with hwt | hwt
    ·obtain ⟨q1,q2,oj,q3,q4⟩:=hlastE i d hi hdi hwt
     exact ⟨q1,q2,.one q3 q4⟩
    ·exact hlastW i d hi hdi hwt
   refine .inr ⟨m - 1,by omega,q1,q4,?_⟩
   rw [if_pos ⟨d,hdi,hwt⟩,hlm1 q1 (by omega)]
   omega
  ·rw [if_neg hc2]
   exact .inl (Nat.le_refl _)
 ·intro i hi x hx
  obtain ⟨_,x',_,hx',_,_,hf⟩:=hst i hi
  rw [hx] at hx'; cases hx'
  rcases hf with ⟨hw,f1,f2,f3,f4⟩ | ⟨hw,hf⟩
  ·exact .inl ⟨(hguard i x hi hx).trans hw,f1,f2,f3,f4⟩
  have hlvi : lvl eff i ≤ lvl eff m:=by
   unfold lvl
   exact List.Sublist.length_le (List.Sublist.filter _ (by rw [show m = i + (m - i) by omega,List.range_add]; exact List.sublist_append_left _ _))
  have hupm : (if ∃ x d,xs[i]? = some x ∧ x.dst = some d ∧ rowB x ((xs.take m).drop (i + 1)) d = true then lvl eff i else if ∃ d,dO xs i = some d ∧ (qK ((xs.take m).drop (i + 1)) d = true ∨ qJ (fun k => wk.testBit (m - 1 - k)) ((xs.take m).drop (i + 1)) d = true) then lvl eff m - 1 else lvl eff m) ≤ lvl eff m:=by
   split
   ·exact hlvi
   ·split <;> omega
  refine .inr ⟨(hguard i x hi hx).trans hw,?_⟩
  rcases hf with ⟨e1,e0,e2,e3⟩ | ⟨e1,e0,s,els,id,e2,e3,e4⟩ | ⟨e1,e0,cs,id,e2,e3,e4⟩ | ⟨e1,e0,e2,e3,s1,s2,e4,e5,e6⟩ | ⟨e1,e0,cs,id,d,e2,e3,e7,e8,e4,e5⟩ | ⟨e1,e0,e2,d,e7,e8,e5⟩ | ⟨e1,e0,s,els,id,d,e2,e3,e7,e8,e4,e5⟩
  ·exact .inl ⟨e1,e0,e2,fun k hk => e3 (st k) (hstm k (Nat.le_trans hk hupm))⟩
  ·exact .inr (.inr (.inl ⟨e1,e0,s,els,id,e2,e3,fun k hk => e4 (st k) (hstm k (Nat.le_trans hk hupm)),fun k hk => (List.getElem?_eq_some_iff.1 (e4 (st k) (hstm k hk)).2).1⟩))
  ·exact .inr (.inl ⟨e1,e0,cs,id,e2,e3,fun k hk => e4 (st k) (hstm k (Nat.le_trans hk hupm)),fun k hk => (List.getElem?_eq_some_iff.1 (e4 (st k) (hstm k hk)).2).1⟩)
  ·have g1 : st (lvl eff i) = s1 := by show (st0 :: ss).getD _ default = _; rw [List.getD, e4]; rfl
   have g2 : st (lvl eff i + 1) = s2:=by show (st0 :: ss).getD _ default = _; rw [List.getD,e5]; rfl
   have g3 : lvl eff i + 1 ≤ lvl eff m:=by
    have:=(List.getElem?_eq_some_iff.1 e5).1
    rw [List.length_cons] at this
    omega
   exact .inr (.inr (.inr ⟨e1,e0,e2,g3,by rw [g1,g2]; exact e6⟩))
  ·have hdi : dO xs i = some d := by simp [dO, hx, e7]
   obtain ⟨q1,q2,_⟩:=hlastE i d hi hdi e8
   have q5:=hlm1 q1 (by omega)
   refine .inr (.inl ⟨e1,e0,cs,id,e2,e3,fun k hk => ?_,fun k hk => (e4 (st k) (hstm k hk)).2⟩)
   have hnr : ¬ ∃ x d,xs[i]? = some x ∧ x.dst = some d ∧ rowB x ((xs.take m).drop (i + 1)) d = true:=by
    rintro ⟨x0,d0,hx0,_,hrb⟩
    rw [hx] at hx0; cases hx0
    simp only [rowB,Bool.and_eq_true] at hrb
    have h:=(e4 st0 (List.mem_cons_self ..)).1
    cases hop0 : x.op with
    | bsl s ag z len ps => rw [hop0] at h; simp only [aop,Option.bind_eq_some_iff] at h; obtain ⟨_,_,h⟩:=h; split at h <;> cases h
    | _ => rw [hop0] at hrb; cases hrb.1
   rw [if_neg hnr,if_pos ⟨d,hdi,.inl e8⟩] at hk
   exact ⟨(e4 (st k) (hstm k (by omega))).1,e5 (st k) (hstd k (by omega))⟩
  ·have hdi : dO xs i = some d := by simp [dO, hx, e7]
   obtain ⟨q1,q2,_⟩:=hlastW i d hi hdi e8
   have q5:=hlm1 q1 (by omega)
   have hlt1 : lvl eff i < lvl eff m:=by
    have : lvl eff i ≤ lvl eff (m - 1):=by
     unfold lvl
     exact List.Sublist.length_le (List.Sublist.filter _ (by rw [show m - 1 = i + (m - 1 - i) by omega,List.range_add]; exact List.sublist_append_left _ _))
    omega
   refine .inl ⟨e1,e0,e2,fun k hk => .inl ?_⟩
   rw [if_pos (show ∃ d,dO xs i = some d ∧ (qK ((xs.take m).drop (i + 1)) d = true ∨ qJ (fun k => wk.testBit (m - 1 - k)) ((xs.take m).drop (i + 1)) d = true) from ⟨d,hdi,.inr e8⟩)] at hk
   refine e5 (st k) (hstd k ?_)
   split at hk <;> omega
  ·refine .inr (.inr (.inl ⟨e1,e0,s,els,id,e2,e3,fun k hk => ?_,fun k hk => (e4 (st k) (hstm k hk)).2⟩))
   rw [if_pos ⟨x,d,hx,e7,e8⟩] at hk
   refine ⟨(e4 (st k) (hstm k (by omega))).1,e5 (st k) ?_⟩
   have hk2 : k < (st0 :: ss).length:=by rw [List.length_cons]; omega
   refine List.mem_of_getElem? (i:=k) ?_
   rw [List.getElem?_take,if_pos (by omega)]
   show (st0 :: ss)[k]? = some ((st0 :: ss).getD k default)
   rw [List.getD,List.getElem?_eq_getElem hk2]; rfl
 ·intro i hi he
  obtain ⟨_,x',hoi,hx',_,_,hf⟩:=hst i hi
  obtain ⟨o,x,hoi2,hx,_,hmain,_⟩:=hsp i (by omega)
  rw [hx'] at hx; cases hx
  have hla : sT x'.op = true:=by
   have hf:=hf.resolve_left (fun h => by have h1:=h.2.2.1; rw [he] at h1; cases h1) |>.2
   rcases hf with ⟨e1,_⟩ | ⟨e1,_⟩ | ⟨e1,_⟩ | ⟨_,_,_,e3,_⟩ | ⟨e1,_⟩ | ⟨e1,_⟩ | ⟨e1,_⟩
   ·rw [he] at e1; cases e1
   ·rw [he] at e1; cases e1
   ·rw [he] at e1; cases e1
   ·exact e3
   ·rw [he] at e1; cases e1
   ·rw [he] at e1; cases e1
   ·rw [he] at e1; cases e1
  simpa [kF,hoi2] using (hmain hi).2.2.2.2 hla
 ·intro G' act' w' hI' hR' hg' hk' hd'
  have hlast : st (lvl eff m) = ss.getLastD st0:=by
   show (st0 :: ss).getD (lvl eff m) default = _
   rw [show lvl eff m = ss.length by omega]
   exact vQ ss st0
  rw [hlast] at hI' hg' hk'
  have hl:=wpOps_eq_wpList (P:=P) (ops:=ops) (Q:=fun e act' w' => ∃ x a' S',e = x.out ∧ Q x a' S' ∧ At E a' S' act' w') (ops.toList.drop m) m (fun j => by simp)
  rw [show (ops.toList.drop m).length = ops.size - m by simp] at hl
  rw [hl]
  have hcd : (ops.toList.drop m).mapM (cL P ops) = some (xs.drop m):=rV hc m
  exact hT E hn ops _ _ hcd (fun a' S' act' w' h1 h2 => ⟨.norm,a',S',rfl,h1,h2⟩) act' w' ⟨G',hI',hR',hg0.trans hg',hk0.trans hk',hd' ▸ hd0.step hg' hk'⟩
 ·unfold mQ
  have : (List.range ops.size).filter (fun i => !(Array.replicate ops.size false).getD i true) = List.range ops.size:=by
   apply List.filter_eq_self.2
   intro i hi
   have:=List.mem_range.1 hi
   simp [this]
  rw [this,List.length_range]
 ·have hcnt : cnt eff m (Array.replicate ops.size false) = 0:=by
   unfold cnt
   rw [List.length_eq_zero_iff,List.filter_eq_nil_iff]
   intro i hi
   have:=List.mem_range.1 hi
   have : i < ops.size:=by omega
   simp [this]
  have hs0 : st 0 = st0:=rfl
  refine ⟨G,a,⟨by rw [hcnt,hs0]; exact a1h,hR,rfl,fun i hi hl => ?_,fun _ _ => rfl,fun i hi _ idb hid => a3h idb (hbn i idb hi hid).1,fun i hi _ idb hid n => a4h idb n (htn i idb hi hid).1,by rw [hcnt,hs0]; exact (Gro.drew G S w).trans a2h,by rw [hcnt,hs0,← hst0]; exact ⟨by simp,by simp,fun _ _ h => h,fun _ _ h => h,fun t ht _ => List.getElem?_append_left ht⟩,rfl⟩⟩
  have : i < ops.size:=by omega
  simp [this] at hl
 ·intro k hk hkn
  simp [hkn]
 ·intro i hi
  by_cases h : i < ops.size <;> simp [h] at hi
end
section
open Go.RowKit
def solid1 (x : AV) : Bool:=match x with
 | .int _ _ | .bool _ | .str _ | .nilp | .nils | .nilf | .junk | .ptr _ _ | .ms _ _ _ => true
 | _ => false
def solid (x : AV) : Bool:=match x with
 | .agg cs | .tup cs => cs.all solid1
 | .fn _ ps cs => ps.all solid1 && cs.all solid1
 | x => solid1 x
theorem VR.solid1 {G G2 : Gh} {x : AV} {u : Value} (h : VR G x u) (hs : solid1 x = true) (hal : ∀ b B,G.al b = some B → G2.al b = some B) : VR G2 x u:=by
 cases h <;> first
  | (simp [Proofs.YtildamklmoekaaaGreatDoor.solid1] at hs; done)
  | exact .int _ _
  | exact .bool _
  | exact .str _
  | exact .nilp
  | exact .nils
  | exact .nilf
  | exact .junk _
  | (rename_i h; exact .ptr _ _ _ (hal _ _ h))
  | (rename_i h hn; exact .ms _ _ _ _ _ (hal _ _ h) hn)
  | exact .ms0 _ _ _ _
theorem VR.solid {G G2 : Gh} {x : AV} {u : Value} (h : VR G x u) (hs : solid x = true) (hal : ∀ b B,G.al b = some B → G2.al b = some B) : VR G2 x u:=by
 cases x with
 | agg cs =>
  cases h with
  | agg _ us hl h => exact .agg cs us hl fun i z v hz hv => (h i z v hz hv).solid1 (List.all_eq_true.1 hs z (List.mem_of_getElem? hz)) hal
 | tup cs =>
  cases h with
  | tup _ us hl h => exact .tup cs us hl fun i z v hz hv => (h i z v hz hv).solid1 (List.all_eq_true.1 hs z (List.mem_of_getElem? hz)) hal
 | fn f ps cs =>
  obtain ⟨vs,us,rfl,hp,hl,hv⟩:=h.inv_fn
  simp only [Proofs.YtildamklmoekaaaGreatDoor.solid,Bool.and_eq_true] at hs
  exact .fn f ps cs vs us hp.1 (fun i z v hz hv' => (hp.2 i z v hz hv').solid1 (List.all_eq_true.1 hs.1 z (List.mem_of_getElem? hz)) hal) hl fun i z v hz hv' => (hv i z v hz hv').solid1 (List.all_eq_true.1 hs.2 z (List.mem_of_getElem? hz)) hal
 | _ => exact h.solid1 (by simpa [Proofs.YtildamklmoekaaaGreatDoor.solid] using hs) hal
def flat (els : List AV) : List AV:=els.flatMap AV.cells
theorem yK (s : Nat) (hs0 : 0 < s) : ∀ (els : List AV) (o : Nat) (x : AV),(∀ (i : Nat) e,els[i]? = some e → e.cells.length = s) → (flat els)[o]? = some x → ∃ e,els[o / s]? = some e ∧ e.cells[o % s]? = some x
 | [],o,x,hl,h => by simp [flat] at h
 | e :: els,o,x,hl,h => by
  have he:=hl 0 e rfl
  simp only [flat,List.flatMap_cons] at h
  by_cases ho : o < s
  ·rw [List.getElem?_append_left (by rw [he]; exact ho)] at h
   rw [Nat.div_eq_of_lt ho,Nat.mod_eq_of_lt ho]
   exact ⟨e,rfl,h⟩
  ·rw [List.getElem?_append_right (by rw [he]; omega), he] at h
   obtain ⟨e',h1,h2⟩:=yK s hs0 els (o - s) x (fun i e h => hl (i + 1) e (by simpa using h)) h
   obtain ⟨p,rfl⟩ : ∃ p,o = s + p:=⟨o - s,by omega⟩
   rw [Nat.add_sub_cancel_left] at h1 h2
   rw [Nat.add_div_left _ hs0,Nat.add_mod_left]
   exact ⟨e',by simpa using h1,h2⟩
theorem oO (s : Nat) : ∀ (els : List AV),(∀ (i : Nat) e,els[i]? = some e → e.cells.length = s) → (flat els).length = els.length * s
 | [],_ => by simp [flat]
 | e :: els,hl => by
  have:=oO s els (fun i e h => hl (i + 1) e (by simpa using h))
  simp only [flat,List.flatMap_cons,List.length_append,List.length_cons] at this ⊢
  rw [this,hl 0 e rfl,Nat.add_mul]
  omega
def thawV (t : Nat) (n b s : Nat) (x : AV) : Option AV:=match x with
 | .sl els (some t') => if t' = t ∧ els.length = n then some (.ms b n s) else none
 | x => if solid1 x then some x else none
def thawS (t n b s : Nat) (x : AV) : Option AV:=match x with
 | .agg cs => (cs.mapM (thawV t n b s)).map .agg
 | .sl els (some t') => if t' = t ∧ els.length = n then some (.ms b n s) else none
 | x => if solid x then some x else none
def qD (t n b s : Nat) : List Bool → List AV → List AV
 | c :: bs,x :: l => (if c then (thawS t n b s x).getD .junk else .junk) :: qD t n b s bs l
 | [],x :: l => (thawS t n b s x).getD .junk :: qD t n b s [] l
 | _,[] => []
theorem rQ (t n b s : Nat) : ∀ (bs : List Bool) (l : List AV),(qD t n b s bs l).length = l.length ∧ ∀ (i : Nat) y,(qD t n b s bs l)[i]? = some y → y = .junk ∨ ∃ x,l[i]? = some x ∧ thawS t n b s x = some y
 | bs,[] => by cases bs <;> exact ⟨rfl,fun i y h => by simp [qD] at h⟩
 | [],x :: l => by
  obtain ⟨h1,h2⟩:=rQ t n b s [] l
  refine ⟨by simp [qD,h1],fun i y h => ?_⟩
  cases i with
  | zero =>
   simp only [qD,List.getElem?_cons_zero,Option.some.injEq] at h
   cases hr : thawS t n b s x with
   | none => rw [hr] at h; exact .inl h.symm
   | some z => rw [hr] at h; exact .inr ⟨x,rfl,by rw [hr]; simpa using h⟩
  | succ i => exact h2 i y (by simpa [qD] using h)
 | c :: bs,x :: l => by
  obtain ⟨h1,h2⟩:=rQ t n b s bs l
  refine ⟨by simp [qD,h1],fun i y h => ?_⟩
  cases i with
  | zero =>
   simp only [qD,List.getElem?_cons_zero,Option.some.injEq] at h
   cases c with
   | false => exact .inl (by simpa using h.symm)
   | true =>
    simp only [if_true] at h
    cases hr : thawS t n b s x with
    | none => rw [hr] at h; exact .inl h.symm
    | some z => rw [hr] at h; exact .inr ⟨x,rfl,by rw [hr]; simpa using h⟩
  | succ i => exact h2 i y (by simpa [qD] using h)
theorem VR.thawV {G G2 : Gh} {t n b s B c : Nat} {x y : AV} {u : Value} (h : VR G x u) (hn : 0 < n) (htb : G.tb t n = some (.blk B s c)) (hnc : n ≤ c) (hal : ∀ b B,G.al b = some B → G2.al b = some B) (hb : G2.al b = some B) (hr : thawV t n b s x = some y) : VR G2 y u:=by
 unfold Proofs.YtildamklmoekaaaGreatDoor.thawV at hr
 split at hr
 ·rename_i els t'
  split at hr
  ·rename_i hc
   cases hr
   obtain ⟨rfl,hl⟩:=hc
   cases h with
   | slt els t s' B' c' us hb' hn' hs hf hv =>
    rw [hl] at hb' ⊢
    rw [htb] at hb'
    cases hb'
    exact .ms b n s B c hb hnc
   | slt0 t hb' => simp at hl; omega
  ·cases hr
 ·split at hr
  ·rename_i hs
   cases hr
   exact h.solid1 hs hal
  ·cases hr
theorem VR.thawS {G G2 : Gh} {t n b s B c : Nat} {x y : AV} {u : Value} (h : VR G x u) (hn : 0 < n) (htb : G.tb t n = some (.blk B s c)) (hnc : n ≤ c) (hal : ∀ b B,G.al b = some B → G2.al b = some B) (hb : G2.al b = some B) (hr : thawS t n b s x = some y) : VR G2 y u:=by
 unfold Proofs.YtildamklmoekaaaGreatDoor.thawS at hr
 split at hr
 ·rename_i cs
  simp only [Option.map_eq_some_iff] at hr
  obtain ⟨ds,hds,rfl⟩:=hr
  obtain ⟨h1,h2⟩:=bU hds
  cases h with
  | agg _ us hl h =>
   refine .agg ds us (by rw [hl,h1]) fun i z v hz hv => ?_
   obtain ⟨z',hz',hr'⟩:=h2 i z hz
   exact (h i z' v hz' hv).thawV hn htb hnc hal hb hr'
 ·rename_i els t'
  split at hr
  ·rename_i hc
   refine h.thawV (x:=.sl els (some t')) hn htb hnc hal hb ?_
   unfold Proofs.YtildamklmoekaaaGreatDoor.thawV
   simp only [if_pos hc]
   exact hr
  ·cases hr
 ·split at hr
  ·rename_i hs
   cases hr
   exact h.solid hs hal
  ·cases hr
theorem thaw {n0 : Cx} {a : List AV} {S : St} (t n s i0 : Nat) (els : List AV) (live : List Bool) {bx2 : List (List AV)} (hn : 0 < n) (hs : 0 < s) (hlv : S.lv[t]? = some (n,s)) (hl : els.length = n) (hi : ∃ x,a[i0]? = some x ∧ (x = .sl els (some t) ∨ ∃ cs,x = .agg cs ∧ AV.sl els (some t) ∈ cs)) (hsol : (flat els).all solid1 = true) (hcl : ∀ e ∈ els,e.cells.length = s)
  (hbx : S.bx.mapM (fun cs => cs.mapM (thawV t n S.bx.length s)) = some bx2) (hX0 : n0.fs = []:=by rfl) (hm0 : n0.m = 0:=by rfl) :
  aM n0 a S (qD t n S.bx.length s live a) ⟨bx2 ++ [flat els],[]⟩:=by
 intro E hE act w ⟨G,hI,hR,hg,hk,hd⟩
 obtain ⟨b1,b2⟩:=bU hbx
 obtain ⟨x0,hx0,hor⟩:=hi
 have hlt : i0 < act.tmps.size:=by rw [hR.size]; exact (List.getElem?_eq_some_iff.1 hx0).1
 have hvx:=hR.slot i0 _ _ hx0 (Array.getElem?_eq_getElem hlt)
 generalize act.tmps[i0] = u1 at hvx
 obtain ⟨u0,hvr⟩ : ∃ u0,VR G (.sl els (some t)) u0:=by
  rcases hor with rfl | ⟨cs,rfl,hm⟩
  ·exact ⟨_,hvx⟩
  ·cases hvx with
   | agg _ us hl h =>
    obtain ⟨j,hj⟩:=List.mem_iff_getElem?.1 hm
    have hjl : j < us.size:=by rw [hl]; exact (List.getElem?_eq_some_iff.1 hj).1
    exact ⟨us[j],h j _ _ hj (Array.getElem?_eq_getElem hjl)⟩
 obtain ⟨B,c,us,htb,hnc,hss,hf,hv⟩ : ∃ (B c : Nat) (us : Nat → Value),G.tb t n = some (.blk B s c) ∧ n ≤ c ∧ (∀ (i : Nat) e,els[i]? = some e → e.cells.length = s) ∧ (∀ (i : Nat) e (j : Nat) x,els[i]? = some e → e.cells[j]? = some x → G.fz B (i * s + j) = some (us (i * s + j))) ∧ (∀ (i : Nat) e (j : Nat) x,els[i]? = some e → e.cells[j]? = some x → VR G x (us (i * s + j))):=by
  cases hvr with
  | slt _ _ s' B c us hb hn' hs' hf hv =>
   rw [hl] at hb hn'
   obtain ⟨e1,_⟩:=hI.tok t n s B s' c hlv hb
   subst e1
   exact ⟨B,c,us,hb,hn',hs',hf,hv⟩
  | slt0 _ hb => simp at hl; omega
 obtain ⟨_,⟨us0,T,hheap,hsize⟩,_,hfzn⟩:=hI.tok t n s B s c hlv htb
 have hBlt:=hI.toklt hlv htb
 have hsepB : ∀ b,G.al b ≠ some B:=fun b h => hI.sep b B t n s s c h hlv htb
 have hEtb : ∀ t k,E.G.tb t k = none:=by
  intro t k
  cases h : E.G.tb t k with
  | none => rfl
  | some v =>
   obtain ⟨m,s,h1,_⟩:=E.inv.dtb t k v h
   rw [E.lv0 (by rw [hE]; exact hm0)] at h1
   simp at h1
 have hEB : E.w.heap.size ≤ B:=by
  rcases hg.own B (.inr ⟨t,n,s,s,c,hlv,htb⟩) with (⟨b,hb⟩ | ⟨t',n',s0',s',c',h1,_⟩) | h
  ·exact absurd (hg.le.al b B hb) (hsepB b)
  ·rw [E.lv0 (by rw [hE]; exact hm0)] at h1; simp at h1
  ·exact h
 have hEfz : ∀ k o v,E.G.fz k o = some v → k ≠ B:=by
  rintro k o v h rfl
  have:=E.inv.fz k o v h
  have hlt : k < E.w.heap.size:=by
   cases hh : E.w.heap[k]? with
   | none => simp [World.cell?,hh] at this
   | some r => exact (Array.getElem?_eq_some_iff.1 hh).1
  omega
 have hbl : bx2.length = S.bx.length:=b1
 obtain ⟨G2,hG2⟩ : ∃ G2 : Gh,G2 = ⟨fun b => if b < S.bx.length then G.al b else if b = S.bx.length then some B else none,fun _ _ => none,fun k o => if k = B then none else G.fz k o,G.sz⟩:=⟨_,rfl⟩
 have hal : ∀ b B',G.al b = some B' → G2.al b = some B':=fun b B' h => by
  rw [hG2]
  simp only
  rw [if_pos (hI.dal b B' h).1]; exact h
 have hab : G2.al S.bx.length = some B:=by rw [hG2]; simp
 have hinv : ∀ b B',G2.al b = some B' → (b < S.bx.length ∧ G.al b = some B') ∨ (b = S.bx.length ∧ B' = B):=fun b B' h => by
  rw [hG2] at h
  simp only at h
  split at h
  ·rename_i hb; exact .inl ⟨hb,h⟩
  ·split at h
   ·rename_i hb; cases h; exact .inr ⟨hb,rfl⟩
   ·cases h
 have hfz2 : ∀ k o,G2.fz k o = if k = B then none else G.fz k o:=fun k o => by rw [hG2]
 have htb2 : ∀ t' k,G2.tb t' k = none:=fun t' k => by rw [hG2]
 refine ⟨G2, ⟨?_, ?_, ?_, ?_, ?_, ?_, ?_, ?_, fun B' o u h => by
   have h1:=E.inv.fzlt (E.inv.gl B' o u h)
   rw [hfz2,if_neg (by omega)]
   exact hI.gl B' o u h, fun B' m h => hI.sz B' m (by rw [hG2] at h; exact h)⟩, ⟨?_, ?_⟩, ⟨⟨?_, ?_, ?_, fun B' m h => by rw [hG2]; exact hg.le.sz B' m h⟩, hg.os, hg.tape, hg.output, hg.size, ?_, ?_, hg.oth⟩, ⟨?_, ?_, ?_, ?_, fun t ht => absurd ht (E.tb0 (by rw [hE]; exact hm0) t)⟩, ⟨hd.d, fun f hf => by (rw [hE, hX0] at hf; cases hf), by rw [hE, hm0]; exact Nat.zero_le _, hd.k, hd.b⟩⟩
 ·intro b B' cs hb hcs
  rcases hinv b B' hb with ⟨hlt',hb'⟩ | ⟨rfl,rfl⟩
  ·rw [List.getElem?_append_left (by rw [hbl]; exact hlt')] at hcs
   obtain ⟨cs0,hcs0,hm⟩:=b2 b cs hcs
   obtain ⟨m1,m2⟩:=bU hm
   rcases hI.box b B' cs0 hb' hcs0 with rfl | ⟨us',T',k1,k2,k3,k4⟩
   ·exact .inl (List.eq_nil_of_length_eq_zero (by rw [m1]; rfl))
   ·refine .inr ⟨us', T', k1, by rw [m1]; exact k2, fun i x u hx hu => ?_, fun o => by rw [hfz2]; split; rfl; exact k4 o⟩
    obtain ⟨x0,hx0,hr⟩:=m2 i x hx
    exact (k3 i x0 u hx0 hu).thawV hn htb hnc hal hab hr
  ·rw [List.getElem?_append_right (by omega), hbl, Nat.sub_self] at hcs
   simp only [List.getElem?_cons_zero,Option.some.injEq] at hcs
   subst hcs
   refine .inr ⟨us0,T,hheap,by rw [oO s els hss,hl,hsize]; exact Nat.mul_le_mul_right _ hnc,fun o x u hx hu => ?_,fun o => by rw [hfz2,if_pos rfl]⟩
   obtain ⟨e,he,hex⟩:=yK s hs els o x hss hx
   have g1:=hf _ e _ x he hex
   have g2:=hv _ e _ x he hex
   rw [show o / s * s + o % s = o by rw [Nat.mul_comm]; exact Nat.div_add_mod o s] at g1 g2
   have g3:=hI.fz _ _ _ g1
   simp only [World.cell?,hheap] at g3
   have g4 : us0[o]? = some (us o):=by simpa using g3
   rw [hu] at g4
   cases g4
   exact g2.solid1 (List.all_eq_true.1 hsol x (List.mem_of_getElem? hx)) hal
 ·intro t' k s0 B' s' c' h1 h2
  simp at h1
 ·intro k o u h
  rw [hfz2] at h
  split at h
  ·cases h
  ·exact hI.fz k o u h
 ·intro b B' hb
  rcases hinv b B' hb with ⟨hlt',hb'⟩ | ⟨rfl,rfl⟩
  ·exact ⟨by simp [hbl]; omega,(hI.dal b B' hb').2⟩
  ·exact ⟨by simp [hbl],hBlt⟩
 ·intro t' k v h
  rw [htb2] at h; cases h
 ·intro b b' B' h1 h2
  rcases hinv b B' h1 with ⟨_,h1'⟩ | ⟨rfl,rfl⟩
  ·rcases hinv b' B' h2 with ⟨_,h2'⟩ | ⟨rfl,rfl⟩
   ·exact hI.injA b b' B' h1' h2'
   ·exact absurd h1' (hsepB b)
  ·rcases hinv b' B' h2 with ⟨_,h2'⟩ | ⟨rfl,_⟩
   ·exact absurd h2' (hsepB b')
   ·rfl
 ·intro t' t'' k k' s0 s0' B' s' s'' c' c'' h1
  simp at h1
 ·intro b B' t' k s0 s' c' h1 h2
  simp at h2
 ·rw [hR.size,(rQ t n S.bx.length s live a).1]
 ·intro i y u hy hu
  rcases (rQ t n S.bx.length s live a).2 i y hy with rfl | ⟨x,hx,hr⟩
  ·exact .junk u
  ·exact (hR.slot i x u hx hu).thawS hn htb hnc hal hab hr
 ·intro b B' h
  exact hal b B' (hg.le.al b B' h)
 ·intro t' k v h
  rw [hEtb] at h; cases h
 ·intro k o v h
  rw [hfz2,if_neg (hEfz k o v h)]
  exact hg.le.fz k o v h
 ·intro B' hB' hno
  obtain ⟨h1,h2⟩:=hg.fr B' hB' hno
  exact ⟨h1,fun o => by rw [hfz2,if_neg (by omega)]; exact h2 o⟩
 ·rintro B' (⟨b,hb⟩ | ⟨t',k,s0,s',c',h1,_⟩)
  ·rcases hinv b B' hb with ⟨_,hb'⟩ | ⟨_,rfl⟩
   ·exact hg.own B' (.inl ⟨b,hb'⟩)
   ·exact .inr hEB
  ·simp at h1
 ·have:=hk.bl
  simp [hbl]; omega
 ·rw [E.lv0 (by rw [hE]; exact hm0)]; exact Nat.zero_le _
 ·intro b hb h
  have h1:=hk.al b hb h
  rw [hG2]
  simp only
  rw [if_pos (by have:=hk.bl; omega)]
  exact h1
 ·intro t' ht' _ k
  exact htb2 t' k
theorem ExO.inl {n0 : Cx} {P : Program} {a : List AV} {S : St} {R : List AV → St → Prop} {x : aT} {l : List aT} {f : FuncId} {F : AFn} {xs : List AV} (hF : aS P f = some F) (hlv : S.lv = []) (hw : bG x.guard a = some true) (hv : aop x.op (evd a) S = some (.call f xs))
  (h : Ex S.bx.length .plain P F.code (start F xs) S fun z a' S' => (z = .norm ∨ z = .ret) ∧ ∃ v,iE a' S' F.res = some v ∧ ExO n0 P l (putA a x.dst v) S' R) : ExO n0 P (x :: l) a S R:=by
 intro E hn ops l0 Q hco hq act w hA
 obtain ⟨o,l',rfl,hx,hl'⟩:=cG hco
 obtain ⟨h1,h2,_⟩:=cN hx
 obtain ⟨G,hI,hR,hg,hk,hd⟩:=hA
 simp only [wpList]
 rw [if_pos (cU hx hR hw)]
 refine .inl ?_
 unfold Oper.wp
 have hs:=jF h1 (fun _ => rfl) (hR.opd hI.gl) hI hv
 obtain ⟨us,hrun,hvs⟩:=hs
 unfold aS at hF
 split at hF
 ·rename_i fn hf
  split at hF
  ·rename_i c rs hb hrs
   split at hF
   ·rename_i ac hac
    split at hF
    ·cases hF
    ·rename_i hname
     cases hF
     have hen : (callFunc f us).run P w = .ok (.enter f us) w:=by
      simp only [callFunc,program,Sem.run,hf,Sem.run_bind,Result.andThen_ok,hname,hb]
      rfl
     rw [hrun,hen]
     simp only [Oper.upon_enter]
     refine eD hf hb ?_
     have hR0 : Rel G (start ⟨fn.params.size,fn.ntmps,rs,ac⟩ xs) { tmps:=us ++ Array.replicate (fn.ntmps - us.size) undef,defers:=[] }:=by
      refine ⟨by simp [start,hvs.1],fun i y u hy hu => ?_⟩
      simp only [start] at hy
      simp only at hu
      rw [List.getElem?_append] at hy
      rw [Array.getElem?_append,hvs.1] at hu
      split at hy
      ·rename_i hlt
       rw [if_pos hlt] at hu
       exact hvs.2 i y u hy hu
      ·rename_i hlt
       rw [if_neg hlt] at hu
       have e1:=List.eq_of_mem_replicate (List.mem_of_getElem? hy)
       have e2 : u ∈ (Array.replicate (fn.ntmps - xs.length) undef):=Array.mem_of_getElem? hu
       have e3:=(Array.mem_replicate.1 e2).2
       rw [e1,e3]
       exact .undef G
     refine wp_mono (h (.of G S w hI hlv) rfl c hac _ w ⟨G,hI,hR0,.refl _ _ _,.refl _ _,.begin _ _ _ _ _⟩) ?_
     rintro e act' w' ⟨z,a',S',he,⟨hz,v,hres,hrest⟩,G',hI',hR',hg',hk',hd'⟩
     obtain ⟨Ds,e1,e2,e3⟩:=hd'.d
     have e1 : act'.defers = Ds.map gM:=by rw [e1]; exact List.append_nil _
     have hI':=hI'.shut e2 fun D hD => (e3 D hD).2
     have hg':=hg'.shut fun D hD => (e3 D hD).1.1
     obtain ⟨u,g1,g2⟩:=pF hI' hR' hrs hres
     rcases hz with rfl | rfl
     ·subst he
      exact ⟨.inl rfl,Ds,e1,e2,fun D hD => (e3 D hD).2,u,g1,hrest E hn ops l' Q hl' hq _ _ ⟨G',hI',h2 ▸ (hR.mono hg'.le).put x.dst g2,hg.trans hg',hk.trans hk',by cases o.dst <;> exact hd.step hg' hk'⟩⟩
     ·subst he
      exact ⟨.inr rfl,Ds,e1,e2,fun D hD => (e3 D hD).2,u,g1,hrest E hn ops l' Q hl' hq _ _ ⟨G',hI',h2 ▸ (hR.mono hg'.le).put x.dst g2,hg.trans hg',hk.trans hk',by cases o.dst <;> exact hd.step hg' hk'⟩⟩
   ·cases hF
  ·cases hF
 ·cases hF
end
section
open Go.RowKit
theorem nW (s : Nat) : ∀ (els : List AV) (i : Nat) (e : AV) (j : Nat) (x : AV),(∀ (i : Nat) e,els[i]? = some e → e.cells.length = s) → els[i]? = some e → e.cells[j]? = some x → (flat els)[i * s + j]? = some x
 | [],i,e,j,x,_,h,_ => by simp at h
 | e0 :: els,0,e,j,x,hl,h,hx => by
  have h' : e0 = e:=by simpa using h
  subst h'
  have hj:=(List.getElem?_eq_some_iff.1 hx).1
  simp only [flat,List.flatMap_cons,Nat.zero_mul,Nat.zero_add]
  rw [List.getElem?_append_left hj]
  exact hx
 | e0 :: els,i + 1,e,j,x,hl,h,hx => by
  have he:=hl 0 e0 rfl
  have ih:=nW s els i e j x (fun i e h => hl (i + 1) e (by simpa using h)) (by simpa using h) hx
  simp only [flat,List.flatMap_cons] at ih ⊢
  rw [List.getElem?_append_right (by rw [he,Nat.add_mul]; omega),he]
  rw [show (i + 1) * s + j - s = i * s + j by rw [Nat.add_mul]; omega]
  exact ih
def chillV (b n s : Nat) (els : List AV) (x : AV) : AV:=match x with
 | .ms b' n' s' => if b' = b ∧ n' = n ∧ s' = s then .sl els none else x
 | x => x
def chillS (b n s : Nat) (els : List AV) (x : AV) : AV:=match x with
 | .agg cs => .agg (cs.map (chillV b n s els))
 | x => chillV b n s els x
def kJ (f : AV → AV) : List Bool → List AV → List AV
 | c :: bs,x :: l => (if c then f x else x) :: kJ f bs l
 | [],l => l
 | _ :: _,[] => []
def lV (f : AV → AV) : List (List Bool) → List (List AV) → List (List AV)
 | c :: bs,x :: l => kJ f c x :: lV f bs l
 | [],l => l
 | _ :: _,[] => []
theorem jN (f : AV → AV) : ∀ (bs : List Bool) (l : List AV),(kJ f bs l).length = l.length ∧ ∀ (i : Nat) y,(kJ f bs l)[i]? = some y → ∃ x,l[i]? = some x ∧ (y = x ∨ y = f x)
 | [],l => ⟨by simp [kJ],fun i y h => ⟨y,by simpa [kJ] using h,.inl rfl⟩⟩
 | _ :: _,[] => ⟨rfl,fun i y h => by simp [kJ] at h⟩
 | c :: bs,x :: l => by
  obtain ⟨h1,h2⟩:=jN f bs l
  refine ⟨by simp [kJ,h1],fun i y h => ?_⟩
  cases i with
  | zero =>
   simp only [kJ,List.getElem?_cons_zero,Option.some.injEq] at h
   refine ⟨x,rfl,?_⟩
   cases c
   ·exact .inl (by simpa using h.symm)
   ·exact .inr (by simpa using h.symm)
  | succ i => exact h2 i y (by simpa [kJ] using h)
theorem tP (f : AV → AV) : ∀ (bs : List (List Bool)) (l : List (List AV)),(lV f bs l).length = l.length ∧ ∀ (i : Nat) y,(lV f bs l)[i]? = some y → ∃ x bs',l[i]? = some x ∧ y = kJ f bs' x
 | [],l => ⟨by simp [lV],fun i y h => ⟨y,[],by simpa [lV] using h,by simp [kJ]⟩⟩
 | _ :: _,[] => ⟨rfl,fun i y h => by simp [lV] at h⟩
 | c :: bs,x :: l => by
  obtain ⟨h1,h2⟩:=tP f bs l
  refine ⟨by simp [lV,h1],fun i y h => ?_⟩
  cases i with
  | zero =>
   simp only [lV,List.getElem?_cons_zero,Option.some.injEq] at h
   exact ⟨x,c,rfl,h.symm⟩
  | succ i => exact h2 i y (by simpa [lV] using h)
theorem VR.chillV {G G2 : Gh} {b n s : Nat} {els : List AV} {x : AV} {u : Value} (h : VR G x u) (hle : G.le G2) (hsl : ∀ B c,G.al b = some B → n ≤ c → VR G2 (.sl els none) (.slice (some ⟨B,0,none⟩) n c)) (hl0 : els.length = n) : VR G2 (chillV b n s els x) u:=by
 unfold Proofs.YtildamklmoekaaaGreatDoor.chillV
 split
 ·split
  ·rename_i hc
   obtain ⟨rfl,rfl,rfl⟩:=hc
   cases h with
   | ms _ _ _ B c h hn => exact hsl B c h hn
   | ms0 _ _ A c =>
    obtain rfl:=List.eq_nil_of_length_eq_zero hl0
    exact .sl0 A c
  ·exact h.mono hle
 ·exact h.mono hle
theorem VR.chillS {G G2 : Gh} {b n s : Nat} {els : List AV} {x : AV} {u : Value} (h : VR G x u) (hle : G.le G2) (hsl : ∀ B c,G.al b = some B → n ≤ c → VR G2 (.sl els none) (.slice (some ⟨B,0,none⟩) n c)) (hl0 : els.length = n) : VR G2 (chillS b n s els x) u:=by
 unfold Proofs.YtildamklmoekaaaGreatDoor.chillS
 split
 ·rename_i cs
  cases h with
  | agg _ us hl h =>
   refine .agg _ us (by simpa using hl) fun i z v hz hv => ?_
   simp only [List.getElem?_map,Option.map_eq_some_iff] at hz
   obtain ⟨z',hz',rfl⟩:=hz
   exact (h i z' v hz' hv).chillV hle hsl hl0
 ·exact h.chillV hle hsl hl0
theorem chill {n0 : Cx} {a : List AV} {S : St} (b n s : Nat) (els : List AV) (live : List Bool) (lives : List (List Bool)) (hb : S.bx[b]? = some (flat els)) (hl : els.length = n) (hss : ∀ e ∈ els,e.cells.length = s) :
  aM n0 a S (kJ (chillS b n s els) live a) ⟨lV (chillV b n s els) lives (S.bx.set b []),S.lv⟩:=by
 intro E hE act w ⟨G,hI,hR,hg,hk,hd⟩
 have hs' : ∀ (i : Nat) e,els[i]? = some e → e.cells.length = s:=fun i e h => hss e (List.mem_of_getElem? h)
 obtain ⟨F,hF⟩ : ∃ F : Nat → Option Value,∀ B,G.al b = some B → (∀ o u,G.fz B o = some u → F o = some u) ∧ (∀ o u,F o = some u → w.cell? ⟨B,o,none⟩ = some u) ∧ ∀ o x,(flat els)[o]? = some x → ∃ u,F o = some u ∧ VR G x u:=by
  cases hal : G.al b with
  | none => exact ⟨fun _ => none,fun B h => by cases h⟩
  | some B =>
   rcases hI.box b B _ hal hb with h | ⟨us,T,k1,k2,k3,k4⟩
   ·refine ⟨fun o => G.fz B o,fun B' hB' => ?_⟩
    cases hB'
    exact ⟨fun o u h => h,fun o u h2 => hI.fz B o u h2,fun o x hx => by rw [h] at hx; simp at hx⟩
   ·refine ⟨fun o => us[o]?,fun B' h => ?_⟩
    cases h
    refine ⟨fun o u h => (by rw [k4 o] at h; cases h),fun o u h => by simp [World.cell?,k1,h],fun o x hx => ?_⟩
    have hlt : o < us.size:=Nat.lt_of_lt_of_le (List.getElem?_eq_some_iff.1 hx).1 k2
    have hu : us[o]? = some us[o]:=Array.getElem?_eq_getElem hlt
    exact ⟨us[o],hu,k3 o x _ hx hu⟩
 obtain ⟨G2,hG2⟩ : ∃ G2 : Gh,G2 = ⟨G.al,G.tb,fun k o => if G.al b = some k then F o else G.fz k o,G.sz⟩:=⟨_,rfl⟩
 have hal2 : G2.al = G.al:=by rw [hG2]
 have htb2 : G2.tb = G.tb:=by rw [hG2]
 have hfz2 : ∀ k o,G2.fz k o = if G.al b = some k then F o else G.fz k o:=fun k o => by rw [hG2]
 have hle : G.le G2 := ⟨fun b B h => by rw [hal2]; exact h, fun t k v h => by rw [htb2]; exact h, fun k o u h => by
  rw [hfz2]
  split
  ·rename_i hB
   exact (hF k hB).1 o u h
  ·exact h, fun B m h => by rw [hG2]; exact h⟩
 have hsl : ∀ B c,G.al b = some B → n ≤ c → VR G2 (.sl els none) (.slice (some ⟨B,0,none⟩) n c):=fun B c hB hn => by
  have := VR.sl (G := G2) els s B 0 c (fun k => (F k).getD undef) (by rw [hl]; exact hn) hs' (fun i e j x he hx => by
   obtain ⟨u,h1,_⟩:=(hF B hB).2.2 _ x (nW s els i e j x hs' he hx)
   rw [hfz2,if_pos hB,Nat.zero_add,h1]; rfl) (fun i e j x he hx => by
   obtain ⟨u,h1,h2⟩:=(hF B hB).2.2 _ x (nW s els i e j x hs' he hx)
   rw [h1]; exact h2.mono hle)
  rw [hl] at this
  exact this
 obtain ⟨c1,c2⟩:=tP (chillV b n s els) lives (S.bx.set b [])
 have hbl : (lV (chillV b n s els) lives (S.bx.set b [])).length = S.bx.length:=by rw [c1]; simp
 have hsepb : ∀ {B t k s0 s' c},G.al b = some B → S.lv[t]? = some (k,s0) → G.tb t k = some (.blk B s' c) → False:=fun h1 h2 h3 => hI.sep _ _ _ _ _ _ _ h1 h2 h3
 refine ⟨G2,⟨?_,?_,?_,?_,?_,?_,?_,?_,fun B o u h => hle.fz B o u (hI.gl B o u h),fun B m h => hI.sz B m (by rw [hG2] at h; exact h)⟩,⟨?_,?_⟩,⟨hg.le.trans hle,hg.os,hg.tape,hg.output,hg.size,?_,?_,hg.oth⟩,⟨?_,?_,?_,?_,hk.lvn⟩,hd.same2 hle htb2 rfl⟩
 ·intro b' B cs h1 h2
  rw [hal2] at h1
  obtain ⟨cs0,bs',hc,rfl⟩:=c2 b' cs h2
  obtain ⟨d1,d2⟩:=jN (chillV b n s els) bs' cs0
  by_cases hbb : b = b'
  ·subst hbb
   rw [List.getElem?_set] at hc
   simp only [if_true] at hc
   split at hc
   ·cases hc
    exact .inl (List.eq_nil_of_length_eq_zero (by rw [d1]; rfl))
   ·cases hc
  ·rw [List.getElem?_set_ne hbb] at hc
   rcases hI.box b' B cs0 h1 hc with rfl | ⟨us,T,k1,k2,k3,k4⟩
   ·exact .inl (List.eq_nil_of_length_eq_zero (by rw [d1]; rfl))
   ·refine .inr ⟨us, T, k1, by rw [d1]; exact k2, fun i x u hx hu => ?_, fun o => ?_⟩
    ·obtain ⟨x0,hx0,rfl | rfl⟩:=d2 i x hx
     ·exact (k3 i _ u hx0 hu).mono hle
     ·exact (k3 i x0 u hx0 hu).chillV hle hsl hl
    ·rw [hfz2,if_neg (fun h => hbb (hI.injA b b' B h h1))]
     exact k4 o
 ·intro t k s0 B s' c h1 h2
  rw [htb2] at h2
  obtain ⟨e1,e2,e3,e4⟩:=hI.tok t k s0 B s' c h1 h2
  exact ⟨e1,e2,e3,fun o ho => by rw [hfz2,if_neg (fun h => hsepb h h1 h2)]; exact e4 o ho⟩
 ·intro k o u h
  rw [hfz2] at h
  split at h
  ·rename_i hB
   exact (hF k hB).2.1 o u h
  ·exact hI.fz k o u h
 ·intro b' B h
  rw [hal2] at h
  exact ⟨by simp only [hbl]; exact (hI.dal b' B h).1,(hI.dal b' B h).2⟩
 ·intro t k v h
  rw [htb2] at h
  exact hI.dtb t k v h
 ·intro b1 b2 B h1 h2
  rw [hal2] at h1 h2
  exact hI.injA b1 b2 B h1 h2
 ·intro t t' k k' s0 s0' B s1 s2 c c' h1 h2 h3 h4
  rw [htb2] at h3 h4
  exact hI.injT t t' k k' s0 s0' B s1 s2 c c' h1 h2 h3 h4
 ·intro b' B t k s0 s' c h1 h2
  rw [hal2] at h1
  rw [htb2]
  exact hI.sep b' B t k s0 s' c h1 h2
 ·rw [hR.size,(jN _ live a).1]
 ·intro i y u hy hu
  obtain ⟨x,hx,rfl | rfl⟩:=(jN _ live a).2 i y hy
  ·exact (hR.slot i _ u hx hu).mono hle
  ·exact (hR.slot i x u hx hu).chillS hle hsl hl
 ·intro B hB hno
  obtain ⟨h1,h2⟩:=hg.fr B hB hno
  refine ⟨h1,fun o => ?_⟩
  rw [hfz2,if_neg (fun h => ?_)]
  ·exact h2 o
  ·rcases hg.own B (.inl ⟨b,h⟩) with h' | h'
   ·exact hno h'
   ·omega
 ·rintro B (⟨b',hb'⟩ | ⟨t,k,s0,s',c,h1,h2⟩)
  ·rw [hal2] at hb'
   exact hg.own B (.inl ⟨b',hb'⟩)
  ·rw [htb2] at h2
   exact hg.own B (.inr ⟨t,k,s0,s',c,h1,h2⟩)
 ·simp only [hbl]
  exact hk.bl
 ·exact hk.ll
 ·intro b' hb' h
  rw [hal2]
  exact hk.al b' hb' h
 ·intro t ht h k
  rw [htb2]
  exact hk.tb t ht h k
end
section
open Go.RowKit
def fadeV (x : AV) : AV:=match x with
 | .nils => .sl [] none
 | .sl els _ => .sl els none
 | x => x
def fadeS (x : AV) : AV:=match x with
 | .agg cs => .agg (cs.map fadeV)
 | x => fadeV x
theorem VR.fadeV {G : Gh} {x : AV} {u : Value} (h : VR G x u) : VR G (fadeV x) u:=by
 unfold Proofs.YtildamklmoekaaaGreatDoor.fadeV
 split
 ·cases h
  exact .sl0 none 0
 ·exact h.plain1
 ·exact h
theorem VR.fadeS {G : Gh} {x : AV} {u : Value} (h : VR G x u) : VR G (fadeS x) u:=by
 unfold Proofs.YtildamklmoekaaaGreatDoor.fadeS
 split
 ·rename_i cs
  cases h with
  | agg _ us hl h =>
   refine .agg _ us (by simpa using hl) fun i z v hz hv => ?_
   simp only [List.getElem?_map,Option.map_eq_some_iff] at hz
   obtain ⟨z',hz',rfl⟩:=hz
   exact (h i z' v hz' hv).fadeV
 ·exact h.fadeV
theorem fade {n0 : Cx} {a : List AV} {S : St} (live : List Bool) (lives : List (List Bool)) : aM n0 a S (kJ fadeS live a) ⟨lV fadeV lives S.bx,S.lv⟩:=by
 intro E hE act w ⟨G,hI,hR,hg,hk,hd⟩
 obtain ⟨c1,c2⟩:=tP fadeV lives S.bx
 refine ⟨G,⟨?_,hI.tok,hI.fz,?_,hI.dtb,hI.injA,hI.injT,hI.sep,hI.gl,hI.sz⟩,⟨?_,?_⟩,⟨hg.le,hg.os,hg.tape,hg.output,hg.size,hg.fr,?_,hg.oth⟩,⟨?_,hk.ll,hk.al,hk.tb,hk.lvn⟩,hd.same rfl⟩
 ·intro b' B cs h1 h2
  obtain ⟨cs0,bs',hc,rfl⟩:=c2 b' cs h2
  obtain ⟨d1,d2⟩:=jN fadeV bs' cs0
  rcases hI.box b' B cs0 h1 hc with rfl | ⟨us,T,k1,k2,k3,k4⟩
  ·exact .inl (List.eq_nil_of_length_eq_zero (by rw [d1]; rfl))
  ·refine .inr ⟨us, T, k1, by rw [d1]; exact k2, fun i x u hx hu => ?_, k4⟩
   obtain ⟨x0,hx0,rfl | rfl⟩:=d2 i x hx
   ·exact k3 i _ u hx0 hu
   ·exact (k3 i x0 u hx0 hu).fadeV
 ·intro b' B h
  exact ⟨by simp only [c1]; exact (hI.dal b' B h).1,(hI.dal b' B h).2⟩
 ·rw [hR.size,(jN _ live a).1]
 ·intro i y u hy hu
  obtain ⟨x,hx,rfl | rfl⟩:=(jN _ live a).2 i y hy
  ·exact hR.slot i _ u hx hu
  ·exact (hR.slot i x u hx hu).fadeS
 ·rintro B (⟨b',hb'⟩ | ⟨t,k,s0,s',c,h1,h2⟩)
  ·exact hg.own B (.inl ⟨b',hb'⟩)
  ·exact hg.own B (.inr ⟨t,k,s0,s',c,h1,h2⟩)
 ·simp only [c1]
  exact hk.bl
theorem grow {n0 : Cx} {a : List AV} {S : St} : aM n0 a S a ⟨S.bx ++ [[]],S.lv⟩:=by
 intro E hE act w ⟨G,hI,hR,hg,hk,hd⟩
 refine ⟨G,⟨?_,hI.tok,hI.fz,?_,hI.dtb,hI.injA,hI.injT,hI.sep,hI.gl,hI.sz⟩,hR,⟨hg.le,hg.os,hg.tape,hg.output,hg.size,hg.fr,hg.own,hg.oth⟩,⟨?_,hk.ll,hk.al,hk.tb,hk.lvn⟩,hd.same rfl⟩
 ·intro b B cs h1 h2
  have hb:=(hI.dal b B h1).1
  rw [List.getElem?_append_left hb] at h2
  exact hI.box b B cs h1 h2
 ·intro b B h
  have:=hI.dal b B h
  exact ⟨by simp; omega,this.2⟩
 ·have:=hk.bl
  simp; omega
theorem aM.trans {n0 : Cx} {a a1 a2 : List AV} {S S1 S2 : St} (h : aM n0 a S a1 S1) (k : aM n0 a1 S1 a2 S2) : aM n0 a S a2 S2:=fun E hE act w hA => k E hE act w (h E hE act w hA)
theorem aFn (s : Nat) (l : List AV) (i : Nat) (e : AV) (j : Nat) (x : AV) (hs : ∀ e ∈ l,e.cells.length = s) (h : l[i]? = some e) (hx : e.cells[j]? = some x) : (flat l)[i * s + j]? = some x :=
 nW s l i e j x (fun i e h => hs e (List.mem_of_getElem? h)) h hx
end
section
open Go.RowKit
def lkS (i : Nat) : List (Nat × AV) → AV
 | [] => .junk
 | (j,v) :: l => bif Nat.beq i j then v else lkS i l
def mkSf (l : List (Nat × AV)) : Nat → Nat → List AV
 | _,0 => []
 | i,k + 1 => lkS i l :: mkSf l (i + 1) k
def mkS (n : Nat) (l : List (Nat × AV)) : List AV:=mkSf l 0 n
inductive Hint where
 | eq (v : AV)
 | rop (cs : List AV)
 | app (els : List AV) (n : Nat)
 | bin (v : AV)
 | apps (news els : List AV) (n : Nat)
 | adr
 | ld (v : AV)
 | st (cs : List AV)
 | stw (cs : List AV)
 | ax (v : AV)
 | cl (v : AV)
 | adm
 | mk (cs : List AV) (k : Nat)
 | mk0
 | ix (z : Int)
 | sc (els : List AV)
 deriving Inhabited
def LGet (els : List AV) (n : Int) (s : Nat) (cs : List AV) : Prop:=∃ e,0 ≤ n ∧ els[n.toNat]? = some e ∧ e.cells = cs ∧ cs.length = s
def LApp (n0 : Nat) (els news : List AV) (es : Nat) (els' : List AV) (n' : Nat) : Prop:=n0 = els.length ∧ els.length + news.length ≤ 65536 ∧ (∀ e ∈ els,e.cells.length = es) ∧ els ++ news = els' ∧ n' = els'.length
def lQ (n0 : Nat) (els news0 news : List AV) (es : Nat) (els' : List AV) (n' : Nat) : Prop:=n0 = els.length ∧ els.length + news.length ≤ 65536 ∧ (∀ e ∈ els,e.cells.length = es) ∧ (∀ e ∈ news0,e.cells.length = es ∧ e.okCells = true) ∧ news0.map AV.plain = news ∧ els ++ news = els' ∧ n' = els'.length
def bdA (a : AOpd → AV) : Option AOpd → Option (Option Int)
 | none => some none
 | some l => match a l with
  | .int _ n => some (some n)
  | _ => none
def LIdx (b : ByteArray) (n z : Int) : Prop:=0 ≤ n ∧ ∃ c,b[n.toNat]? = some c ∧ z = (c.toNat : Int)
def LSlc (els : List AV) (lo hi : Option Int) (s : Nat) (els' : List AV) : Prop:=∃ l h : Nat,(match lo with | none => l = 0 | some n => n = (l : Int)) ∧ (match hi with | none => h = els.length | some n => n = (h : Int)) ∧ l ≤ h ∧ h ≤ els.length ∧ (∀ e ∈ els,e.cells.length = s) ∧ (els.take h).drop l = els'
theorem aDV {a : AOpd → AV} {S : St} {x i : AOpd} {b : ByteArray} {k : IntKind} {n z : Int} (hx : a x = .str b) (hi : a i = .int k n) (h : LIdx b n z) : aop (.idx x i) a S = some (.val (.int .u8 z)):=by
 obtain ⟨h0,c,hc,rfl⟩:=h
 simp only [aop,hx,hi]
 rw [if_pos h0,hc]
 rfl
theorem aDH {a : AOpd → AV} {S : St} {x : AOpd} {lo hi : Option AOpd} {l h : Option Int} {s : Nat} {els els' : List AV} {t : Option Nat} (hx : a x = .sl els t) (hlo : bdA a lo = some l) (hhi : bdA a hi = some h) (hF : LSlc els l h s els') : aop (.slc false s x lo hi) a S = some (.val (.sl els' none)):=by
 obtain ⟨p,q,h1,h2,h3,h4,h5,rfl⟩:=hF
 have hall : (els.all fun e => decide (e.cells.length = s)) = true:=by
  rw [List.all_eq_true]; intro e he; exact decide_eq_true (h5 e he)
 have e1 : (lo = none ∧ p = 0) ∨ ∃ y k,lo = some y ∧ a y = .int k (p : Int):=by
  cases lo with
  | none =>
   simp only [bdA,Option.some.injEq] at hlo
   subst hlo
   exact .inl ⟨rfl,h1⟩
  | some y =>
   simp only [bdA] at hlo
   split at hlo
   ·rename_i k n e
    cases hlo
    have h1 : n = (p : Int):=h1
    exact .inr ⟨y,k,rfl,by rw [e,h1]⟩
   ·cases hlo
 have e2 : (hi = none ∧ q = els.length) ∨ ∃ y k,hi = some y ∧ a y = .int k (q : Int):=by
  cases hi with
  | none =>
   simp only [bdA,Option.some.injEq] at hhi
   subst hhi
   exact .inl ⟨rfl,h2⟩
  | some y =>
   simp only [bdA] at hhi
   split at hhi
   ·rename_i k n e
    cases hhi
    have h2 : n = (q : Int):=h2
    exact .inr ⟨y,k,rfl,by rw [e,h2]⟩
   ·cases hhi
 have hp : ¬ ((p : Int) < 0):=by omega
 rcases e1 with ⟨rfl,rfl⟩ | ⟨y,k,rfl,ey⟩ <;> rcases e2 with ⟨rfl,rfl⟩ | ⟨y',k',rfl,ey'⟩
 ·simp [aop,hx,hall]
 ·simp [aop,hx,ey',h4,hall]
 ·simp [aop,hx,ey,h3,hall]
 ·simp [aop,hx,ey,ey',h3,h4,hall]
noncomputable def doH (h : Option Hint) (o : AOp) (a : List AV) (S : St) : Option (Option Prop × AV × St) :=
 match h with
 | none => match aop o (evf a) S with
  | some (.call _ _) => none
  | some r => some (none,(finish r S).1,(finish r S).2)
  | none => none
 | some (.eq v) => match aop o (evf a) S with
  | some (.val v0) => some (some (v0 = v),v,S)
  | _ => none
 | some (.rop cs) => match o with
  | .iaddr x i s none => match evf a x,evf a i with
   | .sl els _,.int _ n => some (some (LGet els n s cs),.rop cs,S)
   | _,_ => none
  | .iaddr x i s (some m) => match evf a x,evf a i with
   | .rop cs0,.int _ n => some (some ((0 ≤ n ∧ n < m ∧ n.toNat * s ≤ cs0.length) ∧ (cs0.drop (n.toNat * s)).take s = cs),.rop cs,S)
   | _,_ => none
  | _ => none
 | some (.app els' n') => match o with
  | .app x y es by_ z => match evf a x,tF (evf a y) with
   | .sl els (some t),some (e :: news) => match S.lv[t]? with
    | some (n0,es') => bif (e :: news).all (fun e => decide (e.cells.length = es) && e.okCells) && decide (by_ ≤ 65536) && Nat.beq es es' then
      some (some (LApp n0 els ((e :: news).map AV.plain) es els' n'),.sl els' (some t),⟨S.bx,S.lv.set t (n',es)⟩) else none
    | none => none
   | _,_ => none
  | _ => none
 | some (.bin v) => match o with
  | .bin op x y => some (some (binA op (evf a x) (evf a y) = some v),v,S)
  | _ => none
 | some (.apps news els' n') => match o with
  | .app x y es by_ z => match evf a x,tF (evf a y) with
   | .sl els (some t),some news0 => match S.lv[t]? with
    | some (n0,es') => bif decide (by_ ≤ 65536) && Nat.beq es es' then
      some (some (lQ n0 els news0 news es els' n'),.sl els' (some t),⟨S.bx,S.lv.set t (n',es)⟩) else none
    | none => none
   | _,_ => none
  | _ => none
 | some .adr => match o with
  | .iaddr x i s (some m) => match evf a x,evf a i with
   | .ptr b o,.int _ n => some (some (0 ≤ n ∧ n < m),.ptr b (o + n.toNat * s),S)
   | .rop cs,.int _ n => some (some (0 ≤ n ∧ n < m ∧ n.toNat * s ≤ cs.length),.rop ((cs.drop (n.toNat * s)).take s),S)
   | _,_ => none
  | _ => none
 | some (.ld v) => match o with
  | .load n x => match evf a x with
   | .ptr b k => match S.bx[b]? with
    | some cs => some (some (bN cs k n = some v),v,S)
    | none => none
   | .rop cs => some (some (bN cs 0 n = some v),v,S)
   | _ => none
  | _ => none
 | some (.st cs') => match o with
  | .store n x y => match evf a x with
   | .ptr b k => match S.bx[b]? with
    | some cs => bif (evf a y).okCells && decide ((evf a y).cells.length = n) && Nat.blt 0 n then some (some (k + n ≤ cs.length ∧ hH cs k (evf a y).cells = cs'),.tup [],⟨S.bx.set b cs',S.lv⟩) else none
    | none => none
   | _ => none
  | _ => none
 | some (.stw cs') => match o with
  | .store n x y => match evf a x with
   | .ptr b k => match S.bx[b]? with
    | some cs => some (some ((evf a y).okCells = true ∧ (evf a y).cells.length = n ∧ 0 < n ∧ k + n ≤ cs.length ∧ hH cs k (evf a y).cells = cs'),.tup [],⟨S.bx.set b cs',S.lv⟩)
    | none => none
   | _ => none
  | _ => none
 | some (.ax v) => match o with
  | .aidx x i m s n => match evf a x,evf a i with
   | .agg cs,.int _ j => some (some ((0 ≤ j ∧ j < m) ∧ bN cs (j.toNat * s) n = some v),v,S)
   | _,_ => none
  | _ => none
 | some (.cl _) => none
 | some .adm => match o with
  | .iaddr x i s none => match evf a x,evf a i with
   | .ms b m s',.int _ n => bif Nat.beq s s' then some (some (0 ≤ n ∧ n < m),.ptr b (0 + n.toNat * s),S) else none
   | .mg b m s',.int _ n => bif Nat.beq s s' then some (some (0 ≤ n ∧ n < m),.ptr b (0 + n.toNat * s),S) else none
   | _,_ => none
  | .slb n s x i => match evf a x,evf a i with
   | .ptr b o,.int _ m => some (some (o = 0 ∧ 0 ≤ m ∧ m ≤ n),.ms b m.toNat s,S)
   | _,_ => none
  | _ => none
 | some (.mk cs k) => match o with
  | .mksl s ag z by_ l c => match evf a l,evf a c with
   | .int _ n,.int _ m => bif aAk l c && decide (by_ ≤ 65536) then some (some (n = (k : Int) ∧ k ≤ 65536 ∧ rep z k = cs),.ms S.bx.length k s,⟨S.bx ++ [cs],S.lv⟩) else none
   | _,_ => none
  | _ => none
 | some .mk0 => match o with
  | .mksl s ag z by_ l c => match evf a l,evf a c with
   | .int _ n,.int _ m => bif decide (n = 0) && !(aAk l c) && decide (by_ ≤ 65536) then some (some (0 ≤ m ∧ m ≤ 65536),.sl [] (some S.lv.length),⟨S.bx,S.lv ++ [(0,s)]⟩) else none
   | _,_ => none
  | _ => none
 | some (.ix z) => match o with
  | .idx x i => match evf a x,evf a i with
   | .str b,.int _ n => some (some (LIdx b n z),.int .u8 z,S)
   | _,_ => none
  | _ => none
 | some (.sc els') => match o with
  | .slc false s x lo hi => match evf a x,bdA (evf a) lo,bdA (evf a) hi with
   | .sl els _,some l,some h => some (some (LSlc els l h s els'),.sl els' none,S)
   | _,_,_ => none
  | _ => none
noncomputable def aAR (i : Nat) : List (Nat × Hint) → Option Hint
 | [] => none
 | (j,h) :: l => bif Nat.beq i j then some h else aAR i l
noncomputable def evH (hs : List (Nat × Hint)) : Nat → Nat → List aT → List AV → St → Option (List Prop × List AV × St)
 | _,0,_,a,S => some ([],a,S)
 | _,_ + 1,[],_,_ => none
 | i,k + 1,x :: l,a,S => match bG x.guard a with
  | some true => match doH (aAR i hs) x.op a S with
   | some (F,v,S1) => match evH hs (i + 1) k l (putA a x.dst v) S1 with
    | some (Fs,a2,S2) => some (match F with | some F => F :: Fs | none => Fs,a2,S2)
    | none => none
   | none => none
  | some false => evH hs (i + 1) k l (putA a x.dst (.tup [])) S
  | none => none
def AllP : List Prop → Prop
 | [] => True
 | F :: l => F ∧ AllP l
theorem aDp {X : Clr} {h : Option Hint} {o : AOp} {a : List AV} {S S1 : St} {F : Option Prop} {v : AV} (he : doH h o a S = some (F,v,S1)) (hF : F.getD True) : evOp X o a S = some (v,S1):=by
 unfold doH at he
 split at he
 ·split at he
  ·cases he
  ·rename_i r hne hr
   cases he
   rw [bT] at hr
   rw [cQ hr fun f xs h => by subst h; exact hne _ _ rfl]
  ·cases he
 ·split at he
  ·rename_i v0 hr
   cases he
   rw [bT] at hr
   have hF : v0 = _:=hF
   subst hF
   rw [cQ hr fun f xs h => by cases h]
   rfl
  ·cases he
 ·rename_i cs
  split at he
  ·split at he
   ·rename_i x i s _ _ els t k n hx hi
    cases he
    obtain ⟨e,h1,h2,h3,h4⟩:=hF
    have hlt : n < els.length:=by
     have:=(List.getElem?_eq_some_iff.1 h2).1
     omega
    have hr : aop (.iaddr x i s none) (evd a) S = some (.val (.rop cs)):=by
     rw [← bT]
     simp only [aop,hx,hi,h1,hlt,and_self,if_true,h2,Option.bind_some,h3,h4]
    rw [cQ hr fun f xs h => by cases h]
    rfl
   ·cases he
  ·split at he
   ·rename_i x i s m _ _ cs0 k n hx hi
    cases he
    obtain ⟨h1,h2⟩:=hF
    have hr : aop (.iaddr x i s (some m)) (evd a) S = some (.val (.rop cs)):=by
     rw [← bT]
     simp only [aop,hx,hi]
     rw [if_pos h1,h2]
    rw [cQ hr fun f xs h => by cases h]
    rfl
   ·cases he
  ·cases he
 ·rename_i els' n'
  split at he
  ·split at he
   ·rename_i x y es by_ z _ _ els t e news hx hy
    split at he
    ·rename_i n0 es' hlv
     cases hc : ((e :: news).all (fun e => decide (e.cells.length = es) && e.okCells) && decide (by_ ≤ 65536) && Nat.beq es es') with
     | false => rw [hc] at he; cases he
     | true =>
      rw [hc,cond_true] at he
      cases he
      simp only [Bool.and_eq_true] at hc
      obtain ⟨⟨hc1,hc2⟩,hc3⟩:=hc
      have hc3:=Nat.eq_of_beq_eq_true hc3
      subst hc3
      obtain ⟨f1,f2,f3,f4,f5⟩:=hF
      rw [List.length_map] at f2
      have hr : aop (.app x y es by_ z) (evd a) S = some (.app es (some t) els ((e :: news).map AV.plain)):=by
       rw [← bT]
       simp only [aop,hx,hy]
       rw [if_pos (by rw [hc1,hc2]; rfl),if_pos ⟨by rw [hlv,f1],f2,by rw [List.all_eq_true]; intro e he; exact decide_eq_true (f3 e he)⟩,if_neg (by simp)]
      rw [cQ hr fun f xs h => by cases h]
      simp only [finish,f4,f5]
    ·cases he
   ·cases he
  ·cases he
 ·rename_i v0
  split at he
  ·rename_i op x y
   cases he
   have hr : aop (.bin op x y) (evd a) S = some (.val v):=by
    rw [← bT]
    simp only [aop]
    rw [show binA op (evf a x) (evf a y) = some v from hF]
    rfl
   rw [cQ hr fun f xs h => by cases h]
   rfl
  ·cases he
 ·rename_i news els' n'
  split at he
  ·split at he
   ·rename_i x y es by_ z _ _ els t news0 hx hy
    split at he
    ·rename_i n0 es' hlv
     cases hc : (decide (by_ ≤ 65536) && Nat.beq es es') with
     | false => rw [hc] at he; cases he
     | true =>
      rw [hc,cond_true] at he
      cases he
      simp only [Bool.and_eq_true] at hc
      obtain ⟨hc2,hc3⟩:=hc
      have hc3:=Nat.eq_of_beq_eq_true hc3
      subst hc3
      obtain ⟨f1,f2,f3,f4,f5,f6,f7⟩:=hF
      subst f5
      rw [List.length_map] at f2
      have hall : (news0.all fun e => decide (e.cells.length = es) && e.okCells) = true:=by
       rw [List.all_eq_true]
       intro e he
       obtain ⟨g1,g2⟩:=f4 e he
       simp [g1,g2]
      have hcond : S.lv[t]? = some (els.length,es) ∧ els.length + news0.length ≤ 65536 ∧ (els.all (fun e => decide (e.cells.length = es))) = true:=⟨by rw [hlv,f1],f2,by rw [List.all_eq_true]; intro e he; exact decide_eq_true (f3 e he)⟩
      by_cases hz : news0.length = 0
      ·have hn0:=List.eq_nil_of_length_eq_zero hz
       subst hn0
       have hr : aop (.app x y es by_ z) (evd a) S = some (.val (.sl els (some t))):=by
        rw [← bT]
        simp only [aop,hx,hy]
        rw [if_pos (by rw [hall,hc2]; rfl),if_pos hcond,if_pos hz]
       rw [cQ hr fun f xs h => by cases h]
       simp only [List.map_nil,List.append_nil] at f6
       subst f6
       subst f7
       simp only [finish,Option.some.injEq,Prod.mk.injEq,true_and]
       have : S.lv.set t (els.length,es) = S.lv:=by
        apply List.ext_getElem?
        intro i
        rw [List.getElem?_set]
        split
        ·rename_i hti
         subst hti
         rw [if_pos (List.getElem?_eq_some_iff.1 hlv).1,hcond.1]
        ·rfl
       rw [this]
      ·have hr : aop (.app x y es by_ z) (evd a) S = some (.app es (some t) els (news0.map AV.plain)):=by
        rw [← bT]
        simp only [aop,hx,hy]
        rw [if_pos (by rw [hall,hc2]; rfl),if_pos hcond,if_neg hz]
       rw [cQ hr fun f xs h => by cases h]
       simp only [finish,f6,f7]
    ·cases he
   ·cases he
  ·cases he
 ·split at he
  ·split at he
   ·rename_i x i s m _ _ b o k n hx hi
    cases he
    have hr : aop (.iaddr x i s (some m)) (evd a) S = some (.val (.ptr b (o + n.toNat * s))):=by
     rw [← bT]
     simp only [aop,hx,hi]
     rw [if_pos (show 0 ≤ n ∧ n < (m : Int) from hF)]
    rw [cQ hr fun f xs h => by cases h]
    rfl
   ·rename_i x i s m _ _ cs k n hx hi
    cases he
    have hr : aop (.iaddr x i s (some m)) (evd a) S = some (.val (.rop ((cs.drop (n.toNat * s)).take s))):=by
     rw [← bT]
     simp only [aop,hx,hi]
     rw [if_pos (show 0 ≤ n ∧ n < (m : Int) ∧ n.toNat * s ≤ cs.length from hF)]
    rw [cQ hr fun f xs h => by cases h]
    rfl
   ·cases he
  ·cases he
 ·split at he
  ·split at he
   ·rename_i n x _ b k hx
    split at he
    ·rename_i cs hb
     cases he
     have hr : aop (.load n x) (evd a) S = some (.val v):=by
      rw [← bT]
      simp only [aop,hx,hb,Option.bind_some]
      rw [show bN cs k n = some v from hF]
      rfl
     rw [cQ hr fun f xs h => by cases h]
     rfl
    ·cases he
   ·rename_i n x _ cs hx
    cases he
    have hr : aop (.load n x) (evd a) S = some (.val v):=by
     rw [← bT]
     simp only [aop,hx]
     rw [show bN cs 0 n = some v from hF]
     rfl
    rw [cQ hr fun f xs h => by cases h]
    rfl
   ·cases he
  ·cases he
 ·rename_i cs'
  split at he
  ·split at he
   ·rename_i n x y _ b k hx
    split at he
    ·rename_i cs hb
     cases hc : ((evf a y).okCells && decide ((evf a y).cells.length = n) && Nat.blt 0 n) with
     | false => rw [hc] at he; cases he
     | true =>
      rw [hc,cond_true] at he
      cases he
      simp only [Bool.and_eq_true,decide_eq_true_eq,Nat.blt_eq] at hc
      obtain ⟨⟨c1,c2⟩,c3⟩:=hc
      obtain ⟨f1,f2⟩:=hF
      have hr : aop (.store n x y) (evd a) S = some (.put b cs'):=by
       rw [← bT]
       simp only [aop,hx,hb,Option.bind_some,c1,Bool.true_and]
       rw [if_pos (by simp [c2,c3,f1]),f2]
      rw [cQ hr fun f xs h => by cases h]
      rfl
    ·cases he
   ·cases he
  ·cases he
 ·rename_i cs'
  split at he
  ·split at he
   ·rename_i n x y _ b k hx
    split at he
    ·rename_i cs hb
     cases he
     obtain ⟨f1,f2,f3,f4,f5⟩:=hF
     have hr : aop (.store n x y) (evd a) S = some (.put b cs'):=by
      rw [← bT]
      simp only [aop,hx,hb,Option.bind_some,f1,Bool.true_and]
      rw [if_pos (by simp [f2,f3,f4]),f5]
     rw [cQ hr fun f xs h => by cases h]
     rfl
    ·cases he
   ·cases he
  ·cases he
 ·split at he
  ·split at he
   ·rename_i x i m s n _ _ cs k j hx hi
    cases he
    have hr : aop (.aidx x i m s n) (evd a) S = some (.val v):=by
     rw [← bT]
     simp only [aop,hx,hi]
     rw [if_pos hF.1,hF.2]
     rfl
    rw [cQ hr fun f xs h => by cases h]
    rfl
   ·cases he
  ·cases he
 ·cases he
 ·split at he
  ·split at he
   ·rename_i x i s _ _ b m s' k n hx hi
    cases hc : Nat.beq s s' with
    | false => rw [hc] at he; cases he
    | true =>
     rw [hc,cond_true] at he
     cases he
     have hs:=Nat.eq_of_beq_eq_true hc
     have hr : aop (.iaddr x i s none) (evd a) S = some (.val (.ptr b (0 + n.toNat * s))):=by
      rw [← bT]
      simp only [aop,hx,hi]
      rw [if_pos ⟨hF.1,hF.2,hs⟩,Nat.zero_add]
     rw [cQ hr fun f xs h => by cases h]
     rfl
   ·rename_i x i s _ _ b m s' k n hx hi
    cases hc : Nat.beq s s' with
    | false => rw [hc] at he; cases he
    | true =>
     rw [hc,cond_true] at he
     cases he
     have hs:=Nat.eq_of_beq_eq_true hc
     have hr : aop (.iaddr x i s none) (evd a) S = some (.val (.ptr b (0 + n.toNat * s))):=by
      rw [← bT]
      simp only [aop,hx,hi]
      rw [if_pos ⟨hF.1,hF.2,hs⟩,Nat.zero_add]
     rw [cQ hr fun f xs h => by cases h]
     rfl
   ·cases he
  ·split at he
   ·rename_i n s x i _ _ b o k m hx hi
    cases he
    have hr : aop (.slb n s x i) (evd a) S = some (.val (.ms b m.toNat s)):=by
     rw [← bT]
     simp only [aop,hx,hi]
     rw [if_pos (show o = 0 ∧ 0 ≤ m ∧ m ≤ (n : Int) from hF)]
    rw [cQ hr fun f xs h => by cases h]
    rfl
   ·cases he
  ·cases he
 ·rename_i cs0 k0
  split at he
  ·split at he
   ·rename_i s ag z by_ l c _ _ k1 n k2 m hl hc
    cases hb : (aAk l c && decide (by_ ≤ 65536)) with
    | false => rw [hb] at he; cases he
    | true =>
     rw [hb,cond_true] at he
     cases he
     simp only [Bool.and_eq_true,decide_eq_true_eq] at hb
     obtain ⟨hb1,hb2⟩:=hb
     obtain ⟨f1,f2,f3⟩:=hF
     have hlc : l = c:=by
      cases l <;> cases c <;> simp only [aAk,Bool.false_eq_true] at hb1
      rw [Nat.eq_of_beq_eq_true hb1]
     subst hlc
     rw [hl] at hc
     cases hc
     subst f1
     have hr : aop (.mksl s ag z by_ l l) (evd a) S = some (.mbox (rep z (k0 : Int).toNat) (k0 : Int).toNat s):=by
      rw [← bT]
      simp only [aop,hl]
      rw [if_pos ⟨by omega,Int.le_refl _,by omega,hb2⟩,if_neg (fun h => by rw [hb1] at h; exact absurd h.2 (by simp))]
     rw [cQ hr fun f xs h => by cases h]
     simp only [finish,Int.toNat_natCast,f3]
   ·cases he
  ·cases he
 ·split at he
  ·split at he
   ·rename_i s ag z by_ l c _ _ k1 n k2 m hl hc
    cases hb : (decide (n = 0) && !(aAk l c) && decide (by_ ≤ 65536)) with
    | false => rw [hb] at he; cases he
    | true =>
     rw [hb,cond_true] at he
     cases he
     simp only [Bool.and_eq_true,decide_eq_true_eq,Bool.not_eq_true'] at hb
     obtain ⟨⟨rfl,hb1⟩,hb2⟩:=hb
     have hr : aop (.mksl s ag z by_ l c) (evd a) S = some (.lit s []):=by
      rw [← bT]
      simp only [aop,hl,hc]
      rw [if_pos ⟨Int.le_refl _,hF.1,hF.2,hb2⟩,if_pos ⟨trivial,hb1⟩]
     rw [cQ hr fun f xs h => by cases h]
     rfl
   ·cases he
  ·cases he
 ·split at he
  ·split at he
   ·rename_i hx hi
    cases he
    have hr:=aDV (S:=S) hx hi hF
    rw [bT] at hr
    rw [cQ hr fun f xs h => by cases h]
    rfl
   ·cases he
  ·cases he
 ·split at he
  ·split at he
   ·rename_i hx hl hh
    cases he
    have hr:=aDH (S:=S) hx hl hh hF
    rw [bT] at hr
    rw [cQ hr fun f xs h => by cases h]
    rfl
   ·cases he
  ·cases he
def mV : Nat → List Nat → List AV → List AV
 | _,_,[] => []
 | i,live,x :: l => (bif live.any (Nat.beq i) then x else .junk) :: mV (i + 1) live l
theorem aAq (live : List Nat) : ∀ (l : List AV) (i : Nat),(mV i live l).length = l.length ∧ ∀ (j : Nat) y,(mV i live l)[j]? = some y → y = .junk ∨ l[j]? = some y
 | [],i => ⟨rfl,fun j y h => by simp [mV] at h⟩
 | x :: l,i => by
  obtain ⟨h1,h2⟩:=aAq live l (i + 1)
  refine ⟨by simp [mV,h1],fun j y h => ?_⟩
  cases j with
  | zero =>
   simp only [mV,List.getElem?_cons_zero,Option.some.injEq] at h
   cases hc : live.any (Nat.beq i) with
   | true => rw [hc] at h; exact .inr (by simpa using h)
   | false => rw [hc] at h; exact .inl (by simpa using h.symm)
  | succ j => exact h2 j y (by simpa [mV] using h)
theorem bQ {n0 : Cx} {a : List AV} {S : St} (live : List Nat) : aM n0 a S (mV 0 live a) S:=by
 intro E hE act w ⟨G,hI,hR,hg,hk,hd⟩
 obtain ⟨h1,h2⟩:=aAq live a 0
 refine ⟨G,hI,⟨by rw [h1]; exact hR.size,fun i x u hx hu => ?_⟩,hg,hk,hd⟩
 rcases h2 i x hx with rfl | hx
 ·exact .junk u
 ·exact hR.slot i x u hx hu
theorem aDj {n0 : Cx} {P : Program} {R : List AV → St → Prop} {hs : List (Nat × Hint)} : ∀ (k i : Nat) {l : List aT} {a a2 : List AV} {S S2 : St} {Fs : List Prop},evH hs i k l a S = some (Fs,a2,S2) → AllP Fs → ExO n0 P (l.drop k) a2 S2 R → ExO n0 P l a S R
 | 0,i,l,a,a2,S,S2,Fs,h,_,hx => by
  cases l <;> (simp only [evH] at h; cases h; exact hx)
 | k + 1,i,[],a,a2,S,S2,Fs,h,_,hx => by simp [evH] at h
 | k + 1,i,x :: l,a,a2,S,S2,Fs,h,hF,hx => by
  simp only [evH] at h
  split at h
  ·rename_i hw
   split at h
   ·rename_i F v S1 hd
    split at h
    ·rename_i Fs1 a3 S3 hr
     cases h
     refine ExO.op (cP P) hw (aDp hd ?_) (aDj k (i + 1) hr ?_ hx)
     ·cases F with
      | none => trivial
      | some F => exact hF.1
     ·cases F with
      | none => exact hF
      | some F => exact hF.2
    ·cases h
   ·cases h
  ·rename_i hw
   exact ExO.skip hw (aDj k (i + 1) h hF hx)
  ·cases h
theorem runH {n0 : Cx} {P : Program} {R : List AV → St → Prop} {l : List aT} {a : List AV} {S : St} (k : Nat) (hs : List (Nat × Hint)) (live : List Nat) (Fs : List Prop) (a2 : List AV) (S2 : St) (h : (evH hs 0 k l a S).map (fun p => (p.1,mV 0 live p.2.1,p.2.2)) = some (Fs,a2,S2)) (hF : AllP Fs) (hx : ExO n0 P (l.drop k) a2 S2 R) : ExO n0 P l a S R:=by
 cases he : evH hs 0 k l a S with
 | none => rw [he] at h; cases h
 | some p =>
  obtain ⟨Fs1,a1,S1⟩:=p
  rw [he] at h
  simp only [Option.map_some,Option.some.injEq,Prod.mk.injEq] at h
  obtain ⟨rfl,rfl,rfl⟩:=h
  exact aDj k 0 he hF (ExO.forget (bQ live) hx)
theorem regH {n0 : Cx} {md : Md} {P : Program} {Q : AEx → List AV → St → Prop} {l : List aT} {a : List AV} {S : St} (k : Nat) (hs : List (Nat × Hint)) (live : List Nat) (Fs : List Prop) (a2 : List AV) (S2 : St) (h : (evH hs 0 k l a S).map (fun p => (p.1,mV 0 live p.2.1,p.2.2)) = some (Fs,a2,S2)) (hF : AllP Fs) (hl : l.drop k = []) (hx : Q .norm a2 S2) : Ex n0 md P (.reg l) a S Q :=
 Ex.reg (runH k hs live Fs a2 S2 h hF (hl ▸ ExO.nil hx))
def fadeT (x : AV) : AV:=match x with
 | .tup vs => .tup (vs.map fadeS)
 | x => fadeS x
theorem VR.fadeT {G : Gh} {x : AV} {u : Value} (h : VR G x u) : VR G (fadeT x) u:=by
 unfold Proofs.YtildamklmoekaaaGreatDoor.fadeT
 split
 ·rename_i cs
  obtain ⟨us,rfl,hl,hv⟩:=h.inv_tup
  refine .tup _ us (by simpa using hl) fun i z v hz hv' => ?_
  simp only [List.getElem?_map,Option.map_eq_some_iff] at hz
  obtain ⟨z',hz',rfl⟩:=hz
  exact (hv i z' v hz' hv').fadeS
 ·exact h.fadeS
theorem Does.fade {P : Program} {f : FuncId} {xs : List AV} {cells : List (List AV)} {Q : AV → List (List AV) → Prop} (h : Does P f xs cells fun v c' => Q (fadeT v) c') : Does P f xs cells Q :=
 ⟨h.enter,fun G w us hI hv => (h.calls G w us hI hv).mono fun e w' ⟨u,v,c',G',bx,lv,h1,h2,h3,h4⟩ => ⟨u,Proofs.YtildamklmoekaaaGreatDoor.fadeT v,c',G',bx,lv,h1,h2,h3.fadeT,h4⟩⟩
theorem Does.ofL {P : Program} {f : FuncId} {F : AFn} (hF : aS P f = some F) {xs : List AV} {cells : List (List AV)} (r : AV) (c1 : List (List AV)) (hn : r.names = false) (hl : c1.length = cells.length)
  (h : Ex cells.length .plain P F.code (start F xs) ⟨cells,[]⟩ fun x a' S' => (x = .norm ∨ x = .ret) ∧ ∃ v,iE a' S' F.res = some v ∧ v.names = false ∧ fadeT v = r ∧ S'.bx.take cells.length = c1) : Does P f xs cells fun v c' => v = r ∧ c' = c1:=by
 refine Does.fade (Does.of hF (h.mono ?_))
 rintro x a' S' ⟨h1,v,h2,h3,h4,h5⟩
 refine ⟨h1,v,h2,?_⟩
 rw [h3,if_neg (by simp)]
 exact ⟨by rw [h5,hl]; exact Nat.le_refl _,h4,h5⟩
theorem Does.ofP {P : Program} {f : FuncId} {F : AFn} (hF : aS P f = some F) {xs : List AV} {cells : List (List AV)} (r : AV) (c1 : List (List AV)) (hn : r.names = true) (hl : Nat.ble cells.length c1.length = true)
  (h : Ex cells.length .plain P F.code (start F xs) ⟨cells,[]⟩ fun x a' S' => (x = .norm ∨ x = .ret) ∧ ∃ v,iE a' S' F.res = some v ∧ v.names = true ∧ v = r ∧ ∃ more,S'.bx = c1 ++ more) : Does P f xs cells fun v c' => v = r ∧ c' = c1:=by
 have hd : Does P f xs cells fun v c' => v = r ∧ ∃ more,c' = c1 ++ more:=by
  refine Does.of hF (h.mono ?_)
  rintro x a' S' ⟨h1,v,h2,h3,h4,more,h5⟩
  refine ⟨h1,v,h2,?_⟩
  rw [h3,if_pos rfl]
  exact ⟨by rw [h5,List.length_append]; have:=Nat.le_of_ble_eq_true hl; omega,h4,more,h5⟩
 exact ⟨hd.enter,fun G w us hI hv => (hd.calls G w us hI hv).mono fun e w' ⟨u,v,c',G',bx,lv,⟨hv',more,hc'⟩,k1,k2,k3,k4,k5⟩ => ⟨u,v,c1,G',more ++ bx,lv,⟨hv',rfl⟩,k1,k2,Nat.le_of_ble_eq_true hl,by rw [hc',List.append_assoc] at k4; exact k4,by rw [hc',List.append_assoc] at k5; exact k5⟩⟩
theorem VRs.fade {G : Gh} {xs : List AV} {us : Array Value} (h : VRs G xs us) : VRs G (xs.map fadeS) us :=
 ⟨by rw [List.length_map]; exact h.1, fun i x u hx hu => by
  simp only [List.getElem?_map,Option.map_eq_some_iff] at hx
  obtain ⟨y,hy,rfl⟩:=hx
  exact (h.2 i y u hy hu).fadeS⟩
theorem ExO.callL {n0 : Cx} {P : Program} {a : List AV} {S : St} {R : List AV → St → Prop} {x : aT} {l : List aT} {f : FuncId} {ys : List AV} (bs : List Nat) {cells : List (List AV)} {v v' : AV} {c' : List (List AV)} (xs : List AV) (hw : bG x.guard a = some true) (hv : aop x.op (evd a) S = some (.call f xs)) (hr : (xs.map fadeS).mapM (ren bs) = some ys) (hc : bs.mapM (fun b => S.bx[b]?) = some cells) (hcl : (cells.all bB && decide bs.Nodup) = true)
  (ho : Does P f ys cells fun w c => w = v ∧ c = c') (hb : back bs.length c'.length S.bx.length v = some v') (hc' : c'.all bB = true)
  (h : ExO n0 P l (putA a x.dst v') ⟨bD S.bx bs c' ++ c'.drop bs.length,S.lv⟩ R) : ExO n0 P (x :: l) a S R:=by
 intro E hn ops l0 Q hco hq act w hA
 obtain ⟨o,l',rfl,hx,hl'⟩:=cG hco
 obtain ⟨h1,h2,_⟩:=cN hx
 obtain ⟨G,hI,hR,hg,hk,hd⟩:=hA
 simp only [wpList]
 rw [if_pos (cU hx hR hw)]
 refine .inl ?_
 unfold Oper.wp
 have hs:=jF h1 (fun _ => rfl) (hR.opd hI.gl) hI hv
 obtain ⟨us,hrun,hvs⟩:=hs
 simp only [Bool.and_eq_true,decide_eq_true_eq,List.all_eq_true] at hcl
 obtain ⟨hIc,hvc⟩:=uR hr hc hcl.1 hcl.2 hI (VRs.fade hvs)
 rw [hrun,ho.enter]
 simp only [Oper.upon_enter]
 refine (ho.calls (G.sub bs) w us hIc hvc).mono ?_
 rintro e w' ⟨u,v0,c0,Gc,bx,lv,⟨rfl,rfl⟩,rfl,hvr,hlen,hI',hg'⟩
 obtain ⟨G',k1,k2,k3,k4,k5⟩:=sB hc hcl.2 hI hlen hb (List.all_eq_true.1 hc') hvr hI' hg'
 have hk' : Keep G S G' ⟨bD S.bx bs c0 ++ c0.drop bs.length,S.lv⟩:=⟨by simp [iV],Nat.le_refl _,fun b hb h => by rw [k4 b hb]; exact h,fun t _ h n => by rw [k5]; exact h n,fun _ _ _ => rfl⟩
 exact h E hn ops l' Q hl' hq _ _ ⟨G',k2,h2 ▸ (hR.mono k3.le).put x.dst k1,hg.trans k3,hk.trans hk',by cases o.dst <;> exact hd.step k3 hk'⟩
theorem Ex.seqJ {n0 : Cx} {md : Md} {P : Program} {a : List AV} {S : St} {Q : AEx → List AV → St → Prop} {c d : cD} (J : List AV → St → Prop) (h : Ex n0 md P c a S fun x a' S' => match x with | .norm => ∃ a2 S2,aM n0 a' S' a2 S2 ∧ J a2 S2 | x => Q x a' S') (k : ∀ a2 S2,J a2 S2 → Ex n0 md P d a2 S2 Q) : Ex n0 md P (.seq c d) a S Q:=by
 refine Ex.seq (h.mono ?_)
 intro x a' S' hx
 cases x with
 | norm => obtain ⟨a2,S2,hf,hj⟩:=hx; exact Ex.forget hf (k a2 S2 hj)
 | ret => exact hx
 | ex i => exact hx
def Gh.nil (G : Gh) (t : Nat) : Gh:=⟨G.al,fun t' n => if t' = t ∧ n = 0 then some .nil else G.tb t' n,G.fz,G.sz⟩
theorem aAL {G : Gh} {S : St} {w : World} (hI : Inv G S w) (s : Nat) : G.le (G.nil S.lv.length) ∧ Inv (G.nil S.lv.length) ⟨S.bx,S.lv ++ [(0,s)]⟩ w ∧ (∀ n,G.tb S.lv.length n = none):=by
 have h0 : ∀ n,G.tb S.lv.length n = none:=by
  intro n
  cases h : G.tb S.lv.length n with
  | none => rfl
  | some v =>
   obtain ⟨m,s,h1,_⟩:=hI.dtb _ n v h
   simp at h1
 have hlv : ∀ t p,(S.lv ++ [(0,s)])[t]? = some p → (t = S.lv.length ∧ p = (0,s)) ∨ S.lv[t]? = some p:=by
  intro t p h
  by_cases ht : t < S.lv.length
  ·rw [List.getElem?_append_left ht] at h; exact .inr h
  ·rw [List.getElem?_append_right (by omega)] at h
   have h1:=(List.getElem?_eq_some_iff.1 h).1
   simp at h1
   have : t = S.lv.length:=by omega
   subst this
   simp at h
   exact .inl ⟨rfl,h.symm⟩
 have hblk : ∀ t n B s' c,(G.nil S.lv.length).tb t n = some (.blk B s' c) → G.tb t n = some (.blk B s' c):=by
  intro t n B s' c h
  simp only [Gh.nil] at h
  split at h
  ·cases h
  ·exact h
 have hne : ∀ t n B s' c,(G.nil S.lv.length).tb t n = some (.blk B s' c) → ∀ p,(S.lv ++ [(0,s)])[t]? = some p → S.lv[t]? = some p:=by
  intro t n B s' c h p hp
  rcases hlv t p hp with ⟨rfl,_⟩ | h1
  ·have:=hblk _ _ _ _ _ h
   rw [h0] at this
   cases this
  ·exact h1
 have hle : G.le (G.nil S.lv.length):=by
  refine ⟨fun _ _ h => h,fun t n v h => ?_,fun _ _ _ h => h,fun _ _ h => h⟩
  show (if t = S.lv.length ∧ n = 0 then some TB.nil else G.tb t n) = some v
  rw [if_neg (fun hc => by rw [hc.1,h0] at h; cases h)]
  exact h
 refine ⟨hle,⟨fun b B cs h1 h2 => ?_,?_,hI.fz,hI.dal,?_,hI.injA,?_,?_,hI.gl,hI.sz⟩,h0⟩
 ·rcases hI.box b B cs h1 h2 with h' | ⟨us,T,j1,j2,j3,j4⟩
  ·exact .inl h'
  ·exact .inr ⟨us,T,j1,j2,fun i x u hx hu => (j3 i x u hx hu).mono hle,j4⟩
 ·intro t n s0 B s' c h1 h2
  exact hI.tok t n s0 B s' c (hne _ _ _ _ _ h2 _ h1) (hblk _ _ _ _ _ h2)
 ·intro t n v h
  simp only [Gh.nil] at h
  split at h
  ·rename_i hc
   exact ⟨0,s,by rw [hc.1]; simp,by omega⟩
  ·obtain ⟨m,s',h1,h2⟩:=hI.dtb t n v h
   refine ⟨m,s',?_,h2⟩
   rw [List.getElem?_append_left (List.getElem?_eq_some_iff.1 h1).1]
   exact h1
 ·intro t t' n n' s0 s0' B s1 s2 c c' h1 h2 h3 h4
  exact hI.injT t t' n n' s0 s0' B s1 s2 c c' (hne _ _ _ _ _ h3 _ h1) (hne _ _ _ _ _ h4 _ h2) (hblk _ _ _ _ _ h3) (hblk _ _ _ _ _ h4)
 ·intro b B t n s0 s1 c h1 h2 h3
  exact hI.sep b B t n s0 s1 c h1 (hne _ _ _ _ _ h3 _ h2) (hblk _ _ _ _ _ h3)
def nilA (t : Nat) (x : AV) : AV:=match x with
 | .nils => .sl [] (some t)
 | x => x
theorem VR.nilA {G : Gh} {t : Nat} {x : AV} {u : Value} (h : VR G x u) (ht : G.tb t 0 = some .nil) : VR G (nilA t x) u:=by
 unfold Proofs.YtildamklmoekaaaGreatDoor.nilA
 split
 ·cases h
  exact .slt0 t ht
 ·exact h
theorem aM.at {n0 : Cx} {a a2 : List AV} {S S2 : St} (h : ∀ (E : Ent),E.c = n0 → ∀ act w,At E a S act w → At E a2 S2 act w) : aM n0 a S a2 S2:=h
theorem Gro.nil {G0 G : Gh} {S0 S : St} {w0 w : World} (hg : Gro G0 S0 w0 G S w) (hI : Inv G S w) (bx : List (List AV)) (s : Nat) : Gro G0 S0 w0 (G.nil S.lv.length) ⟨bx,S.lv ++ [(0,s)]⟩ w:=by
 obtain ⟨h1,h2,h0⟩:=aAL hI s
 refine ⟨hg.le.trans h1,hg.os,hg.tape,hg.output,hg.size,hg.fr,?_,hg.oth⟩
 rintro B (⟨b,hb⟩ | ⟨t,k,s0,s',c,k1,k2⟩)
 ·exact hg.own B (.inl ⟨b,hb⟩)
 ·have k3 : G.tb t k = some (.blk B s' c):=by
   simp only [Gh.nil] at k2
   split at k2
   ·cases k2
   ·exact k2
  have k4 : S.lv[t]? = some (k,s0):=by
   obtain ⟨m,s2,j1,_⟩:=hI.dtb t k _ k3
   rw [List.getElem?_append_left (List.getElem?_eq_some_iff.1 j1).1] at k1
   exact k1
  exact hg.own B (.inr ⟨t,k,s0,s',c,k4,k3⟩)
theorem Keep.nil {G0 G : Gh} {S0 S : St} {w : World} (hk : Keep G0 S0 G S) (bx : List (List AV)) (hb : S.bx.length ≤ bx.length) (s : Nat) : Keep G0 S0 (G.nil S.lv.length) ⟨bx,S.lv ++ [(0,s)]⟩ :=
 ⟨Nat.le_trans hk.bl hb, by have := hk.ll; simp; omega, hk.al, fun t ht h0 n => by
  simp only [Gh.nil]
  rw [if_neg (fun hc => by have:=hk.ll; omega)]
  exact hk.tb t ht h0 n, fun t ht h0 => (List.getElem?_append_left (Nat.lt_of_lt_of_le ht hk.ll)).trans (hk.lvn t ht h0)⟩
theorem Dfr.nil {E : Ent} {G : Gh} {S : St} {l : List Deferred} {w : World} (h : Dfr E G S l w) (hle : G.le (G.nil S.lv.length)) {bx : List (List AV)} (s : Nat) : Dfr E (G.nil S.lv.length) ⟨bx,S.lv ++ [(0,s)]⟩ l w :=
 h.ghost (by have := h.m; simp; omega) <| .of_le hle fun t ht h0 => ⟨fun n => by
  simp only [Gh.nil]
  rw [if_neg]
  ·exact h0 n
  ·rintro ⟨rfl, _⟩; have := h.m; omega, List.getElem?_append_left (by have := h.m; omega)⟩
theorem aGd {n0 : Cx} {a : List AV} {S : St} (k s : Nat) (a2 : List AV) (hk : a.length = a2.length) (ha : ∀ (i : Nat) x,a2[i]? = some x → ∃ y,a[i]? = some y ∧ (x = y ∨ x = nilA S.lv.length y)) : aM n0 a S a2 ⟨S.bx,S.lv ++ [(0,s)]⟩:=by
 intro E hE act w ⟨G,hI,hR,hg,hkp,hd⟩
 obtain ⟨h1,h2,h0⟩:=aAL hI s
 have ht : (G.nil S.lv.length).tb S.lv.length 0 = some .nil:=by simp [Gh.nil]
 refine ⟨G.nil S.lv.length,h2,⟨by rw [← hk]; exact hR.size,fun i x u hx hu => ?_⟩,hg.nil hI S.bx s,Keep.nil (w:=w) hkp S.bx (Nat.le_refl _) s,hd.nil h1 s⟩
 obtain ⟨y,hy,rfl | rfl⟩:=ha i x hx
 ·exact (hR.slot i _ u hy hu).mono h1
 ·exact ((hR.slot i y u hy hu).mono h1).nilA ht
theorem nilK {n0 : Cx} {a : List AV} {S : St} (k s : Nat) (h : a[k]? = some .nils) : aM n0 a S (a.set k (.sl [] (some S.lv.length))) ⟨S.bx,S.lv ++ [(0,s)]⟩:=by
 refine aGd k s _ (by simp) fun i x hx => ?_
 rw [List.getElem?_set] at hx
 split at hx
 ·rename_i hik
  subst hik
  split at hx
  ·cases hx
   exact ⟨.nils,h,.inr rfl⟩
  ·cases hx
 ·exact ⟨x,hx,.inl rfl⟩
theorem nilB {n0 : Cx} {a : List AV} {S : St} (b o s : Nat) (cs : List AV) (hb : S.bx[b]? = some cs) (ho : cs[o]? = some .nils) : aM n0 a S a ⟨S.bx.set b (cs.set o (.sl [] (some S.lv.length))),S.lv ++ [(0,s)]⟩:=by
 intro E hE act w ⟨G,hI,hR,hg,hkp,hd⟩
 obtain ⟨h1,h2,h0⟩:=aAL hI s
 have ht : (G.nil S.lv.length).tb S.lv.length 0 = some .nil:=by simp [Gh.nil]
 refine ⟨G.nil S.lv.length,⟨?_,h2.tok,h2.fz,?_,h2.dtb,h2.injA,h2.injT,h2.sep,h2.gl,h2.sz⟩,hR.mono h1,hg.nil hI _ s,Keep.nil (w:=w) hkp _ (by simp) s,hd.nil h1 s⟩
 ·intro b' B cs' k1 k2
  simp only [List.getElem?_set] at k2
  split at k2
  ·rename_i hbb
   subst hbb
   split at k2
   ·cases k2
    rcases h2.box b B cs k1 hb with h' | ⟨us,T,j1,j2,j3,j4⟩
    ·rw [h'] at ho; simp at ho
    ·refine .inr ⟨us, T, j1, by simpa using j2, fun i x u hx hu => ?_, j4⟩
     rw [List.getElem?_set] at hx
     split at hx
     ·rename_i hoi
      subst hoi
      split at hx
      ·cases hx
       exact (j3 o .nils u ho hu).nilA ht
      ·cases hx
     ·exact j3 i x u hx hu
   ·cases k2
  ·exact h2.box b' B cs' k1 k2
 ·intro b' B k1
  have:=h2.dal b' B k1
  exact ⟨by simpa using this.1,this.2⟩
end
end Go.Proofs.YtildamklmoekaaaGreatDoor
