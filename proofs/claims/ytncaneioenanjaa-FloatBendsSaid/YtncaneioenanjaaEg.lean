/- The engine, part 7: what becomes of the boxes and the growing slices. Own work; imports no translation. -/
import Derived.Test.YtncaneioenanjaaEf
namespace Go.Proofs.Ytncaneioenanjaa
open Go.RowKit
set_option linter.unusedVariables false
set_option linter.unusedSimpArgs false

theorem Inv.fzlt {G : Gh} {S : St} {w : World} (hI : Inv G S w) {b o : Nat} {u : Value} (h : G.fz b o = some u) : b < w.heap.size := by
  have := hI.fz b o u h
  unfold World.cell? at this
  split at this
  · rename_i h'; exact (Array.getElem?_eq_some_iff.1 h').1
  · cases this
theorem Inv.fznew {G : Gh} {S : St} {w : World} (hI : Inv G S w) (o : Nat) : G.fz w.heap.size o = none := by
  cases h : G.fz w.heap.size o with
  | none => rfl
  | some u => exact absurd (hI.fzlt h) (Nat.lt_irrefl _)
theorem Inv.toklt {G : Gh} {S : St} {w : World} (hI : Inv G S w) {t n s0 B s c : Nat} (h1 : S.lv[t]? = some (n, s0)) (h2 : G.tb t n = some (.blk B s c)) : B < w.heap.size := by
  obtain ⟨_, ⟨us, T, h, _⟩, _⟩ := hI.tok t n s0 B s c h1 h2
  exact (Array.getElem?_eq_some_iff.1 h).1

theorem cell_of_heap {w w' : World} {b : Nat} (h : w'.heap[b]? = w.heap[b]?) (o : Nat) : w'.cell? ⟨b, o, none⟩ = w.cell? ⟨b, o, none⟩ := by simp [World.cell?, h]

/-- A new box. -/
def Gh.box (G : Gh) (n B : Nat) : Gh := { G with al := fun k => if k = n then some B else G.al k }

theorem new_box {G : Gh} {S : St} {w : World} (hI : Inv G S w) (cs : List AV) (us : Array Value) (T : TypeId) (h : RelL G cs us) :
    (G.box S.bx.length w.heap.size).al S.bx.length = some w.heap.size ∧ Inv (G.box S.bx.length w.heap.size) ⟨S.bx ++ [cs], S.lv⟩ (w.alloc (.cells us T)) ∧ Gro G S w (G.box S.bx.length w.heap.size) ⟨S.bx ++ [cs], S.lv⟩ (w.alloc (.cells us T)) := by
  have hle : G.le (G.box S.bx.length w.heap.size) := ⟨fun b B hb => by
    have := (hI.dal b B hb).1
    simp only [Gh.box]; rw [if_neg (by omega)]; exact hb, fun _ _ _ h => h, fun _ _ _ h => h⟩
  have hold : ∀ b, b < w.heap.size → (w.alloc (.cells us T)).heap[b]? = w.heap[b]? := fun b hb => Below.heap_alloc w _ b hb
  refine ⟨by simp [Gh.box], ⟨?_, ?_, ?_, ?_, hI.dtb, ?_, hI.injT, ?_⟩, ⟨hle, rfl, rfl, rfl, by simp, fun B hB _ => ⟨hold B hB, fun _ => rfl⟩, ?_⟩⟩
  · intro b B cs' hb hcs
    simp only [Gh.box] at hb
    split at hb
    · rename_i hbn
      subst hbn
      cases hb
      simp only [List.getElem?_append_right (Nat.le_refl _), Nat.sub_self, List.getElem?_cons_zero, Option.some.injEq] at hcs
      subst hcs
      exact .inr ⟨us, T, heap_alloc_new w _, h.1, fun i x u h1 h2 => (h.2 i x u h1 h2).mono hle, hI.fznew⟩
    · have hd := hI.dal b B hb
      rw [List.getElem?_append_left hd.1] at hcs
      rcases hI.box b B cs' hb hcs with h0 | ⟨us', T', k1, k2, k3, k4⟩
      · exact .inl h0
      · exact .inr ⟨us', T', by rw [hold B hd.2]; exact k1, k2, fun i x u h1 h2 => (k3 i x u h1 h2).mono hle, k4⟩
  · intro t n s0 B s c h1 h2
    obtain ⟨k1, ⟨us', T', k2, k3⟩, k4⟩ := hI.tok t n s0 B s c h1 h2
    exact ⟨k1, ⟨us', T', by rw [hold B (hI.toklt h1 h2)]; exact k2, k3⟩, k4⟩
  · intro b o u hf
    rw [cell_of_heap (hold b (hI.fzlt hf))]
    exact hI.fz b o u hf
  · intro b B hb
    simp only [Gh.box] at hb
    split at hb
    · rename_i hbn; subst hbn; cases hb; simp
    · have := hI.dal b B hb; simp; omega
  · intro b b' B h1 h2
    simp only [Gh.box] at h1 h2
    split at h1 <;> split at h2
    · omega
    · cases h1; have := hI.dal _ _ h2; omega
    · cases h2; have := hI.dal _ _ h1; omega
    · exact hI.injA _ _ _ h1 h2
  · intro b B t n s0 s c h1 h2 h3
    simp only [Gh.box] at h1
    split at h1
    · cases h1; have := hI.toklt h2 h3; omega
    · exact hI.sep b B t n s0 s c h1 h2 h3
  · rintro B (⟨b, hb⟩ | ⟨t, n, s0, s, c, h1, h2⟩)
    · simp only [Gh.box] at hb
      split at hb
      · cases hb; exact .inr (Nat.le_refl _)
      · exact .inl (.inl ⟨b, hb⟩)
    · exact .inl (.inr ⟨t, n, s0, s, c, h1, h2⟩)

/-- A box's cells are others. -/
theorem put_box {G : Gh} {S : St} {w : World} (hI : Inv G S w) {b B : Nat} {cs old : List AV} {us us0 : Array Value} {T : TypeId} (hb : G.al b = some B) (hB : w.heap[B]? = some (.cells us0 T (0, 0))) (hold : S.bx[b]? = some old) (h : RelL G cs us) (hf : ∀ o, G.fz B o = none) :
    Inv G ⟨S.bx.set b cs, S.lv⟩ (w.setRow B us) ∧ Gro G S w G ⟨S.bx.set b cs, S.lv⟩ (w.setRow B us) := by
  have hother : ∀ k, k ≠ B → (w.setRow B us).heap[k]? = w.heap[k]? := fun k hk => setRow_other w B k us hk
  have hblt := (List.getElem?_eq_some_iff.1 hold).1
  refine ⟨⟨?_, ?_, ?_, ?_, hI.dtb, hI.injA, hI.injT, hI.sep⟩, ⟨.refl G, rfl, rfl, rfl, by simp [World.setRow], fun k _ hk => ⟨hother k fun e => hk (.inl ⟨b, e ▸ hb⟩), fun _ => rfl⟩, fun B' ho => .inl ho⟩⟩
  · intro b' B' cs' hb' hcs'
    by_cases he : b' = b
    · subst he
      rw [hb] at hb'; cases hb'
      rw [List.getElem?_set_self hblt] at hcs'
      cases hcs'
      exact .inr ⟨us, T, setRow_heap w B us0 us T _ hB, h.1, h.2, hf⟩
    · rw [List.getElem?_set_ne (Ne.symm he)] at hcs'
      have hne : B' ≠ B := fun e => he (hI.injA _ _ _ (e ▸ hb') hb)
      rcases hI.box b' B' cs' hb' hcs' with h0 | ⟨us', T', k1, k2, k3, k4⟩
      · exact .inl h0
      · exact .inr ⟨us', T', by rw [hother B' hne]; exact k1, k2, k3, k4⟩
  · intro t n s0 B' s c h1 h2
    obtain ⟨k1, ⟨us', T', k2, k3⟩, k4⟩ := hI.tok t n s0 B' s c h1 h2
    have hne : B' ≠ B := fun e => hI.sep b B t n s0 s c hb h1 (e ▸ h2)
    exact ⟨k1, ⟨us', T', by rw [hother B' hne]; exact k2, k3⟩, k4⟩
  · intro b' o u hf'
    have hne : b' ≠ B := by rintro rfl; rw [hf o] at hf'; cases hf'
    rw [cell_of_heap (hother b' hne)]
    exact hI.fz b' o u hf'
  · intro b' B' hb'
    have := hI.dal b' B' hb'
    exact ⟨by simpa using this.1, by simpa [World.setRow] using this.2⟩

/-- A growing slice lies in a new block. -/
def Gh.lit (G : Gh) (t n B s c : Nat) (us : Array Value) : Gh :=
  { G with tb := fun t' n' => if t' = t ∧ n' = n then some (.blk B s c) else G.tb t' n', fz := fun b o => if b = B ∧ o < n * s then us[o]? else G.fz b o }

theorem lit_le {G : Gh} {S : St} {w : World} (hI : Inv G S w) (t n s c : Nat) (us : Array Value) (ht : ∀ v, G.tb t n ≠ some v) : G.le (G.lit t n w.heap.size s c us) :=
  ⟨fun _ _ h => h, fun t' n' v h => by
    simp only [Gh.lit]
    rw [if_neg]
    · exact h
    · rintro ⟨rfl, rfl⟩; exact ht v h, fun b o u h => by
    simp only [Gh.lit]
    rw [if_neg]
    · exact h
    · rintro ⟨rfl, _⟩; exact absurd (hI.fzlt h) (Nat.lt_irrefl _)⟩

/-- The slots of tokens: t now has n elements of s cells; the others are as they were. -/
theorem new_lit {G : Gh} {S : St} {w : World} (hI : Inv G S w) (lv : List (Nat × Nat)) (t : Nat) (els : List AV) (s c : Nat) (us : Array Value) (T : TypeId)
    (ht : lv[t]? = some (els.length, s)) (hlv : ∀ t' m, t' ≠ t → (lv[t']? = some m ↔ S.lv[t']? = some m)) (hnew : ∀ n v, G.tb t n = some v → n < els.length)
    (hc : els.length ≤ c) (hsz : us.size = c * s) (hs : ∀ (i : Nat) e, els[i]? = some e → e.cells.length = s) (hv : ∀ (i : Nat) e (j : Nat) x, els[i]? = some e → e.cells[j]? = some x → ∃ u, us[i * s + j]? = some u ∧ VR G x u) :
    VR (G.lit t els.length w.heap.size s c us) (.sl els (some t)) (.slice (some ⟨w.heap.size, 0, none⟩) els.length c) ∧ Inv (G.lit t els.length w.heap.size s c us) ⟨S.bx, lv⟩ (w.alloc (.cells us T)) ∧ Gro G S w (G.lit t els.length w.heap.size s c us) ⟨S.bx, lv⟩ (w.alloc (.cells us T)) := by
  have hle := lit_le hI t els.length s c us (fun v h => absurd (hnew _ v h) (Nat.lt_irrefl _))
  have hold : ∀ b, b < w.heap.size → (w.alloc (.cells us T)).heap[b]? = w.heap[b]? := fun b hb => Below.heap_alloc w _ b hb
  have hlt : els.length * s ≤ us.size := by rw [hsz]; exact Nat.mul_le_mul_right _ hc
  refine ⟨?_, ⟨?_, ?_, ?_, ?_, ?_, hI.injA, ?_, ?_⟩, ⟨hle, rfl, rfl, rfl, by simp, fun B hB _ => ⟨hold B hB, fun o => ?_⟩, ?_⟩⟩
  · refine .slt els t s w.heap.size c (fun k => us[k]?.getD undef) (by simp [Gh.lit]) hc hs (fun i e j x h1 h2 => ?_) (fun i e j x h1 h2 => ?_)
    · have hp := place_lt hs h1 h2
      obtain ⟨u, hu, _⟩ := hv i e j x h1 h2
      simp only [Gh.lit]
      rw [if_pos ⟨trivial, hp⟩, hu]; rfl
    · obtain ⟨u, hu, hr⟩ := hv i e j x h1 h2
      rw [hu]
      exact hr.mono hle
  · intro b B cs hb hcs
    rcases hI.box b B cs hb hcs with h0 | ⟨us', T', k1, k2, k3, k4⟩
    · exact .inl h0
    · refine .inr ⟨us', T', by rw [hold B (hI.dal b B hb).2]; exact k1, k2, fun i x u h1 h2 => (k3 i x u h1 h2).mono hle, fun o => ?_⟩
      simp only [Gh.lit]
      rw [if_neg]
      · exact k4 o
      · rintro ⟨rfl, _⟩; have := (hI.dal b _ hb).2; omega
  · intro t' n s0 B s' c' h1 h2
    by_cases he : t' = t
    · subst he
      rw [ht] at h1
      simp only [Option.some.injEq, Prod.mk.injEq] at h1
      obtain ⟨rfl, rfl⟩ := h1
      simp only [Gh.lit, and_self, if_true, Option.some.injEq, TB.blk.injEq] at h2
      obtain ⟨rfl, rfl, rfl⟩ := h2
      refine ⟨rfl, ⟨us, T, heap_alloc_new w _, hsz⟩, hc, fun o ho => ?_⟩
      simp only [Gh.lit]
      rw [if_neg (by omega)]
      exact hI.fznew o
    · have h1' := (hlv t' _ he).1 h1
      simp only [Gh.lit, he, false_and, if_false] at h2
      obtain ⟨k1, ⟨us', T', k2, k3⟩, k4, k5⟩ := hI.tok t' n s0 B s' c' h1' h2
      refine ⟨k1, ⟨us', T', by rw [hold B (hI.toklt h1' h2)]; exact k2, k3⟩, k4, fun o ho => ?_⟩
      simp only [Gh.lit]
      rw [if_neg]
      · exact k5 o ho
      · rintro ⟨rfl, _⟩; have := hI.toklt h1' h2; omega
  · intro b o u hf
    simp only [Gh.lit] at hf
    split at hf
    · rename_i h
      obtain ⟨rfl, _⟩ := h
      unfold World.cell?
      rw [heap_alloc_new w]
      exact hf
    · rw [cell_of_heap (hold b (hI.fzlt hf))]
      exact hI.fz b o u hf
  · intro b B hb
    have := hI.dal b B hb
    exact ⟨this.1, by simp; omega⟩
  · intro t' n v h
    simp only [Gh.lit] at h
    by_cases he : t' = t
    · subst he
      split at h
      · rename_i hh; exact ⟨_, _, ht, by rw [hh.2]; exact Nat.le_refl _⟩
      · exact ⟨_, _, ht, Nat.le_of_lt (hnew n v h)⟩
    · rw [if_neg (by simp [he])] at h
      obtain ⟨m, s', h1, h2⟩ := hI.dtb t' n v h
      exact ⟨m, s', (hlv t' _ he).2 h1, h2⟩
  · intro t1 t2 n1 n2 s1 s2 B s' s'' c' c'' h1 h2 h3 h4
    simp only [Gh.lit] at h3 h4
    by_cases e1 : t1 = t <;> by_cases e2 : t2 = t
    · rw [e1, e2]
    · have h2' := (hlv t2 _ e2).1 h2
      rw [if_neg (by simp [e2])] at h4
      subst e1
      rw [ht] at h1
      simp only [Option.some.injEq, Prod.mk.injEq] at h1
      rw [if_pos ⟨rfl, h1.1.symm⟩] at h3
      cases h3
      have := hI.toklt h2' h4; omega
    · have h1' := (hlv t1 _ e1).1 h1
      rw [if_neg (by simp [e1])] at h3
      subst e2
      rw [ht] at h2
      simp only [Option.some.injEq, Prod.mk.injEq] at h2
      rw [if_pos ⟨rfl, h2.1.symm⟩] at h4
      cases h4
      have := hI.toklt h1' h3; omega
    · rw [if_neg (by simp [e1])] at h3
      rw [if_neg (by simp [e2])] at h4
      exact hI.injT _ _ _ _ _ _ _ _ _ _ _ ((hlv t1 _ e1).1 h1) ((hlv t2 _ e2).1 h2) h3 h4
  · intro b B t' n s0 s' c' h1 h2 h3
    simp only [Gh.lit] at h3
    by_cases he : t' = t
    · subst he
      rw [ht] at h2
      simp only [Option.some.injEq, Prod.mk.injEq] at h2
      rw [if_pos ⟨rfl, h2.1.symm⟩] at h3
      cases h3
      have := (hI.dal b _ h1).2; omega
    · rw [if_neg (by simp [he])] at h3
      exact hI.sep b B t' n s0 s' c' h1 ((hlv t' _ he).1 h2) h3
  · simp only [Gh.lit]
    rw [if_neg (by omega)]
  · rintro B (⟨b, hb⟩ | ⟨t', n, s0, s', c', h1, h2⟩)
    · exact .inl (.inl ⟨b, hb⟩)
    · simp only [Gh.lit] at h2
      by_cases he : t' = t
      · subst he
        rw [ht] at h1
        simp only [Option.some.injEq, Prod.mk.injEq] at h1
        rw [if_pos ⟨rfl, h1.1.symm⟩] at h2
        cases h2
        exact .inr (Nat.le_refl _)
      · rw [if_neg (by simp [he])] at h2
        exact .inl (.inr ⟨t', n, s0, s', c', (hlv t' _ he).1 h1, h2⟩)

/-- A slice grows where it lies. -/
theorem grow_lit {G : Gh} {S : St} {w : World} (hI : Inv G S w) (t m : Nat) (els : List AV) (B s c : Nat) (us old : Array Value) (T : TypeId)
    (hlt : S.lv[t]? = some (m, s)) (hb : G.tb t m = some (.blk B s c)) (hB : w.heap[B]? = some (.cells old T (0, 0))) (hm : m < els.length) (hos : old.size = us.size) (hsame : ∀ k, k < m * s → us[k]? = old[k]?)
    (hc : els.length ≤ c) (hsz : us.size = c * s) (hs : ∀ (i : Nat) e, els[i]? = some e → e.cells.length = s) (hv : ∀ (i : Nat) e (j : Nat) x, els[i]? = some e → e.cells[j]? = some x → ∃ u, us[i * s + j]? = some u ∧ VR G x u) :
    VR (G.lit t els.length B s c us) (.sl els (some t)) (.slice (some ⟨B, 0, none⟩) els.length c) ∧ Inv (G.lit t els.length B s c us) ⟨S.bx, S.lv.set t (els.length, s)⟩ (w.setRow B us) ∧ Gro G S w (G.lit t els.length B s c us) ⟨S.bx, S.lv.set t (els.length, s)⟩ (w.setRow B us) := by
  obtain ⟨_, ⟨us1, T1, q1, q2⟩, q3, q4⟩ := hI.tok t m s B s c hlt hb
  rw [hB] at q1; cases q1
  have hfzB : ∀ o u, G.fz B o = some u → o < m * s ∧ old[o]? = some u := by
    intro o u hf
    refine ⟨?_, by simpa [World.cell?, hB] using hI.fz B o u hf⟩
    rcases Nat.lt_or_ge o (m * s) with h | h
    · exact h
    · rw [q4 o h] at hf; cases hf
  have hle : G.le (G.lit t els.length B s c us) := ⟨fun _ _ h => h, fun t' n' v h => by
    simp only [Gh.lit]
    rw [if_neg]
    · exact h
    · rintro ⟨rfl, rfl⟩
      obtain ⟨m', s', h1, h2⟩ := hI.dtb _ _ _ h
      rw [hlt] at h1; cases h1; omega, fun b o u h => by
    simp only [Gh.lit]
    split
    · rename_i hh
      obtain ⟨rfl, _⟩ := hh
      obtain ⟨h1, h2⟩ := hfzB o u h
      rw [hsame o h1]; exact h2
    · exact h⟩
  have hother : ∀ k, k ≠ B → (w.setRow B us).heap[k]? = w.heap[k]? := fun k hk => setRow_other w B k us hk
  have htl := (List.getElem?_eq_some_iff.1 hlt).1
  have hset : (S.lv.set t (els.length, s))[t]? = some (els.length, s) := List.getElem?_set_self htl
  have hsne : ∀ t', t' ≠ t → (S.lv.set t (els.length, s))[t']? = S.lv[t']? := fun t' h => List.getElem?_set_ne (Ne.symm h)
  refine ⟨?_, ⟨?_, ?_, ?_, ?_, ?_, hI.injA, ?_, ?_⟩, ⟨hle, rfl, rfl, rfl, by simp [World.setRow], fun k hk hk' => ?_, ?_⟩⟩
  · refine .slt els t s B c (fun k => us[k]?.getD undef) (by simp [Gh.lit]) hc hs (fun i e j x h1 h2 => ?_) (fun i e j x h1 h2 => ?_)
    · have hp := place_lt hs h1 h2
      obtain ⟨u, hu, _⟩ := hv i e j x h1 h2
      simp only [Gh.lit]
      rw [if_pos ⟨trivial, hp⟩, hu]; rfl
    · obtain ⟨u, hu, hr⟩ := hv i e j x h1 h2
      rw [hu]
      exact hr.mono hle
  · intro b B' cs hb' hcs
    have hne : B' ≠ B := fun e => hI.sep b B t m s s c (e ▸ hb') hlt hb
    rcases hI.box b B' cs hb' hcs with h0 | ⟨us', T', k1, k2, k3, k4⟩
    · exact .inl h0
    · refine .inr ⟨us', T', by rw [hother B' hne]; exact k1, k2, fun i x u h1 h2 => (k3 i x u h1 h2).mono hle, fun o => ?_⟩
      simp only [Gh.lit]
      rw [if_neg (by simp [hne])]
      exact k4 o
  · intro t' n s0 B' s' c' h1 h2
    by_cases he : t' = t
    · subst he
      rw [hset] at h1
      simp only [Option.some.injEq, Prod.mk.injEq] at h1
      obtain ⟨rfl, rfl⟩ := h1
      simp only [Gh.lit, and_self, if_true, Option.some.injEq, TB.blk.injEq] at h2
      obtain ⟨rfl, rfl, rfl⟩ := h2
      refine ⟨rfl, ⟨us, T, setRow_heap w _ old us T _ hB, hsz⟩, hc, fun o ho => ?_⟩
      simp only [Gh.lit]
      rw [if_neg (by omega)]
      refine q4 o (Nat.le_trans (Nat.mul_le_mul_right _ (Nat.le_of_lt hm)) ho)
    · rw [hsne t' he] at h1
      simp only [Gh.lit, he, false_and, if_false] at h2
      obtain ⟨k1, ⟨us', T', k2, k3⟩, k4, k5⟩ := hI.tok t' n s0 B' s' c' h1 h2
      have hne : B' ≠ B := fun e => he (hI.injT _ _ _ _ _ _ _ _ _ _ _ h1 hlt (e ▸ h2) hb)
      refine ⟨k1, ⟨us', T', by rw [hother B' hne]; exact k2, k3⟩, k4, fun o ho => ?_⟩
      simp only [Gh.lit]
      rw [if_neg (by simp [hne])]
      exact k5 o ho
  · intro b o u hf
    simp only [Gh.lit] at hf
    by_cases hbB : b = B
    · subst hbB
      have hcell : (w.setRow b us).cell? ⟨b, o, none⟩ = us[o]? := cell_setRow_same w b o old us T _ hB
      rw [hcell]
      split at hf
      · exact hf
      · obtain ⟨h1, h2⟩ := hfzB o u hf
        rw [hsame o h1]; exact h2
    · rw [if_neg (by simp [hbB])] at hf
      rw [cell_of_heap (hother b hbB)]
      exact hI.fz b o u hf
  · intro b B' hb'
    have := hI.dal b B' hb'
    exact ⟨this.1, by simpa [World.setRow] using this.2⟩
  · intro t' n v h
    simp only [Gh.lit] at h
    by_cases he : t' = t
    · subst he
      split at h
      · rename_i hh; exact ⟨_, _, hset, by rw [hh.2]; exact Nat.le_refl _⟩
      · obtain ⟨m', s', h1, h2⟩ := hI.dtb _ _ _ h
        rw [hlt] at h1; cases h1
        exact ⟨_, _, hset, by omega⟩
    · rw [if_neg (by simp [he])] at h
      obtain ⟨m', s', h1, h2⟩ := hI.dtb t' n v h
      exact ⟨m', s', by rw [hsne t' he]; exact h1, h2⟩
  · intro t1 t2 n1 n2 s1 s2 B' s' s'' c' c'' h1 h2 h3 h4
    simp only [Gh.lit] at h3 h4
    by_cases e1 : t1 = t <;> by_cases e2 : t2 = t
    · rw [e1, e2]
    · rw [hsne t2 e2] at h2
      rw [if_neg (by simp [e2])] at h4
      subst e1
      rw [hset] at h1
      simp only [Option.some.injEq, Prod.mk.injEq] at h1
      rw [if_pos ⟨rfl, h1.1.symm⟩] at h3
      cases h3
      exact absurd (hI.injT _ _ _ _ _ _ _ _ _ _ _ h2 hlt h4 hb) e2
    · rw [hsne t1 e1] at h1
      rw [if_neg (by simp [e1])] at h3
      subst e2
      rw [hset] at h2
      simp only [Option.some.injEq, Prod.mk.injEq] at h2
      rw [if_pos ⟨rfl, h2.1.symm⟩] at h4
      cases h4
      exact absurd (hI.injT _ _ _ _ _ _ _ _ _ _ _ h1 hlt h3 hb) e1
    · rw [if_neg (by simp [e1])] at h3
      rw [if_neg (by simp [e2])] at h4
      rw [hsne t1 e1] at h1
      rw [hsne t2 e2] at h2
      exact hI.injT _ _ _ _ _ _ _ _ _ _ _ h1 h2 h3 h4
  · intro b B' t' n s0 s' c' h1 h2 h3
    simp only [Gh.lit] at h3
    by_cases he : t' = t
    · subst he
      rw [hset] at h2
      simp only [Option.some.injEq, Prod.mk.injEq] at h2
      rw [if_pos ⟨rfl, h2.1.symm⟩] at h3
      cases h3
      exact hI.sep b _ _ _ _ _ _ h1 hlt hb
    · rw [if_neg (by simp [he])] at h3
      rw [hsne t' he] at h2
      exact hI.sep b B' t' n s0 s' c' h1 h2 h3
  · have hkB : k ≠ B := fun e => hk' (.inr ⟨t, m, s, s, c, hlt, e ▸ hb⟩)
    refine ⟨hother k hkB, fun o => ?_⟩
    simp only [Gh.lit]
    rw [if_neg (by simp [hkB])]
  · rintro B' (⟨b, hb'⟩ | ⟨t', n, s0, s', c', h1, h2⟩)
    · exact .inl (.inl ⟨b, hb'⟩)
    · simp only [Gh.lit] at h2
      by_cases he : t' = t
      · subst he
        rw [hset] at h1
        simp only [Option.some.injEq, Prod.mk.injEq] at h1
        rw [if_pos ⟨rfl, h1.1.symm⟩] at h2
        cases h2
        exact .inl (.inr ⟨_, m, s, s, c, hlt, hb⟩)
      · rw [if_neg (by simp [he])] at h2
        rw [hsne t' he] at h1
        exact .inl (.inr ⟨t', n, s0, s', c', h1, h2⟩)
end Go.Proofs.Ytncaneioenanjaa
