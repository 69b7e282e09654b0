/- The engine, part 12: a region that draws its order. Own work; imports no translation. -/
import Derived.Test.YtncaneioenanjaaEk
namespace Go.Proofs.Ytncaneioenanjaa
open Go.RowKit
set_option linter.unusedVariables false
set_option linter.unusedSimpArgs false

/-! ### Equality that can be reckoned -/
mutual
def AV.beq : AV → AV → Bool
  | .int k n, .int k' n' => decide (k = k') && decide (n = n')
  | .bool b, .bool b' => b == b'
  | .str s, .str s' => s.data == s'.data
  | .agg cs, .agg cs' => beqL cs cs'
  | .tup cs, .tup cs' => beqL cs cs'
  | .nilp, .nilp => true
  | .ptr b o, .ptr b' o' => b == b' && o == o'
  | .rop cs, .rop cs' => beqL cs cs'
  | .nils, .nils => true
  | .sl els t, .sl els' t' => beqL els els' && t == t'
  | .ms b n s, .ms b' n' s' => b == b' && n == n' && s == s'
  | .fn f ps cs, .fn f' ps' cs' => f == f' && (beqL ps ps' && beqL cs cs')
  | .nilf, .nilf => true
  | .junk, .junk => true
  | _, _ => false
def beqL : List AV → List AV → Bool
  | [], [] => true
  | x :: l, y :: m => x.beq y && beqL l m
  | _, _ => false
end
mutual
theorem AV.beq_eq : ∀ (x y : AV), x.beq y = true → x = y := by
  intro x y h
  cases x <;> cases y <;> simp only [AV.beq, Bool.and_eq_true, decide_eq_true_eq, beq_iff_eq, reduceCtorEq] at h <;> first
    | rfl
    | (cases h; done)
    | (obtain ⟨h1, h2⟩ := h; first | (subst h1; subst h2; rfl) | (have := beqL_eq _ _ h1; subst this; subst h2; rfl) | (have := beqL_eq _ _ h2; subst this; subst h1; rfl))
    | (subst h; rfl)
    | (obtain ⟨h1, h2, h3⟩ := h; have e2 := beqL_eq _ _ h2; have e3 := beqL_eq _ _ h3; subst h1; subst e2; subst e3; rfl)
    | (have := ByteArray.ext h; subst this; rfl)
    | (have := beqL_eq _ _ h; subst this; rfl)
    | (obtain ⟨⟨h1, h2⟩, h3⟩ := h; subst h1; subst h2; subst h3; rfl)
theorem beqL_eq : ∀ (l m : List AV), beqL l m = true → l = m := by
  intro l m h
  cases l with
  | nil => cases m with
    | nil => rfl
    | cons y m => simp [beqL] at h
  | cons x l => cases m with
    | nil => simp [beqL] at h
    | cons y m =>
      simp only [beqL, Bool.and_eq_true] at h
      rw [AV.beq_eq x y h.1, beqL_eq l m h.2]
end

/-! ### What an operation reads -/
def optL : Option AOpd → List AOpd
  | none => []
  | some x => [x]
def AOp.opds : AOp → List AOpd
  | .mov x | .box x | .load _ x | .nilck x | .un _ x | .conv _ x | .faddr x _ | .fld x _ _ | .ext x _ | .len _ x => [x]
  | .pick c x y => [c, x, y]
  | .build _ ps => ps.map (·.2.2)
  | .bsl _ _ _ _ ps => ps.map (·.2)
  | .store _ x y | .bin _ x y | .eqn _ _ x y | .eqs _ _ x y | .mksl _ _ _ _ x y | .iaddr x y _ _ | .idx x y | .aidx x y _ _ _ | .app x y _ _ _ | .mn x y | .mx x y => [x, y]
  | .mkfn _ ps cs => ps ++ cs
  | .slc _ _ x lo hi => x :: (optL lo ++ optL hi)
  | .call f args => f :: args

theorem fillA_congr {a b : AOpd → AV} : ∀ (qs : List (Nat × Nat × AOpd)) (cs : List AV), (∀ q ∈ qs, a q.2.2 = b q.2.2) → fillA a cs qs = fillA b cs qs
  | [], cs, _ => rfl
  | (o, s, x) :: l, cs, h => by
    have hx : a x = b x := h (o, s, x) (by simp)
    simp only [fillA, hx]
    split
    · exact fillA_congr l _ fun q hq => h q (List.mem_cons_of_mem _ hq)
    · rfl

theorem aop_congr {a b : AOpd → AV} (op : AOp) (S : St) (h : ∀ y ∈ op.opds, a y = b y) : aop op a S = aop op b S := by
  cases op with
  | build z ps => simp only [aop]; rw [fillA_congr ps z fun q hq => h _ (by simp only [AOp.opds, List.mem_map]; exact ⟨q, hq, rfl⟩)]
  | bsl s ag z len ps =>
    simp only [aop]
    rw [fillA_congr _ _ fun q hq => ?_]
    obtain ⟨q', hq', rfl⟩ := List.mem_map.1 hq
    exact h _ (by simp only [AOp.opds, List.mem_map]; exact ⟨q', hq', rfl⟩)
  | mkfn f ps cs => simp only [aop]; rw [List.map_congr_left (l := ps) fun x hx => h x (by simp [AOp.opds, hx]), List.map_congr_left (l := cs) fun x hx => h x (by simp [AOp.opds, hx])]
  | call f args =>
    have hf := h f (by simp [AOp.opds])
    have ha : args.map a = args.map b := List.map_congr_left fun x hx => h x (by simp [AOp.opds, hx])
    simp only [aop, hf, ha]
  | slc st s x lo hi =>
    have hx := h x (by simp [AOp.opds])
    cases st <;> cases lo <;> cases hi <;> simp only [AOp.opds, optL, List.append_nil, List.nil_append, List.cons_append, List.mem_cons, List.not_mem_nil, or_false, forall_eq_or_imp, forall_eq] at h <;> simp only [aop, hx] <;>
      first
      | rfl
      | (rw [h.2.1, h.2.2])
      | (rw [h.2])
  | iaddr x i s n => cases n <;> (simp only [aop]; rw [h x (by simp [AOp.opds]), h i (by simp [AOp.opds])])
  | len st x => cases st <;> (simp only [aop]; rw [h x (by simp [AOp.opds])])
  | un op x => simp only [aop]; rw [h x (by simp [AOp.opds])]
  | pick c x y => simp only [aop]; rw [h c (by simp [AOp.opds]), h x (by simp [AOp.opds]), h y (by simp [AOp.opds])]
  | mov x | box x | load _ x | nilck x | conv _ x | faddr x _ | fld x _ _ | ext x _ => simp only [aop]; rw [h x (by simp [AOp.opds])]
  | store _ x y | bin _ x y | eqn _ _ x y | eqs _ _ x y | mksl _ _ _ _ x y | idx x y | aidx x y _ _ _ | app x y _ _ _ | mn x y | mx x y => simp only [aop]; rw [h x (by simp [AOp.opds]), h y (by simp [AOp.opds])]

theorem evOp_congr {orc : Clr} {a b : List AV} (op : AOp) (S : St) (h : ∀ y ∈ op.opds, evd a y = evd b y) : evOp orc op a S = evOp orc op b S := by
  unfold evOp
  rw [evf_eq, evf_eq, aop_congr op S h]

/-! ### A box that was laid ahead -/
theorem fill_box {G : Gh} {S : St} {w : World} (hI : Inv G S w) {id : Nat} {cs : List AV} {us : Array Value} {T : TypeId} (hb : S.bx[id]? = some cs) (hal : G.al id = none) (h : RelL G cs us) :
    (G.box id w.heap.size).al id = some w.heap.size ∧ Inv (G.box id w.heap.size) S (w.alloc (.cells us T)) ∧ Gro G S w (G.box id w.heap.size) S (w.alloc (.cells us T)) := by
  have hle : G.le (G.box id w.heap.size) := ⟨fun b B hb0 => by
    simp only [Gh.box]; rw [if_neg (by rintro rfl; rw [hal] at hb0; cases hb0)]; exact hb0, fun _ _ _ h => h, fun _ _ _ h => h⟩
  have hold : ∀ b, b < w.heap.size → (w.alloc (.cells us T)).heap[b]? = w.heap[b]? := fun b hb => Below.heap_alloc w _ b hb
  have hid := (List.getElem?_eq_some_iff.1 hb).1
  refine ⟨by simp [Gh.box], ⟨?_, ?_, ?_, ?_, hI.dtb, ?_, hI.injT, ?_⟩, ⟨hle, rfl, rfl, rfl, by simp, fun B hB _ => ⟨hold B hB, fun _ => rfl⟩, ?_⟩⟩
  · intro b B cs' hb' hcs
    simp only [Gh.box] at hb'
    split at hb'
    · rename_i hbn
      subst hbn
      cases hb'
      rw [hb] at hcs; cases hcs
      exact .inr ⟨us, T, heap_alloc_new w _, h.1, fun i x u h1 h2 => (h.2 i x u h1 h2).mono hle, hI.fznew⟩
    · have hd := hI.dal b B hb'
      rcases hI.box b B cs' hb' hcs with h0 | ⟨us', T', k1, k2, k3, k4⟩
      · exact .inl h0
      · exact .inr ⟨us', T', by rw [hold B hd.2]; exact k1, k2, fun i x u h1 h2 => (k3 i x u h1 h2).mono hle, k4⟩
  · intro t n s0 B s c h1 h2
    obtain ⟨k1, ⟨us', T', k2, k3⟩, k4⟩ := hI.tok t n s0 B s c h1 h2
    exact ⟨k1, ⟨us', T', by rw [hold B (hI.toklt h1 h2)]; exact k2, k3⟩, k4⟩
  · intro b o u hf
    rw [cell_of_heap (hold b (hI.fzlt hf))]
    exact hI.fz b o u hf
  · intro b B hb'
    simp only [Gh.box] at hb'
    split at hb'
    · rename_i hbn; subst hbn; cases hb'; exact ⟨hid, by simp⟩
    · have := hI.dal b B hb'; simp; omega
  · intro b b' B h1 h2
    simp only [Gh.box] at h1 h2
    split at h1 <;> split at h2
    · omega
    · cases h1; have := hI.dal _ _ h2; omega
    · cases h2; have := hI.dal _ _ h1; omega
    · exact hI.injA _ _ _ h1 h2
  · intro b B t n s0 s c h1 h2 h3
    simp only [Gh.box] at h1
    split at h1
    · cases h1; have := hI.toklt h2 h3; omega
    · exact hI.sep b B t n s0 s c h1 h2 h3
  · rintro B (⟨b, hb'⟩ | ⟨t, n, s0, s, c, h1, h2⟩)
    · simp only [Gh.box] at hb'
      split at hb'
      · cases hb'; exact .inr (Nat.le_refl _)
      · exact .inl (.inl ⟨b, hb'⟩)
    · exact .inl (.inr ⟨t, n, s0, s, c, h1, h2⟩)

/-- Boxes and tokens laid ahead: nothing stands for them yet. -/
theorem add_ahead {G : Gh} {S : St} {w : World} (hI : Inv G S w) (l : List (List AV)) (k : List (Nat × Nat)) : Inv G ⟨S.bx ++ l, S.lv ++ k⟩ w ∧ Gro G S w G ⟨S.bx ++ l, S.lv ++ k⟩ w ∧ (∀ b, S.bx.length ≤ b → G.al b = none) ∧ ∀ t n, S.lv.length ≤ t → G.tb t n = none := by
  have ha : ∀ b B, G.al b = some B → b < S.bx.length := fun b B h => (hI.dal b B h).1
  have ht : ∀ t n v, G.tb t n = some v → t < S.lv.length := fun t n v h => by
    obtain ⟨m, s, h1, _⟩ := hI.dtb t n v h
    exact (List.getElem?_eq_some_iff.1 h1).1
  have hlv : ∀ t n m v, (S.lv ++ k)[t]? = some m → G.tb t n = some v → S.lv[t]? = some m := fun t n m v h1 h2 => by
    rwa [List.getElem?_append_left (ht t n v h2)] at h1
  refine ⟨⟨?_, ?_, hI.fz, ?_, ?_, hI.injA, ?_, ?_⟩, ⟨.refl G, rfl, rfl, rfl, Nat.le_refl _, fun B _ _ => ⟨rfl, fun _ => rfl⟩, ?_⟩, ?_, ?_⟩
  · intro b B cs h1 h2
    rw [List.getElem?_append_left (ha b B h1)] at h2
    exact hI.box b B cs h1 h2
  · intro t n s0 B s c h1 h2
    exact hI.tok t n s0 B s c (hlv t n _ _ h1 h2) h2
  · intro b B h
    have := hI.dal b B h
    exact ⟨by simp; omega, this.2⟩
  · intro t n v h
    obtain ⟨m, s, h1, h2⟩ := hI.dtb t n v h
    exact ⟨m, s, by rw [List.getElem?_append_left (ht t n v h)]; exact h1, h2⟩
  · intro t t' n n' s0 s0' B s s' c c' h1 h2 h3 h4
    exact hI.injT t t' n n' s0 s0' B s s' c c' (hlv t n _ _ h1 h3) (hlv t' n' _ _ h2 h4) h3 h4
  · intro b B t n s0 s c h1 h2 h3
    exact hI.sep b B t n s0 s c h1 (hlv t n _ _ h2 h3) h3
  · rintro B (⟨b, hb⟩ | ⟨t, n, s0, s, c, h1, h2⟩)
    · exact .inl (.inl ⟨b, hb⟩)
    · exact .inl (.inr ⟨t, n, s0, s, c, hlv t n _ _ h1 h2, h2⟩)
  · intro b hb
    cases h : G.al b with
    | none => rfl
    | some B => have := ha b B h; omega
  · intro t n htl
    cases h : G.tb t n with
    | none => rfl
    | some v => have := ht t n v h; omega
end Go.Proofs.Ytncaneioenanjaa
