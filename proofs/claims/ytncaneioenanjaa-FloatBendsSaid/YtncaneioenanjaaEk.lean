/- The engine, part 11: rules for code. Own work; imports no translation. -/
import Derived.Test.YtncaneioenanjaaEj
namespace Go.Proofs.Ytncaneioenanjaa
open Go.RowKit
set_option linter.unusedVariables false
set_option linter.unusedSimpArgs false

/-- How a piece of code is left. -/
inductive AEx where
  | norm
  | ex (id : Nat)
  | ret
  deriving DecidableEq, Repr, Inhabited
def AEx.out : AEx → Exit
  | .norm => .normal
  | .ex id => .exit id
  | .ret => .ret

def Post (x : AEx) (a' : List AV) (S' : St) (G : Gh) (S : St) (act : Act) (w : World) : Exit → Act → World → Prop :=
  fun e act' w' => e = x.out ∧ ∃ G', Inv G' S' w' ∧ Rel G' a' act' ∧ Gro G S w G' S' w' ∧ Keep G S G' S' ∧ act'.defers = act.defers

/-- From slots a and state S the code comes to a' and S', and is left so: wherever it runs. -/
def Run (md : Md) (P : Program) (c : Code) (a : List AV) (S : St) (x : AEx) (a' : List AV) (S' : St) : Prop :=
  ∀ (G : Gh) (act : Act) (w : World), Inv G S w → Rel G a act → cwp md P c (Post x a' S' G S act w) act w

theorem post_out {x : AEx} {a' : List AV} {S S' : St} {G : Gh} {act : Act} {w : World} (a : Act) (w' : World) : ¬ Post x a' S' G S act w .outgrown a w' := by
  rintro ⟨h, _⟩
  cases x <;> simp [AEx.out] at h

theorem post_trans {x : AEx} {a' : List AV} {S S1 S' : St} {G G1 : Gh} {act act1 : Act} {w w1 : World} (hg : Gro G S w G1 S1 w1) (hk : Keep G S G1 S1) (hd : act1.defers = act.defers) {e : Exit} {act2 : Act} {w2 : World} (h : Post x a' S' G1 S1 act1 w1 e act2 w2) : Post x a' S' G S act w e act2 w2 := by
  obtain ⟨he, G2, h1, h2, h3, h5, h4⟩ := h
  exact ⟨he, G2, h1, h2, hg.trans h3, hk.trans h5, h4.trans hd⟩

/-- The rounds of a loop. -/
inductive Chain (md : Md) (P : Program) (c : Code) : Nat → List AV → St → AEx → List AV → St → Prop
  | last {a : List AV} {S : St} {x : AEx} {a' : List AV} {S' : St} (h : Run md P c a S x a' S') (hx : x ≠ .norm) : Chain md P c 0 a S x a' S'
  | step {n : Nat} {a : List AV} {S : St} {a1 : List AV} {S1 : St} {x : AEx} {a' : List AV} {S' : St} (h : Run md P c a S .norm a1 S1) (k : Chain md P c n a1 S1 x a' S') : Chain md P c (n + 1) a S x a' S'

section rules
variable {md : Md} {P : Program} {a a1 a' : List AV} {S S1 S' : St} {x : AEx}

theorem Run.skip : Run md P .skip a S .norm a S := fun G act w hI hR => cwp_skip ⟨rfl, G, hI, hR, .refl _ _ _, .refl _ _, rfl⟩
theorem Run.label {l : Nat} : Run md P (.label l) a S .norm a S := fun G act w hI hR => cwp_label ⟨rfl, G, hI, hR, .refl _ _ _, .refl _ _, rfl⟩
theorem Run.exit {id : Nat} : Run md P (.exit id) a S (.ex id) a S := fun G act w hI hR => cwp_exit ⟨rfl, G, hI, hR, .refl _ _ _, .refl _ _, rfl⟩
theorem Run.ret : Run md P .ret a S .ret a S := fun G act w hI hR => cwp_ret ⟨rfl, G, hI, hR, .refl _ _ _, .refl _ _, rfl⟩

theorem Run.seq {c d : Code} (h : Run md P c a S .norm a1 S1) (k : Run md P d a1 S1 x a' S') : Run md P (.seq c d) a S x a' S' := by
  intro G act w hI hR
  refine cwp_seq (cwp_mono (h G act w hI hR) ?_)
  rintro e act1 w1 ⟨rfl, G1, hI1, hR1, hg, hk, hd⟩
  show cwp md P d (Post x a' S' G S act w) act1 w1
  exact cwp_mono (k G1 act1 w1 hI1 hR1) fun e act2 w2 hp => post_trans hg hk hd hp
theorem Run.seq_left {c d : Code} (h : Run md P c a S x a' S') (hx : x ≠ .norm) : Run md P (.seq c d) a S x a' S' := by
  intro G act w hI hR
  refine cwp_seq (cwp_mono (h G act w hI hR) ?_)
  rintro e act1 w1 ⟨rfl, G1, hI1, hR1, hg, hk, hd⟩
  cases x with
  | norm => exact absurd rfl hx
  | ex id => exact ⟨rfl, G1, hI1, hR1, hg, hk, hd⟩
  | ret => exact ⟨rfl, G1, hI1, hR1, hg, hk, hd⟩
theorem Run.cond {c : Operand} {c' : AOpd} {t : Bool} {d e : Code} (hc : compOpd c = some c') (ht : evd a c' = .bool t) (h : Run md P (if t then d else e) a S x a' S') : Run md P (.cond c d e) a S x a' S' := by
  intro G act w hI hR
  have := hR.opd c c' hc
  rw [ht] at this
  exact cwp_cond this.inv_bool (h G act w hI hR)
theorem Run.block {id : Nat} {c : Code} (h : Run md P c a S x a' S') : Run md P (.block id c) a S (if x = .ex id then .norm else x) a' S' := by
  intro G act w hI hR
  refine cwp_block (cwp_mono (h G act w hI hR) ?_)
  rintro e act1 w1 ⟨rfl, hrest⟩
  cases x with
  | norm => exact ⟨rfl, hrest⟩
  | ret => exact ⟨rfl, hrest⟩
  | ex i =>
    simp only [AEx.out, Exit.inBlock, AEx.ex.injEq]
    by_cases hi : i = id
    · rw [if_pos hi, if_pos hi]; exact ⟨rfl, hrest⟩
    · rw [if_neg hi, if_neg hi]; exact ⟨rfl, hrest⟩

theorem least {p : Nat → Prop} (h : ∃ n, p n) : ∃ n, p n ∧ ∀ m, m < n → ¬ p m := by
  obtain ⟨n, hn⟩ := h
  induction n using Nat.strongRecOn with
  | ind n ih =>
    by_cases hex : ∃ m, m < n ∧ p m
    · obtain ⟨m, hm, hp⟩ := hex; exact ih m hm hp
    · exact ⟨n, hn, fun m hm hp => hex ⟨m, hm, hp⟩⟩

open Classical in
noncomputable def leastOf' (p : Nat → Prop) : Nat := if h : ∃ n, p n then Classical.choose (least h) else 0
theorem leastOf_spec {p : Nat → Prop} (h : ∃ n, p n) : p (leastOf' p) ∧ ∀ m, p m → leastOf' p ≤ m := by
  have hs := Classical.choose_spec (least h)
  unfold leastOf'
  rw [dif_pos h]
  exact ⟨hs.1, fun m hm => Nat.le_of_not_lt fun hlt => hs.2 m hlt hm⟩

theorem Run.loop {c : Code} {n : Nat} (h : Chain md P c n a S x a' S') : Run md P (.loop c) a S x a' S' := by
  intro G act w hI hR
  let I0 : Nat → Act → World → Prop := fun n act1 w1 => ∃ a1 S1 G1, Chain md P c n a1 S1 x a' S' ∧ Inv G1 S1 w1 ∧ Rel G1 a1 act1 ∧ Gro G S w G1 S1 w1 ∧ Keep G S G1 S1 ∧ act1.defers = act.defers
  refine cwp_loop (fun act1 w1 => ∃ n, I0 n act1 w1) (fun act1 w1 => leastOf' fun n => I0 n act1 w1) ⟨n, a, S, G, h, hI, hR, .refl _ _ _, .refl _ _, rfl⟩ ?_
  intro act1 w1 hex
  obtain ⟨⟨a1, S1, G1, hch, hI1, hR1, hg1, hk1, hd1⟩, hmin⟩ := leastOf_spec hex
  generalize hm : (leastOf' fun n => I0 n act1 w1) = m at hch hmin
  cases hch with
  | last hr hx =>
    refine cwp_mono (hr G1 act1 w1 hI1 hR1) ?_
    intro e act2 w2 hp
    have hp' := post_trans hg1 hk1 hd1 hp
    obtain ⟨he, _⟩ := hp
    subst he
    cases x with
    | norm => exact absurd rfl hx
    | ex id => exact hp'
    | ret => exact hp'
  | @step n' _ _ a2 S2 _ _ _ hr hk =>
    refine cwp_mono (hr G1 act1 w1 hI1 hR1) ?_
    rintro e act2 w2 ⟨rfl, G2, hI2, hR2, hg2, hk2, hd2⟩
    have hi : I0 n' act2 w2 := ⟨a2, S2, G2, hk, hI2, hR2, hg1.trans hg2, hk1.trans hk2, hd2.trans hd1⟩
    refine ⟨⟨n', hi⟩, ?_⟩
    have := (leastOf_spec (p := fun n => I0 n act2 w2) ⟨n', hi⟩).2 n' hi
    exact Nat.lt_succ_of_le this

theorem Run.region {orc : Clr} (ho : ClrOk P orc) {id : Nat} {ops : Array Oper} {xs : List AOper} (hnd : noDefer ops = true) (hc : ops.toList.mapM (compOper P ops) = some xs) (he : evOps orc xs a S = some (a', S')) : Run md P (.region id ops false) a S .norm a' S' := by
  intro G act w hI hR
  refine cwp_region hnd post_out ?_
  have hl := wpOps_eq_wpList (P := P) (ops := ops) (Q := Post .norm a' S' G S act w) ops.toList 0 (fun j => by simp)
  rw [Array.length_toList, ← List.range_eq_range'] at hl
  rw [hl]
  exact evOps_wp ho _ xs a a' S S' hc he G act w hI hR fun G' act' w' h1 h2 h3 h4 h5 => ⟨rfl, G', h1, h2, h3, h4, h5⟩
end rules

end Go.Proofs.Ytncaneioenanjaa
