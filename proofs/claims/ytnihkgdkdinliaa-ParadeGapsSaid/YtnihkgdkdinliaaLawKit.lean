/- What all laws on made schools keep, and the frame of their proofs. Own work. -/
import Derived.Test.YtnihkgdkdinliaaStartsOf
import Derived.Test.YtnihkgdkdinliaaAwake
import Derived.Test.YtnihkgdkdinliaaGapP
import Derived.OpenShut
import Derived.ShutString
import Derived.ChangeOld
namespace Go.Proofs.Ytnihkgdkdinliaa
open Go.RowKit Go.ChangeShapes Go.WideShapes Go.ChangeAt
set_option linter.unusedVariables false
set_option linter.unusedSimpArgs false

theorem front_succ (ws : List Wg) (sts ps : List Int) (t : Int) (i : Nat) : front ws sts ps t (i + 1) = min (gI ps (i + 1) * (t - gI sts (i + 1))) (front ws sts ps t i - (gW ws i).len) := rfl

/-- A drum, a school in its box, and its wings. -/
structure LK (d q : Nat) (r : Int) (A : Option Addr) (c : Nat) (ws : List Wg) (w0 w : World) : Prop where
  dr : Dr w d
  box : Bx w q 24 #[I r, .slice A ws.length c]
  wings : SlW w 29 A ws
  below : Below w0.heap.size w0 w
  dn : w0.heap.size ≤ d
  qn : w0.heap.size ≤ q

/-- The school and its starts are valid, and small. -/
structure LV (r : Int) (c : Nat) (ws : List Wg) (sts : List Int) (cb : Nat) : Prop where
  made : MadeWs ws
  r1 : 1 ≤ r
  r2 : r ≤ 2000
  n1 : 1 ≤ ws.length
  n2 : ws.length ≤ 8
  cap : ws.length ≤ c
  len : sts.length = ws.length
  capb : sts.length ≤ cb
  ok : cst r ws sts = 0
  st : StM ws sts sts.length

section
variable {d q : Nat} {r : Int} {A : Option Addr} {c : Nat} {ws : List Wg} {w0 w w' : World}
theorem LK.kp (h : LK d q r A c ws w0 w) (hk : w.grownBy w' (some d)) (hd : Dr w' d) : LK d q r A c ws w0 w' :=
  ⟨hd, h.box.kp hk (bx_ne h.box h.dr (by decide)), h.wings.kp h.dr hk (by decide), below_of_kp h.below hk h.dn h.below.size, h.dn, h.qn⟩
theorem LK.grow (h : LK d q r A c ws w0 w) (hb : Below w.heap.size w w') : LK d q r A c ws w0 w' :=
  ⟨h.dr.below hb h.dr.lt, h.box.below hb h.box.lt, h.wings.below hb (Nat.le_refl _), h.below.trans (hb.mono h.below.size), h.dn, h.qn⟩
theorem LK.alloc (h : LK d q r A c ws w0 w) (o : Obj) : LK d q r A c ws w0 (w.alloc o) := h.grow ((Below.refl _ _).alloc (Nat.le_refl _) o)
theorem LK.drew (h : LK d q r A c ws w0 w) : LK d q r A c ws w0 w.drew := h.grow (Below.refl _ _).drew
end

theorem LV.val {r : Int} {c : Nat} {ws : List Wg} {sts : List Int} {cb : Nat} (h : LV r c ws sts cb) : VSt r ws sts := cst_val h.ok
theorem LV.fit {r : Int} {c : Nat} {ws : List Wg} {sts : List Int} {cb : Nat} (h : LV r c ws sts cb) : Fit ws := by
  intro g hg
  obtain ⟨k, hk, rfl⟩ := List.getElem_of_mem hg
  rw [(h.made k hk).1]
  have hs : ∀ k, k < 8 → (wname k).size ≤ 8 := by decide
  have := hs k (by have := h.n2; omega)
  unfold maxLen; omega
theorem LV.max {r : Int} {c : Nat} {ws : List Wg} {sts : List Int} {cb : Nat} (h : LV r c ws sts cb) : ws.length ≤ maxLen ∧ sts.length ≤ maxLen := by
  have := h.n2; have := h.len; unfold maxLen; omega
theorem LV.start {r : Int} {c : Nat} {ws : List Wg} {sts : List Int} {cb : Nat} (h : LV r c ws sts cb) {k : Nat} (hk : k < ws.length) : 0 ≤ gI sts k ∧ gI sts k ≤ 5600 := by
  have := h.st k (by have := h.len; omega); have := h.n2; omega

section
variable {r : Int} {c : Nat} {ws : List Wg} {sts : List Int} {cb : Nat} {k : Nat} {t : Int}
theorem LV.mom (h : LV r c ws sts cb) (hk : k < ws.length) (h1 : gI sts k ≤ t) (h2 : t ≤ 100000) : mom r ws sts k t = 0 :=
  mom_ok (wngE_ok h.ok (by omega)) (by omega) (by omega)
theorem LV.whLo (h : LV r c ws sts cb) (hk : k < ws.length) (h1 : gI sts k ≤ t) (h2 : t ≤ 100000) : whLo r ws sts k t = front ws sts (los ws) t k := by
  unfold Go.Proofs.Ytnihkgdkdinliaa.whLo; rw [if_pos (h.mom hk h1 h2), Int.toNat_natCast]
theorem LV.whHi (h : LV r c ws sts cb) (hk : k < ws.length) (h1 : gI sts k ≤ t) (h2 : t ≤ 100000) : whHi r ws sts k t = front ws sts (his ws) t k := by
  unfold Go.Proofs.Ytnihkgdkdinliaa.whHi; rw [if_pos (h.mom hk h1 h2), Int.toNat_natCast]
theorem LV.paE (h : LV r c ws sts cb) (hk : k < ws.length) (h1 : 0 ≤ t) (h2 : t ≤ 100000) : paE r ws sts k t = 0 := paE_ok (wngE_ok h.ok (by omega)) ⟨h1, h2⟩
theorem LV.paLo (h : LV r c ws sts cb) (hk : k < ws.length) (h1 : 0 ≤ t) (h2 : t ≤ 100000) : paLo r ws sts k t = passed ws sts (his ws) k t := by
  unfold Go.Proofs.Ytnihkgdkdinliaa.paLo; rw [if_pos (h.paE hk h1 h2), Int.toNat_natCast]
theorem LV.paHi (h : LV r c ws sts cb) (hk : k < ws.length) (h1 : 0 ≤ t) (h2 : t ≤ 100000) : paHi r ws sts k t = passed ws sts (los ws) k t := by
  unfold Go.Proofs.Ytnihkgdkdinliaa.paHi; rw [if_pos (h.paE hk h1 h2), Int.toNat_natCast]
theorem LV.gaE (h : LV r c ws sts cb) (hk : k < ws.length) (h0 : k ≠ 0) (h1 : gI sts k ≤ t) (h2 : t ≤ 100000) : gaE r ws sts k t = 0 := gaE_ok (h.mom hk h1 h2) (by omega)
theorem LV.gaLo (h : LV r c ws sts cb) (hk : k < ws.length) (h0 : k ≠ 0) (h1 : gI sts k ≤ t) (h2 : t ≤ 100000) : gaLo r ws sts k t = gapF ws sts (los ws) (gW ws k).hi t k := by
  unfold Go.Proofs.Ytnihkgdkdinliaa.gaLo; rw [if_pos (h.gaE hk h0 h1 h2), Int.toNat_natCast]
theorem LV.gaHi (h : LV r c ws sts cb) (hk : k < ws.length) (h0 : k ≠ 0) (h1 : gI sts k ≤ t) (h2 : t ≤ 100000) : gaHi r ws sts k t = gapF ws sts (his ws) (gW ws k).lo t k := by
  unfold Go.Proofs.Ytnihkgdkdinliaa.gaHi; rw [if_pos (h.gaE hk h0 h1 h2), Int.toNat_natCast]

/-- How far a front can be. -/
theorem LV.fbd (h : LV r c ws sts cb) (hk : k < ws.length) (ht : gI sts k ≤ t) (h2 : t ≤ 100000) :
    0 ≤ front ws sts (los ws) t k ∧ front ws sts (los ws) t k ≤ 2000000000000 ∧ 0 ≤ front ws sts (his ws) t k ∧ front ws sts (his ws) t k ≤ 2000000000000 := by
  have hv := h.val
  have hl := h.len
  have h0 := h.start hk
  have e1 := hv.front0 hk ht (ps := los ws) fun j hj => Int.le_refl _
  have e2 := hv.front0 hk ht (ps := his ws) fun j hj => (hv.los1 (by omega)).2.1
  have s1 := hv.smLo (i := k) hk (by omega) fun j hj => hv.bd j (by omega)
  have s2 := hv.smHi (i := k) hk (by omega) fun j hj => hv.bd j (by omega)
  have b1 := front_bd s1 (t := t) (by omega) (by omega) k (Nat.le_refl _)
  have b2 := front_bd s2 (t := t) (by omega) (by omega) k (Nat.le_refl _)
  omega
end

theorem prog_own : ownKnob Try.prog.godebug = none := by kernel_rfl
theorem prog_laid : laidOutB Try.prog = true := by kernel_rfl

/-- Cells that are known are a slice's. -/
theorem sl_of_cells {w : World} {a : Addr} {xs : List Value} (h : ∀ i u, xs[i]? = some u → w.cell? (a.add i) = some u) : ∃ T, Sl w T (some a) xs := by
  cases xs with
  | nil => exact ⟨0, .inl rfl⟩
  | cons x l =>
    have h0 := h 0 x rfl
    have e0 : a.add 0 = a := by simp [Addr.add]
    rw [e0] at h0
    obtain ⟨b, o, sp⟩ := a
    unfold World.cell? at h0
    simp only [] at h0
    split at h0
    · rename_i cs T fz hh
      cases sp with
      | some s => simp at h0
      | none =>
        refine ⟨T, .inr ⟨b, o, cs, fz, rfl, hh, fun j u hu => ?_⟩⟩
        have hj := h j u hu
        have ej : ((⟨b, o, none⟩ : Addr).add j) = ⟨b, o + j, none⟩ := by unfold Addr.add; split <;> simp_all
        rw [ej] at hj
        simpa [World.cell?, hh] using hj
    · cases h0

/-- A slice of numbers that came in. -/
theorem ints_sl {H : Type} {enc : TypeId × Value → H} {W : World} {base : Nat} {held : Bool} {a : Option Addr} {len cap : Nat} {d : DataW H} {p : List MemPlace}
    (h : DataW.Trod enc Try.prog W base (fun _ => true) held 25 (.slice a len cap) d p) : ∃ (T : TypeId) (zs : List Int), len = zs.length ∧ SlI W T a zs ∧ zs.length ≤ maxLen := by
  obtain ⟨fuel, hf⟩ := h
  rcases open_ints Try.underlying25 Try.underlying3 (by kernel_rfl) hf with ⟨hcs, _⟩ | ⟨x, l, c, zs, hcs, _, hl, hm, hz, _, hcell, hwz⟩
  · simp [Value.cells] at hcs
    obtain ⟨rfl, rfl, rfl⟩ := hcs
    exact ⟨0, [], rfl, .inl rfl, by simp⟩
  · simp [Value.cells] at hcs
    obtain ⟨rfl, rfl, rfl⟩ := hcs
    simp at hz
    have hlen : (zs.take len).length = len := by simp; omega
    obtain ⟨T, hT⟩ := sl_of_cells (w := W) (a := x) (xs := (zs.take len).map I) fun i u hu => by
      have hi : i < len := by
        have := (List.getElem?_eq_some_iff.1 hu).1
        simp at this
        omega
      rw [hcell i (by omega)]
      rw [List.getElem?_map, List.getElem?_take, if_pos hi] at hu
      rw [List.getD_eq_getElem?_getD]
      cases hzi : zs[i]? with
      | none => rw [hzi] at hu; cases hu
      | some y => rw [hzi] at hu; simpa using hu
    exact ⟨T, zs.take len, hlen.symm, hT, by rw [hlen]; omega⟩

/-- What the walk of a law on one list of numbers comes to. -/
def LawPost (w : World) (e : Ending) (w' : World) : Prop := e = .returned (.bool true) ∧ Below w.heap.size w w'
end Go.Proofs.Ytnihkgdkdinliaa
