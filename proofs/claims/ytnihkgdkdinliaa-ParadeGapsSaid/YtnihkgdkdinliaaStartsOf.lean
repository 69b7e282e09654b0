/- StartsOf: valid starts come of any drum. Own work. -/
import Derived.Test.YtnihkgdkdinliaaSchool
import Derived.Test.YtnihkgdkdinliaaStarts
import Derived.Test.YtnihkgdkdinliaaTheory
import Derived.Test.YtnihkgdkdinliaaWhere
import Derived.Test.YtnihkgdkdinliaaRefA
namespace Go.Proofs.Ytnihkgdkdinliaa
open Go.RowKit
set_option linter.unusedVariables false
set_option linter.unusedSimpArgs false

theorem wname_ne : ∀ j k, j < k → k < 8 → ((wname j).toList == (wname k).toList) = false := by
  intro j k hj hk
  have h : ∀ k, k < 8 → ∀ j, j < k → ((wname j).toList == (wname k).toList) = false := by decide +kernel
  exact h k hk j hj

theorem wname_nm : ∀ k, k < 8 → nmB (wname k) = true := by decide +kernel

theorem MadeWs.at_ {ws : List Wg} (h : MadeWs ws) {k : Nat} (hk : k < ws.length) : MadeW k (gW ws k) := by
  rw [gW_lt hk]; exact h k hk

theorem made_val {r : Int} {ws : List Wg} (h : MadeWs ws) (h1 : 1 ≤ r) (h2 : r ≤ 2000) (h3 : 1 ≤ ws.length) (h4 : ws.length ≤ 8) : Val r ws where
  r1 := h1
  r2 := by omega
  n1 := h3
  n2 := h4
  all := fun k hk => by
    obtain ⟨a0, a1, a2, a3, a4, a5, a6⟩ := h.at_ hk
    refine ⟨by rw [a0]; exact wname_nm k (by omega), ?_⟩
    omega

theorem made_chk {r : Int} {ws : List Wg} (h : MadeWs ws) (h1 : 1 ≤ r) (h2 : r ≤ 2000) (h3 : 1 ≤ ws.length) (h4 : ws.length ≤ 8) : chk r ws = 0 :=
  chk_of (made_val h h1 h2 h3 h4) fun j k hj hk => by
    rw [(h.at_ (show j < ws.length by omega)).1, (h.at_ hk).1]
    exact wname_ne j k hj (by omega)

/-- Starts that were made so far. -/
def StM (ws : List Wg) (sts : List Int) (n : Nat) : Prop := ∀ j, j < n → leastOf ws sts j ≤ gI sts j ∧ 0 ≤ gI sts j ∧ gI sts j ≤ 700 * ((j : Int) + 1)

theorem StM.least {r : Int} {ws : List Wg} {sts : List Int} {k : Nat} (hm : MadeWs ws) (hv : Val r ws) (h : StM ws sts k) (hk : k < ws.length) : 0 ≤ leastOf ws sts k ∧ leastOf ws sts k ≤ 700 * (k : Int) + 600 := by
  have h8 := hv.n2
  cases k with
  | zero => exact ⟨Int.le_refl _, by show (0 : Int) ≤ _; omega⟩
  | succ i =>
    show 0 ≤ passed ws sts (los ws) i (gW ws i).len ∧ passed ws sts (los ws) i (gW ws i).len ≤ _
    obtain ⟨_, b1, b2, b3, b4, b5, b6⟩ := hm.at_ (show i < ws.length by omega)
    have := passed_bd (ws := ws) (sts := sts) (ps := los ws) (S := 700 * ((i : Int) + 1)) (D := 80) (place := (gW ws i).len) (i := i) (fun j hj => by
      obtain ⟨_, c1, c2, c3, c4, c5, c6⟩ := hm.at_ (show j < ws.length by omega)
      have := h j (by omega)
      rw [gI_los _ _ (by omega)]
      omega) (by omega) (by omega)
    have := h i (by omega)
    omega

theorem gI_app {acc : List Int} {x : Int} {k : Nat} (hk : k < acc.length) : gI (acc ++ [x]) k = gI acc k := by simp [gI, List.getElem?_append_left hk]
theorem gI_end {acc : List Int} {x : Int} : gI (acc ++ [x]) acc.length = x := by simp [gI]

theorem leastOf_app {ws : List Wg} {acc : List Int} {x : Int} {k : Nat} (hk : k ≤ acc.length) : leastOf ws (acc ++ [x]) k = leastOf ws acc k := by
  cases k with
  | zero => rfl
  | succ i => exact passed_sts _ _ fun j hj => gI_app (by omega)

theorem StM.snoc {ws : List Wg} {sts : List Int} {x : Int} (h : StM ws sts sts.length) (h1 : leastOf ws sts sts.length ≤ x) (h2 : 0 ≤ x) (h3 : x ≤ 700 * ((sts.length : Int) + 1)) : StM ws (sts ++ [x]) (sts.length + 1) := by
  intro j hj
  by_cases hjl : j < sts.length
  · rw [gI_app hjl, leastOf_app (by omega)]; exact h j hjl
  · obtain rfl : j = sts.length := by omega
    rw [gI_end, leastOf_app (Nat.le_refl _)]
    exact ⟨h1, h2, h3⟩

theorem StM.cst {r : Int} {ws : List Wg} {sts : List Int} (h : StM ws sts sts.length) (hc : chk r ws = 0) (hl : sts.length = ws.length) (h8 : ws.length ≤ 8) : cst r ws sts = 0 :=
  cst_of hc hl fun j hj => by have := h j hj; omega

def StartsPost (d : Nat) (r : Int) (ws : List Wg) (w : World) (e : Ending) (w' : World) : Prop :=
  ∃ (B : Option Addr) (c : Nat) (sts : List Int), e = .returned (.slice B sts.length c) ∧ SlI w' 3 B sts ∧ sts.length ≤ c ∧ Dr w' d ∧ w.grownBy w' (some d) ∧ sts.length = ws.length ∧ cst r ws sts = 0 ∧ StM ws sts sts.length

/-- A slice stays where another one of another type has grown. -/
theorem sl_own {w w' : World} {T e : TypeId} {A : Option Addr} {xs ys : List Value} {base size n : Nat} {v : Value} (h : Sl w T A xs) (ho : w.ownsRow base e size v n ys) (hk : w.grownBy w' v.ownBlock) (hne : T ≠ e) : Sl w' T A xs := by
  rcases h with h | ⟨b, o, cs, fz, hA, hh, hc⟩
  · exact .inl h
  · refine .inr ⟨b, o, cs, fz, hA, ?_, hc⟩
    rw [hk.block b (lt_of_heap hh), hh]
    intro he
    rcases ho.2 with ⟨rfl, _⟩ | ⟨g, cap, cur, rfl, _, hg, _⟩
    · simp [Value.ownBlock] at he
    · have : b = g := by simpa [Value.ownBlock] using he
      subst this
      rw [hg] at hh
      injection hh with hh
      injection hh with _ ht
      exact hne ht.symm

/-- What holds while starts are made. -/
def SO (d q0 : Nat) (r : Int) (A : Option Addr) (n c : Nat) (ws : List Wg) (V : Value) (k : Nat) (xs : List Value) (w0 w : World) : Prop :=
  Dr w d ∧ Bx w q0 24 #[I r, .slice A n c] ∧ SlW w 29 A ws ∧ w.ownsRow w0.heap.size 3 1 V k xs ∧ w0.grownBy w (some d)
theorem SO.kp {d q0 n c k : Nat} {r : Int} {A : Option Addr} {ws : List Wg} {V : Value} {xs : List Value} {w0 w w' : World} (h : SO d q0 r A n c ws V k xs w0 w) (hk : w.grownBy w' (some d)) (hd : Dr w' d) : SO d q0 r A n c ws V k xs w0 w' :=
  ⟨hd, h.2.1.kp hk (bx_ne h.2.1 h.1 (by decide)), h.2.2.1.kp h.1 hk (by decide), own_kp h.2.2.2.1 h.1 hk (by decide), kp_trans h.2.2.2.2 hk⟩
theorem SO.below {d q0 n c k : Nat} {r : Int} {A : Option Addr} {ws : List Wg} {V : Value} {xs : List Value} {w0 w w' : World} (h : SO d q0 r A n c ws V k xs w0 w) (hb : Below w.heap.size w w') : SO d q0 r A n c ws V k xs w0 w' :=
  h.kp (kp_of_below hb (Nat.le_refl _)) (h.1.below hb h.1.lt)
theorem SO.alloc {d q0 n c k : Nat} {r : Int} {A : Option Addr} {ws : List Wg} {V : Value} {xs : List Value} {w0 w : World} (h : SO d q0 r A n c ws V k xs w0 w) (o : Obj) : SO d q0 r A n c ws V k xs w0 (w.alloc o) :=
  h.below ((Below.refl w.heap.size w).alloc (Nat.le_refl _) o)

set_option maxRecDepth 100000 in
set_option maxHeartbeats 1000000 in
theorem startsOf_c (d : Nat) (r : Int) (A : Option Addr) (c : Nat) (ws : List Wg) (w : World) (hd : Dr w d) (h1 : SlW w 29 A ws) (hm : MadeWs ws) (hc0 : chk r ws = 0) :
    Calls Try.prog 17 #[.pointer (some ⟨d, 0, none⟩), .agg #[I r, .slice A ws.length c]] w (StartsPost d r ws w) := by
  have hval := chk_val hc0
  have h8 := hval.n2
  have hlt := hd.lt
  have hb0 := Bx.new w 24 #[I r, .slice A ws.length c]
  go_enter Try.func17, Try.ntmps17
  go_wp2_with fail
  go_loopw [5, 6] (fun v i wr => ∃ (sts : List Int), i = .int .i64 sts.length ∧ sts.length ≤ ws.length ∧ StM ws sts sts.length ∧ SO d w.heap.size r A ws.length c ws v sts.length (sts.map I) w wr) (fun _ i _ => ws.length - (intOf i).toNat)
  case atStart => exact ⟨[], rfl, Nat.zero_le _, fun j hj => absurd hj (by simp), hd.alloc _, hb0, h1.alloc _, World.ownsRow_nil _ _ _ _, World.grownBy_alloc _ _ _⟩
  case round =>
    obtain ⟨sts, rfl, hk, hst, hso⟩ := hrel
    obtain ⟨B, cb, rfl, hB, hcap⟩ := Sl.ofOwn2 hso.2.2.2.1
    by_cases hlt' : sts.length < ws.length
    · have hcb := hso.2.1.cell
      have hle := hst.least hm hval hlt'
      have hsm : ∀ i, sts.length = i + 1 → Sm ws sts (los ws) i := fun i hi => hval.smLo (by omega) (by omega) fun j hj => by have := hst j (by omega); omega
      go_wp2_with fail
      refine (leastOf_c r A B c cb ws sts sts.length 29 3 _ hso.2.2.1 hB hsm (by omega) (by unfold maxLen; omega)).mono ?_
      rintro e w4 ⟨rfl, hbel4⟩
      have hso4 := hso.below hbel4
      clear hbel4 hso hB hcb
      go_wp2_with fail
      refine (roll_c d 4 3 _ hso4.1 (by omega) (by omega) (by omega) (by omega)).mono ?_
      rintro e w5 ⟨x, rfl, hx1, hx2, hd5, hk5⟩
      have hso5 := hso4.kp hk5 hd5
      clear hso4 hk5 hd5
      go_wp2_with fail
      refine (roll_c d 40 39 _ hso5.1 (by omega) (by omega) (by omega) (by omega)).mono ?_
      rintro e w6 ⟨y, rfl, hy1, hy2, hd6, hk6⟩
      have hso6 := hso5.kp hk6 hd6
      clear hso5 hk6 hd6
      go_wp2_with fail
      refine (any_c d _ _ 3 [0, x, y] 0 39 _ (hso6.1.alloc _) (Sl.ofBx (Bx.new' _ 3 #[I 0, I x, I y] _ (by simp))) (by decide) (by simp) (by simp) (by simp; omega)).mono ?_
      rintro e w7 ⟨z, rfl, hz1, hz2, hd7, hk7⟩
      have hso7 := (hso6.alloc _).kp hk7 hd7
      clear hso6 hk7 hd7
      generalize hL : leastOf ws sts sts.length = L at *
      have ew : IntKind.i64.wrap (L + z) = L + z := IntWalk.i64_in _ (by omega)
      obtain ⟨i0, hi0, hz0, hz1', hz2'⟩ := info_parts infoInt
      have hown := hso7.2.2.2.1
      have hgr := hso7.2.2.2.2
      go_wp2_with (at_builtin; refine wpList_append_own _ rfl _ _ 25 rfl w.heap.size 3 i0 _ 1 8 Try.underlying25 hi0 hz0 hz1' hz2' rfl (by decide) _ _ _ rfl (hown.alloc _) ⟨w7.heap.size, 0, none⟩ 1 1 [I (L + z)] rfl rfl ?c1 ?c2 ?c3 ?c4 ?c5 ?_)
      case c1 => exact (Bx.new w7 3 #[I (L + z)]).news (cs := [I (L + z)])
      case c2 => simp [Value.oneCell']
      case c3 => unfold maxLen; omega
      case c4 => omega
      case c5 => have := hgr.size; simp; omega
      intro V' w8 hown8 hgr8 _
      have hgr9 := kp_own (kp_alloc hgr _) (hown.alloc _) (Nat.le_refl _) hgr8
      have hso8 := hso7.alloc (.cells #[I (L + z)] 3)
      have hd8 := hso8.1.grown hgr8 (own_dr hso8.2.2.2.1 hso8.1 (by decide))
      have hb8 := hso8.2.1.grown hgr8 (own_ne hso8.2.2.2.1 hso8.2.1 (by decide))
      have hw8 := sl_own hso8.2.2.1 hso8.2.2.2.1 hgr8 (by decide)
      clear hso8 hso7 hown hgr hgr8 ew
      obtain ⟨B', cb', rfl, _, _⟩ := Sl.ofOwn2 hown8
      go_wp2
      go_roundw
      case rel =>
        have e1 : (sts ++ [L + z]).length = sts.length + 1 := by simp
        refine ⟨sts ++ [L + z], by rw [e1]; go_num, by rw [e1]; omega, by rw [e1]; exact hst.snoc (by omega) (by omega) (by omega), hd8, hb8, hw8, ?_, hgr9⟩
        rw [flat_snoc, e1]
        exact hown8
      case measure => simp [intOf]; omega
    · have hle : ¬ ((sts.length : Int) < (ws.length : Int)) := by omega
      have hcb := hso.2.1.cell
      go_wp2
      go_ret
      exact ⟨B, cb, sts, rfl, hB, hcap, hso.1, hso.2.2.2.2, by omega, hst.cst hc0 (by omega) h8, hst⟩
end Go.Proofs.Ytnihkgdkdinliaa
