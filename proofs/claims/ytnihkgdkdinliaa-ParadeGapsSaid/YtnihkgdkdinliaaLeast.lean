/- The least starts: the program and the reference say the same. -/
import Derived.Test.YtnihkgdkdinliaaStarts
namespace Go.Proofs.Ytnihkgdkdinliaa
open Go.RowKit
set_option linter.unusedVariables false
set_option linter.unusedSimpArgs false

/-- The least starts; none if one is too late. -/
def lstF (ws : List Wg) : Nat → List Int → Option (List Int)
  | 0, acc => some acc
  | n + 1, acc => if 20000 < leastOf ws acc acc.length then none else lstF ws n (acc ++ [leastOf ws acc acc.length])

/-- What Least returns. -/
def LeastPost (r : Int) (ws : List Wg) (w : World) (e : Ending) (w' : World) : Prop :=
  Below w.heap.size w w' ∧
  if chk r ws ≠ 0 then e = .returned (.tuple #[.slice none 0 0, I (chk r ws)]) else
  match lstF ws ws.length [] with
  | none => e = .returned (.tuple #[.slice none 0 0, I 2])
  | some l => ∃ B d, e = .returned (.tuple #[.slice B l.length d, I 0]) ∧ SlI w' 3 B l

theorem gI_snoc {acc : List Int} {x : Int} {k : Nat} : gI (acc ++ [x]) k = if k < acc.length then gI acc k else if k = acc.length then x else 0 := by
  unfold gI
  by_cases h : k < acc.length
  · rw [List.getElem?_append_left h, if_pos h]
  · rw [List.getElem?_append_right (by omega), if_neg h]
    by_cases h2 : k = acc.length
    · subst h2; simp
    · rw [if_neg h2, List.getElem?_eq_none (by simp; omega)]; rfl

theorem least_nonneg {r : Int} {ws : List Wg} (hv : Val r ws) {acc : List Int} {k : Nat} (hk : k ≤ ws.length) (hs : StB acc k) : 0 ≤ leastOf ws acc k := by
  cases k with
  | zero => exact Int.le_refl _
  | succ i =>
    have hb := passed_bd (ws := ws) (sts := acc) (ps := los ws) (S := 20000) (D := 5000) (place := (gW ws i).len) (i := i) (fun j hj => by
      obtain ⟨_, a1, a2, a3, _⟩ := hv.all j (by omega)
      have := hs j (by omega)
      rw [gI_los _ _ (by omega)]
      omega) (by obtain ⟨_, a1, _⟩ := hv.all i (by omega); omega) (by omega)
    have := hs i (by omega)
    show 0 ≤ passed _ _ _ _ _
    omega

theorem lpost_err {r : Int} {ws : List Wg} {w w' : World} (h : chk r ws ≠ 0) (hb : Below w.heap.size w w') : LeastPost r ws w (.returned (.tuple #[.slice none 0 0, I (chk r ws)])) w' := by
  refine ⟨hb, ?_⟩
  rw [if_pos h]
theorem lpost_late {r : Int} {ws : List Wg} {w w' : World} (h : chk r ws = 0) (h2 : lstF ws ws.length [] = none) (hb : Below w.heap.size w w') : LeastPost r ws w (.returned (.tuple #[.slice none 0 0, I 2])) w' := by
  refine ⟨hb, ?_⟩
  rw [if_neg (by simpa using h), h2]
theorem lpost_ok {r : Int} {ws : List Wg} {w w' : World} {l : List Int} {B : Option Addr} {d : Nat} (h : chk r ws = 0) (h2 : lstF ws ws.length [] = some l) (hs : SlI w' 3 B l) (hb : Below w.heap.size w w') : LeastPost r ws w (.returned (.tuple #[.slice B l.length d, I 0])) w' := by
  refine ⟨hb, ?_⟩
  rw [if_neg (by simpa using h), h2]
  exact ⟨B, d, rfl, hs⟩


set_option maxRecDepth 100000 in
set_option maxHeartbeats 2000000 in
theorem least_c (r : Int) (A : Option Addr) (c : Nat) (ws : List Wg) (T1 : TypeId) (w : World) (h1 : SlW w T1 A ws) (hf : Fit ws) (hl1 : ws.length ≤ maxLen) (hc : ws.length ≤ c) :
    Calls Try.prog 21 #[.agg #[I r, .slice A ws.length c]] w (LeastPost r ws w) := by
  have hl1' := hl1
  unfold maxLen at hl1'
  have hb0 := Bx.new w 24 #[I r, .slice A ws.length c]
  have hW0 : Below w.heap.size w (w.alloc (.cells #[I r, .slice A ws.length c] 24)) := (Below.refl _ _).alloc (Nat.le_refl _) _
  have hcb := hb0.cell
  by_cases a1 : chk r ws = 0
  · have hval := chk_val a1
    have n2 := hval.n2
    have hz : (chk r ws != 0) = false := by simp [a1]
    have A1 := Lib.hid a1
    clear a1
    go_enter Try.func21, Try.ntmps21
    go_wp2_with fail
    refine (check_c r _ c ws T1 _ (h1.below hW0 (Nat.le_refl _)) hf hl1 hc).mono ?_
    rintro e w1 ⟨rfl, hbw1⟩
    have hW1 := hW0.trans (hbw1.mono hW0.size)
    have hb1 := hb0.below hbw1 (by simp)
    clear hcb
    have hcb := hb1.cell
    obtain ⟨i0, hi0, hz0, hz1, hz2⟩ := info_parts infoInt
    go_wp2_with (at_make; refine wpList_make_own _ rfl _ _ 25 rfl w.heap.size 3 i0 (.int .i64 0) 1 Try.underlying25 hi0 hz0 hz1 _ _ _ ws.length rfl rfl rfl ?m1 ?m2 ?m3 ?_)
    case m1 => rw [hz2]; omega
    case m2 => unfold maxLen; omega
    case m3 => exact hW1.size
    intro w2 hown2 hgr2
    have hW2 := hW1.grown hgr2 hW1.size (fun k hk => by cases hk)
    have hb2 := hb1.grown hgr2 (by simp)
    have hcb := hb2.cell
    clear hb1 hW1 hgr2
    go_wp2
    clear hcb
    go_loopw [5, 19] (fun v i wr => ∃ (k : Nat) (acc : List Int), i = I k ∧ k ≤ ws.length ∧ acc.length = k ∧ lstF ws (ws.length - k) acc = lstF ws ws.length [] ∧ wr.ownsRow w.heap.size 3 1 v k (acc.map I) ∧ StB acc k ∧ Bx wr w.heap.size 24 #[I r, .slice A ws.length c] ∧ Below w.heap.size w wr)
      (fun _ i _ => ws.length - (intOf i).toNat)
    case atStart => exact ⟨0, [], rfl, Nat.zero_le _, rfl, rfl, hown2, fun k hk => absurd hk (by omega), hb2, hW2⟩
    case round =>
      obtain ⟨k, acc, rfl, hk, hlen, hrec, hown, hst, hbx, hbel⟩ := hrel
      have Hrec := Lib.hid hrec
      clear hrec hb2 hW2 hb0 hW0 hown2
      obtain ⟨B, d', rfl, hsl⟩ := Sl.ofOwn hown
      by_cases hlt : k < ws.length
      · have hcx := hbx.cell
        have hsz := hbx.lt
        have hstep : Hid (lstF ws (ws.length - k) acc = if 20000 < leastOf ws acc k then none else lstF ws (ws.length - (k + 1)) (acc ++ [leastOf ws acc k])) := by
          unfold Hid
          rw [show ws.length - k = (ws.length - (k + 1)) + 1 by omega, lstF, hlen]
        have hnn := least_nonneg hval (by omega) hst
        have hcw := fun W (h : SlW W T1 A ws) (h' : SlI W 3 B acc) => leastStart_c r A B c d' ws acc T1 3 W h h' (fun i hi => (hval.smLo (by omega) (by omega) (fun j hj => hst j (by omega)))) n2
        rw [hlen] at hcw
        have Hcw := Lib.hid hcw
        clear hcw
        have Hlen := Lib.hid hlen
        clear hlen
        generalize hL : leastOf ws acc k = L at *
        clear hL
        by_cases a4 : 20000 < L
        · go_wp2_with fail
          refine (Hcw.out _ (h1.below hbel (Nat.le_refl _)) hsl).mono ?_
          rintro e w3 ⟨rfl, hbw3⟩
          go_wp2
          go_ret2
          exact lpost_late A1.out (by rw [← Hrec.out, hstep.out, if_pos a4]) (hbel.trans (hbw3.mono hbel.size))
        · go_wp2_with fail
          refine (Hcw.out _ (h1.below hbel (Nat.le_refl _)) hsl).mono ?_
          rintro e w3 ⟨rfl, hbw3⟩
          have hown3 := hown.kept (kp_of_below hbw3 (Nat.le_refl _) (row := none)) (by cases hv : (Value.slice B k d').ownBlock <;> simp)
          have hbx3 := hbx.below hbw3 hsz
          have hbel3 := hbel.trans (hbw3.mono hbel.size)
          clear hown hbx hbel hcx hbw3 hsl
          have hsz3 := hbel3.size
          go_wp2_with (at_builtin; refine wpList_append_own _ rfl _ _ 25 rfl w.heap.size 3 i0 _ 1 8 Try.underlying25 hi0 hz0 hz1 hz2 rfl (by decide) _ _ _ rfl (hown3.alloc _) ⟨w3.heap.size, 0, none⟩ 1 1 [I L] rfl rfl ?c1 ?c2 ?c3 ?c4 ?c5 ?_)
          case c1 => exact (Bx.new w3 3 #[I L]).news
          case c2 => simp [Value.oneCell']
          case c3 => unfold maxLen; omega
          case c4 => omega
          case c5 => simp; omega
          intro v' w5 hown5 hgrow _
          have hbx' := hbx3.alloc (.cells #[I L] 3)
          have hown' := hown3.alloc (.cells #[I L] 3)
          have hbx5 := hbx'.grown hgrow (own_ne hown' hbx' (by decide))
          have hbel5 := below_own (hbel3.alloc hsz3 _) hown' (Nat.le_refl _) (by simp; omega) hgrow
          clear hbx' hown' hgrow hown3 hbx3 hbel3
          go_wp2
          go_roundw
          case rel => exact ⟨k + 1, acc ++ [L], by go_num, by omega, by simp [Hlen.out], by rw [← Hrec.out, hstep.out, if_neg (by omega)], by rw [flat_snoc]; exact hown5, fun j hj => (by rw [gI_snoc, Hlen.out]; split; exact hst j ‹_›; rw [if_pos (by omega)]; omega), hbx5, hbel5⟩
          case measure => simp [intOf]; omega
      · have hkk : k = ws.length := by omega
        have hcx := hbx.cell
        have hfin := Hrec.out
        rw [hkk, Nat.sub_self] at hfin
        subst hkk
        have Hfin := Lib.hid hfin
        have Hlen := Lib.hid hlen
        clear hfin Hrec hlen
        go_wp2
        go_ret2
        rw [← Hlen.out]
        exact lpost_ok A1.out (by rw [← Hfin.out]; rfl) hsl hbel
  · have hz : (chk r ws != 0) = true := by simp [a1]
    have A1 := Lib.hid a1
    clear a1
    go_enter Try.func21, Try.ntmps21
    go_wp2_with fail
    refine (check_c r _ c ws T1 _ (h1.below hW0 (Nat.le_refl _)) hf hl1 hc).mono ?_
    rintro e w1 ⟨rfl, hbw1⟩
    clear hcb
    go_wp2
    go_ret2
    exact lpost_err A1.out (hW0.trans (hbw1.mono hW0.size))

set_option maxRecDepth 100000 in
set_option maxHeartbeats 2000000 in
theorem leastR_c (r : Int) (A : Option Addr) (c : Nat) (ws : List Wg) (T1 : TypeId) (w : World) (h1 : SlW w T1 A ws) (hf : Fit ws) (hl1 : ws.length ≤ maxLen) (hc : ws.length ≤ c) :
    Calls Try.prog 22 #[.agg #[I r, .slice A ws.length c]] w (LeastPost r ws w) := by
  have hl1' := hl1
  unfold maxLen at hl1'
  have hb0 := Bx.new w 24 #[I r, .slice A ws.length c]
  have hW0 : Below w.heap.size w (w.alloc (.cells #[I r, .slice A ws.length c] 24)) := (Below.refl _ _).alloc (Nat.le_refl _) _
  have hcb := hb0.cell
  by_cases a1 : chk r ws = 0
  · have hval := chk_val a1
    have n2 := hval.n2
    have hz : (chk r ws != 0) = false := by simp [a1]
    have A1 := Lib.hid a1
    clear a1
    go_enter Try.func22, Try.ntmps22
    go_wp2_with fail
    refine (checkR_c r _ c ws T1 _ (h1.below hW0 (Nat.le_refl _)) hf hl1).mono ?_
    rintro e w1 ⟨rfl, hbw1⟩
    have hW1 := hW0.trans (hbw1.mono hW0.size)
    have hb1 := hb0.below hbw1 (by simp)
    clear hcb
    have hcb := hb1.cell
    obtain ⟨i0, hi0, hz0, hz1, hz2⟩ := info_parts infoInt
    go_wp2
    clear hcb
    go_loopw [5, 6] (fun v i wr => ∃ (k : Nat) (acc : List Int), i = I k ∧ k ≤ ws.length ∧ acc.length = k ∧ lstF ws (ws.length - k) acc = lstF ws ws.length [] ∧ wr.ownsRow w.heap.size 3 1 v k (acc.map I) ∧ StB acc k ∧ Bx wr w.heap.size 24 #[I r, .slice A ws.length c] ∧ Below w.heap.size w wr)
      (fun _ i _ => ws.length - (intOf i).toNat)
    case atStart => exact ⟨0, [], rfl, Nat.zero_le _, rfl, rfl, World.ownsRow_nil _ _ _ _, fun k hk => absurd hk (by omega), hb1, hW1⟩
    case round =>
      obtain ⟨k, acc, rfl, hk, hlen, hrec, hown, hst, hbx, hbel⟩ := hrel
      have Hrec := Lib.hid hrec
      clear hrec hb1 hW1 hb0 hW0
      obtain ⟨B, d', rfl, hsl⟩ := Sl.ofOwn hown
      by_cases hlt : k < ws.length
      · have hcx := hbx.cell
        have hsz := hbx.lt
        have hstep : Hid (lstF ws (ws.length - k) acc = if 20000 < leastOf ws acc k then none else lstF ws (ws.length - (k + 1)) (acc ++ [leastOf ws acc k])) := by
          unfold Hid
          rw [show ws.length - k = (ws.length - (k + 1)) + 1 by omega, lstF, hlen]
        have hnn := least_nonneg hval (by omega) hst
        have hcw := fun W (h : SlW W T1 A ws) (h' : SlI W 3 B acc) => leastOf_c r A B c d' ws acc k T1 3 W h h' (fun i hi => (hval.smLo (by omega) (by omega) (fun j hj => hst j (by omega)))) (by omega) (by unfold maxLen; omega)
        rw [hlen] at hcw
        have Hcw := Lib.hid hcw
        clear hcw
        have Hlen := Lib.hid hlen
        clear hlen
        generalize hL : leastOf ws acc k = L at *
        clear hL
        by_cases a4 : 20000 < L
        · go_wp2_with fail
          refine (Hcw.out _ (h1.below hbel (Nat.le_refl _)) hsl).mono ?_
          rintro e w3 ⟨rfl, hbw3⟩
          go_wp2
          go_ret2
          exact lpost_late A1.out (by rw [← Hrec.out, hstep.out, if_pos a4]) (hbel.trans (hbw3.mono hbel.size))
        · go_wp2_with fail
          refine (Hcw.out _ (h1.below hbel (Nat.le_refl _)) hsl).mono ?_
          rintro e w3 ⟨rfl, hbw3⟩
          have hown3 := hown.kept (kp_of_below hbw3 (Nat.le_refl _) (row := none)) (by cases hv : (Value.slice B k d').ownBlock <;> simp)
          have hbx3 := hbx.below hbw3 hsz
          have hbel3 := hbel.trans (hbw3.mono hbel.size)
          clear hown hbx hbel hcx hbw3 hsl
          have hsz3 := hbel3.size
          go_wp2_with (at_builtin; refine wpList_append_own _ rfl _ _ 25 rfl w.heap.size 3 i0 _ 1 8 Try.underlying25 hi0 hz0 hz1 hz2 rfl (by decide) _ _ _ rfl (hown3.alloc _) ⟨w3.heap.size, 0, none⟩ 1 1 [I L] rfl rfl ?c1 ?c2 ?c3 ?c4 ?c5 ?_)
          case c1 => exact (Bx.new w3 3 #[I L]).news
          case c2 => simp [Value.oneCell']
          case c3 => unfold maxLen; omega
          case c4 => omega
          case c5 => simp; omega
          intro v' w5 hown5 hgrow _
          have hbx' := hbx3.alloc (.cells #[I L] 3)
          have hown' := hown3.alloc (.cells #[I L] 3)
          have hbx5 := hbx'.grown hgrow (own_ne hown' hbx' (by decide))
          have hbel5 := below_own (hbel3.alloc hsz3 _) hown' (Nat.le_refl _) (by simp; omega) hgrow
          clear hbx' hown' hgrow hown3 hbx3 hbel3
          go_wp2
          go_roundw
          case rel => exact ⟨k + 1, acc ++ [L], by go_num, by omega, by simp [Hlen.out], by rw [← Hrec.out, hstep.out, if_neg (by omega)], by rw [flat_snoc]; exact hown5, fun j hj => (by rw [gI_snoc, Hlen.out]; split; exact hst j ‹_›; rw [if_pos (by omega)]; omega), hbx5, hbel5⟩
          case measure => simp [intOf]; omega
      · have hkk : k = ws.length := by omega
        have hcx := hbx.cell
        have hfin := Hrec.out
        rw [hkk, Nat.sub_self] at hfin
        subst hkk
        have Hfin := Lib.hid hfin
        have Hlen := Lib.hid hlen
        clear hfin Hrec hlen
        go_wp2
        go_ret2
        rw [← Hlen.out]
        exact lpost_ok A1.out (by rw [← Hfin.out]; rfl) hsl hbel
  · have hz : (chk r ws != 0) = true := by simp [a1]
    have A1 := Lib.hid a1
    clear a1
    go_enter Try.func22, Try.ntmps22
    go_wp2_with fail
    refine (checkR_c r _ c ws T1 _ (h1.below hW0 (Nat.le_refl _)) hf hl1).mono ?_
    rintro e w1 ⟨rfl, hbw1⟩
    clear hcb
    go_wp2
    go_ret2
    exact lpost_err A1.out (hW0.trans (hbw1.mono hW0.size))
end Go.Proofs.Ytnihkgdkdinliaa
