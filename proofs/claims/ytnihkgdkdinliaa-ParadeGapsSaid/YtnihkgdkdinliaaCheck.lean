/- Which schools are valid: the program and the reference say the same. -/
import Derived.Test.YtnihkgdkdinliaaTruthB
import Derived.Test.YtnihkgdkdinliaaRefA
namespace Go.Proofs.Ytnihkgdkdinliaa
open Go.RowKit
set_option linter.unusedVariables false
set_option linter.unusedSimpArgs false

def inB (l n m : Int) : Bool := decide (l ≤ n ∧ n ≤ m)
theorem inB_yes {l n m : Int} (h : l ≤ n ∧ n ≤ m) : inB l n m = true := decide_eq_true h
theorem inB_no {l n m : Int} (h : ¬ (l ≤ n ∧ n ≤ m)) : inB l n m = false := decide_eq_false h

set_option maxHeartbeats 400000 in
theorem within_c (n l m : Int) (w : World) :
    Calls Try.prog 66 #[I n, I l, I m] w fun e w' => e = .returned (.bool (inB l n m)) ∧ w = w' := by
  by_cases h1 : l ≤ n
  · by_cases h2 : n ≤ m
    · go_enter Try.func66, Try.ntmps66
      go_wp2
      go_ret
      exact ⟨ret_bool (by rw [inB_yes (by omega)]), rfl⟩
    · go_enter Try.func66, Try.ntmps66
      go_wp2
      go_ret
      exact ⟨ret_bool (by rw [inB_no (by omega)]), rfl⟩
  · go_enter Try.func66, Try.ntmps66
    go_wp2
    go_ret
    exact ⟨ret_bool (by rw [inB_no (by omega)]), rfl⟩

set_option maxHeartbeats 400000 in
theorem withinR_c (n l m : Int) (w : World) :
    Calls Try.prog 68 #[I n, I l, I m] w fun e w' => e = .returned (.bool (inB l n m)) ∧ w = w' := by
  by_cases h1 : l ≤ n
  · by_cases h2 : n ≤ m
    · go_enter Try.func68, Try.ntmps68
      go_wp2
      go_ret
      exact ⟨ret_bool (by rw [inB_yes (by omega)]), rfl⟩
    · go_enter Try.func68, Try.ntmps68
      go_wp2
      go_ret
      exact ⟨ret_bool (by rw [inB_no (by omega)]), rfl⟩
  · go_enter Try.func68, Try.ntmps68
    go_wp2
    go_ret
    exact ⟨ret_bool (by rw [inB_no (by omega)]), rfl⟩

theorem take_snoc (s : ByteArray) (k : Nat) (h : k < s.size) : s.data.toList.take (k + 1) = s.data.toList.take k ++ [s[k]] := by
  rw [List.take_succ_eq_append_getElem (by simpa using h)]; rfl

theorem all_false {s : ByteArray} {k : Nat} (h : k < s.size) (hc : low1 s[k] = false) : s.data.toList.all low1 = false := by
  apply Bool.eq_false_iff.2
  intro ha
  have := List.all_eq_true.1 ha s[k] (List.getElem_mem (l := s.data.toList) (by simpa using h))
  rw [hc] at this
  cases this

set_option maxHeartbeats 800000 in
theorem named_c (s : ByteArray) (w : World) (hs : s.size ≤ maxLen) :
    Calls Try.prog 69 #[.string s] w fun e w' => e = .returned (.bool (nmB s)) ∧ w = w' := by
  unfold maxLen at hs
  go_enter Try.func69, Try.ntmps69
  go_wp2
  go_loop [3] (fun i => ∃ k : Nat, k ≤ s.size ∧ i = I k ∧ (s.data.toList.take k).all low1 = true) (fun i => s.size - (intOf i).toNat)
  case atStart => exact ⟨0, Nat.zero_le _, rfl, by simp⟩
  case round =>
    obtain ⟨k, hk, rfl, hall⟩ := hrel
    have Hall := Lib.hid hall
    clear hall
    by_cases hlt : k < s.size
    · by_cases hl : 97 ≤ (s[k].toNat : Int)
      · by_cases hu : (s[k].toNat : Int) ≤ 122
        · have hsn := Lib.hid (take_snoc s k hlt)
          go_wp2
          go_round
          case rel => exact ⟨k + 1, by omega, by go_num, by rw [hsn.out, List.all_append, Hall.out]; simp [low1, hl, hu]⟩
          case measure => simp [intOf]; omega
        · have hf := Lib.hid (all_false hlt (by simp [low1, hu]))
          go_wp2
          go_ret
          exact ⟨ret_bool (by unfold nmB; rw [hf.out, Bool.and_false]), rfl⟩
      · have hf := Lib.hid (all_false hlt (by simp [low1, hl]))
        go_wp2
        go_ret
        exact ⟨ret_bool (by unfold nmB; rw [hf.out, Bool.and_false]), rfl⟩
    · have hkk : k = s.size := by omega
      subst hkk
      go_wp2_with (go_at_call 68; refine (withinR_c _ _ _ _).mono ?_; rintro e w' ⟨rfl, rfl⟩)
      go_ret
      refine ⟨ret_bool ?_, rfl⟩
      have e := Hall.out
      rw [List.take_of_length_le (by simp)] at e
      unfold nmB
      rw [e, Bool.and_true]
      unfold inB
      rw [decide_eq_decide]
      omega

set_option maxHeartbeats 800000 in
theorem isName_c (s : ByteArray) (w : World) (hs : s.size ≤ maxLen) :
    Calls Try.prog 96 #[.string s] w fun e w' => e = .returned (.bool (nmB s)) ∧ w = w' := by
  unfold maxLen at hs
  by_cases hsz : 1 ≤ (s.size : Int) ∧ (s.size : Int) ≤ 8
  · have hd : inB 1 (s.size : Int) 8 = true := inB_yes hsz
    have Hsz := Lib.hid hsz
    clear hsz
    go_enter Try.func96, Try.ntmps96
    go_wp2_with (go_at_call 66; refine (within_c _ _ _ _).mono ?_; rintro e w' ⟨rfl, rfl⟩; rw [hd])
    go_loop [10] (fun i => ∃ k : Nat, k ≤ s.size ∧ i = I k ∧ (s.data.toList.take k).all low1 = true) (fun i => s.size - (intOf i).toNat)
    case atStart => exact ⟨0, Nat.zero_le _, rfl, by simp⟩
    case round =>
      obtain ⟨k, hk, rfl, hall⟩ := hrel
      have Hall := Lib.hid hall
      clear hall hd
      by_cases hlt : k < s.size
      · by_cases hl : 97 ≤ (s[k].toNat : Int)
        · by_cases hu : (s[k].toNat : Int) ≤ 122
          · have hsn := Lib.hid (take_snoc s k hlt)
            go_wp2
            go_round
            case rel => exact ⟨k + 1, by omega, by go_num, by rw [hsn.out, List.all_append, Hall.out]; simp [low1, hl, hu]⟩
            case measure => simp [intOf]; omega
          · have hf := Lib.hid (all_false hlt (by simp [low1, hu]))
            go_wp2
            go_ret
            exact ⟨ret_bool (by unfold nmB; rw [hf.out, Bool.and_false]), rfl⟩
        · have hf := Lib.hid (all_false hlt (by simp [low1, hl]))
          go_wp2
          go_ret
          exact ⟨ret_bool (by unfold nmB; rw [hf.out, Bool.and_false]), rfl⟩
      · have hkk : k = s.size := by omega
        subst hkk
        go_wp2
        go_ret
        refine ⟨ret_bool ?_, rfl⟩
        have e := Hall.out
        have e2 := Hsz.out
        rw [List.take_of_length_le (by simp)] at e
        unfold nmB
        rw [e, Bool.and_true, eq_comm, decide_eq_true_iff]
        omega
  · have hd : inB 1 (s.size : Int) 8 = false := inB_no hsz
    have Hsz := Lib.hid hsz
    clear hsz
    go_enter Try.func96, Try.ntmps96
    go_wp2_with (go_at_call 66; refine (within_c _ _ _ _).mono ?_; rintro e w' ⟨rfl, rfl⟩; rw [hd])
    go_ret
    refine ⟨ret_bool ?_, rfl⟩
    have e2 := Hsz.out
    unfold nmB
    rw [show decide (1 ≤ s.size ∧ s.size ≤ 8) = false from decide_eq_false (by omega)]
    rfl

set_option maxHeartbeats 1000000 in
theorem checkWing_c (g : Wg) (A : Option Addr) (c : Nat) (bs : List Wg) (T1 : TypeId) (w : World) (h1 : SlW w T1 A bs) (hl1 : bs.length ≤ 1000000) (hs : g.name.size ≤ maxLen) :
    Calls Try.prog 67 #[g.val, .slice A bs.length c] w fun e w' => e = .returned (I (chk1 g bs)) ∧ Below w.heap.size w w' := by
  have hb0 := Bx.new w 29 #[.string g.name, I g.len, I g.lo, I g.hi]
  have hW0 : Below w.heap.size w (w.alloc (.cells #[.string g.name, I g.len, I g.lo, I g.hi] 29)) := (Below.refl _ _).alloc (Nat.le_refl _) _
  have hcb := hb0.cell
  unfold Wg.val
  by_cases hn : nmB g.name = false
  · go_enter Try.func67, Try.ntmps67
    go_wp2_with (go_at_call 96; refine (isName_c _ _ hs).mono ?_; rintro e w' ⟨rfl, rfl⟩; rw [hn])
    go_ret
    exact ⟨ret_int (chk1_name hn).symm, hW0⟩
  · have hn : nmB g.name = true := by simpa using hn
    go_enter Try.func67, Try.ntmps67
    go_wp2_with (go_at_call 96; refine (isName_c _ _ hs).mono ?_; rintro e w' ⟨rfl, rfl⟩; rw [hn])
    clear hcb
    go_loopw [13] (fun i wr => ∃ k : Nat, i = I k ∧ k ≤ bs.length ∧ (bs.take k).any (fun o => o.name.toList == g.name.toList) = false ∧ Bx wr w.heap.size 29 #[.string g.name, I g.len, I g.lo, I g.hi] ∧ Below w.heap.size w wr)
      (fun i _ => bs.length - (intOf i).toNat)
    case atStart => exact ⟨0, rfl, Nat.zero_le _, by simp, hb0, hW0⟩
    case round =>
      obtain ⟨k, rfl, hk, hany, hbx, hbel⟩ := hrel
      have Hany := Lib.hid hany
      clear hany
      have hcb := hbx.cell
      have hsz := hbx.lt
      by_cases hlt : k < bs.length
      · obtain ⟨b1, o1, rfl, hb1⟩ := SlW.some_ h1 hlt
        obtain ⟨c1, c2, c3, c4⟩ := SlW.cellG (h1.below hbel (Nat.le_refl _)) hlt
        have hbn := Bx.new wr 29 #[.string (gW bs k).name, I (gW bs k).len, I (gW bs k).lo, I (gW bs k).hi]
        have hcn := hbn.cell
        by_cases heq : ((gW bs k).name.toList == g.name.toList) = true
        · have hhit := Lib.hid (any_hit hlt heq)
          go_wp2
          go_ret
          exact ⟨ret_int (chk1_twice hn hhit.out).symm, hbel.alloc hbel.size _⟩
        · have heq : ((gW bs k).name.toList == g.name.toList) = false := by simpa using heq
          have hno : Hid ((bs.take (k + 1)).any (fun o => o.name.toList == g.name.toList) = false) := by rw [any_snoc hlt, Hany.out, heq]; rfl
          go_wp2
          go_roundw
          case rel => exact ⟨k + 1, by go_num, by omega, hno.out, hbx.alloc _, hbel.alloc hbel.size _⟩
          case measure => simp [intOf]; omega
      · have hkk : k = bs.length := by omega
        subst hkk
        have hno := Hany.out
        rw [List.take_of_length_le (Nat.le_refl _)] at hno
        have hrest := Lib.hid (chk1_rest hn hno)
        clear hno Hany
        by_cases a1 : 1 ≤ g.len ∧ g.len ≤ 5000
        · have b1 := inB_yes a1
          by_cases a2 : 1 ≤ g.lo ∧ g.lo ≤ 200
          · have b2 := inB_yes a2
            by_cases a3 : 1 ≤ g.hi ∧ g.hi ≤ 200
            · have b3 := inB_yes a3
              by_cases a4 : g.hi < g.lo
              · go_wp2_with (go_at_call 66; refine (within_c _ _ _ _).mono ?_; rintro e w' ⟨rfl, rfl⟩)
                go_ret
                exact ⟨ret_int (by rw [hrest.out, if_neg (by omega), if_neg (by omega), if_pos a4]), hbel⟩
              · go_wp2_with (go_at_call 66; refine (within_c _ _ _ _).mono ?_; rintro e w' ⟨rfl, rfl⟩)
                go_ret
                exact ⟨ret_int (by rw [hrest.out, if_neg (by omega), if_neg (by omega), if_neg (by omega)]), hbel⟩
            · have b3 := inB_no a3
              have H3 := Lib.hid a3
              clear a3
              go_wp2_with (go_at_call 66; refine (within_c _ _ _ _).mono ?_; rintro e w' ⟨rfl, rfl⟩)
              go_ret
              exact ⟨ret_int (by have := H3.out; rw [hrest.out, if_neg (by omega), if_pos (by omega)]), hbel⟩
          · have b2 := inB_no a2
            have H2 := Lib.hid a2
            clear a2
            go_wp2_with (go_at_call 66; refine (within_c _ _ _ _).mono ?_; rintro e w' ⟨rfl, rfl⟩)
            go_ret
            exact ⟨ret_int (by have := H2.out; rw [hrest.out, if_neg (by omega), if_pos (by omega)]), hbel⟩
        · have b1 := inB_no a1
          have H1 := Lib.hid a1
          clear a1
          go_wp2_with (go_at_call 66; refine (within_c _ _ _ _).mono ?_; rintro e w' ⟨rfl, rfl⟩)
          go_ret
          exact ⟨ret_int (by have := H1.out; rw [hrest.out, if_pos (by omega)]), hbel⟩
end Go.Proofs.Ytnihkgdkdinliaa
