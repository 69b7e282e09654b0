/- upTo: the iterator over a wing and those before it. -/
import Derived.Test.YtnihkgdkdinliaaRows
import Derived.Test.YtnihkgdkdinliaaModel
import Derived.RangeFuncNested
import Derived.RangeFuncBound
import Derived.RangeFuncCalls
import Derived.RangeFuncLeaves
import Derived.RangeFuncFrom
import Derived.Shelf.Abstract
import Derived.OwnWalkIn
import Derived.TacticsInMore
import Derived.LoopNIn
import Derived.LoopIn
namespace Go.Proofs.Ytnihkgdkdinliaa
open Go.RowKit Go.Shelf
attribute [local go_sem] Oper.semAt_some
set_option linter.unusedVariables false

/-- Below block n0 nothing has turned, but for block kx. -/
structure KB (n0 : Nat) (kx : Option Nat) (A B : World) : Prop where
  size : A.heap.size ≤ B.heap.size
  block : ∀ k, k < n0 → some k ≠ kx → B.heap[k]? = A.heap[k]?
theorem KB.refl (n0 : Nat) (kx : Option Nat) (A : World) : KB n0 kx A A := ⟨Nat.le_refl _, fun _ _ _ => rfl⟩
theorem KB.trans {n0 : Nat} {kx : Option Nat} {A B C : World} (h : KB n0 kx A B) (k : KB n0 kx B C) : KB n0 kx A C :=
  ⟨Nat.le_trans h.size k.size, fun i hi hne => (k.block i hi hne).trans (h.block i hi hne)⟩
theorem KB.of_below {n0 n : Nat} {kx : Option Nat} {A B : World} (h : Below n A B) (hn : n0 ≤ n) : KB n0 kx A B := ⟨h.size, fun k hk _ => h.block k (Nat.lt_of_lt_of_le hk hn)⟩
theorem KB.of_kp {n0 : Nat} {kx : Option Nat} {A B : World} (h : A.grownBy B kx) (hn : n0 ≤ A.heap.size) : KB n0 kx A B := ⟨h.size, fun k hk hne => h.block k (Nat.lt_of_lt_of_le hk hn) hne⟩
theorem KB.putObj {n0 : Nat} {kx : Option Nat} {w : World} (hn : n0 ≤ w.heap.size) (W : World) (l : Nat) (o o' : Obj) (hl : w.heap.size ≤ l) (h : W.heap[l]? = some o) (_ : o.isCells = false) (_ : o.isWalk = false) : KB n0 kx W (W.putObj l o') :=
  ⟨by simp [World.putObj], fun k hk _ => by simp only [World.putObj]; rw [Array.getElem?_setIfInBounds_ne (by omega)]⟩
theorem KB.setCell (n0 kx o : Nat) (W : World) (v : Value) : KB n0 (some kx) W (W.setCell ⟨kx, o, none⟩ v) :=
  ⟨by simp [World.setCell], fun k _ hne => Below.heap_setCell _ _ _ _ (by rintro rfl; exact hne rfl)⟩
theorem KB.drewN (n0 : Nat) (kx : Option Nat) (W : World) (n : Nat) : KB n0 kx W (W.drewN n) := ⟨Nat.le_refl _, fun _ _ _ => rfl⟩
theorem Bx.kb {n0 : Nat} {kx : Option Nat} {A B : World} {b : Nat} {T : TypeId} {cs : Array Value} (h : Bx A b T cs) (hk : KB n0 kx A B) (hb : b < n0) (hne : some b ≠ kx) : Bx B b T cs := (hk.block b hb hne).trans h
theorem KB.cell {n0 : Nat} {kx : Option Nat} {A B : World} (h : KB n0 kx A B) {p : Addr} (hp : p.block < n0) (hne : some p.block ≠ kx) : B.cell? p = A.cell? p := World.cell?_of_block (h.block p.block hp hne)
theorem bx_own {β : Type} (B k : Nat) (T : TypeId) (cs : β → Array Value) : OwnFrom B (fun s W => Bx W k T (cs s)) := fun s W W' row hs hg hr => hs.grown hg (fun e => by
  obtain ⟨_, o, ho, hc⟩ := hr k e.symm
  unfold Bx at hs
  rw [hs] at ho
  cases ho
  cases hc)

/-- What upTo hands out: a wing's number, not beyond the wing. -/
abbrev Up (wing : Nat) := { i : Nat // i ≤ wing }
abbrev upEnc (ws : List Wg) (wing : Nat) (x : Up wing) : Array Value := #[I x.1, I (dist ws wing x.1)]

set_option maxHeartbeats 1000000 in
theorem upTo_c (A : Option Addr) (n c : Nat) (wing : Int) (w : World) :
    Calls Try.prog 98 #[.slice A n c, I wing] w fun e w' => e = .returned (.func (.func 108) #[] #[.pointer (some ⟨w.heap.size + 1, 0, none⟩), .pointer (some ⟨w.heap.size, 0, none⟩)]) ∧
      w' = (w.alloc (.cells #[.slice A n c] 22)).alloc (.cells #[I wing] 3) := by
  go_enter Try.func98, Try.ntmps98
  go_wp2
  go_ret
  exact ⟨rfl, rfl⟩

theorem up_rel {wing m : Nat} {pre : List (Up wing)} {hx : m ≤ wing} (h : (pre.map (fun x : Up wing => x.1) ++ (if m + 1 = 0 then [] else downTo (m + 1 - 1))) = downTo wing) :
    ((pre ++ [(⟨m, hx⟩ : Up wing)]).map (fun x : Up wing => x.1) ++ (if m = 0 then [] else downTo (m - 1))) = downTo wing := by
  rw [← h]
  cases m with
  | zero => simp [downTo]
  | succ m => simp [downTo]

set_option maxHeartbeats 2000000 in
theorem upTo1_stops (n : Nat) (hn : 1 ≤ n) (A : Option Addr) (c k1 k2 : Nat) (ws : List Wg) (wing : Nat) (T1 : TypeId) (w : World) (hw : wing < ws.length) (hw2 : wing ≤ 20) (hl1 : ws.length ≤ 1000000)
    (hlen : ∀ k, k ≤ wing → 0 ≤ (gW ws k).len ∧ (gW ws k).len ≤ 1000000) (n0 : Nat) (kx : Option Nat) (hn0 : n0 ≤ w.heap.size)
    (h1 : SlW w T1 A ws) (hA : ∀ b o, A = some ⟨b, o, none⟩ → b < n0 ∧ some b ≠ kx) (hb1 : Bx w k1 3 #[I wing]) (hb2 : Bx w k2 22 #[.slice A ws.length c]) (hk1 : k1 < n0) (hk2 : k2 < n0) (hx1 : some k1 ≠ kx) (hx2 : some k2 ≠ kx) :
    SeqStopsK Fence.wide n Try.prog 108 #[.pointer (some ⟨k1, 0, none⟩), .pointer (some ⟨k2, 0, none⟩)] (upEnc ws wing) (KB n0 kx) (fun xs => xs.map (fun x : Up wing => x.1) = downTo wing) (fun _ => True) (wing + 1) w := fun l J Jx W hW hJ hJx hY h0 => by
  refine callsIn_of_wp Try.func108 rfl trivial ?_ rfl
  simp only [Try.ntmps108, List.size_toArray, List.length_cons, List.length_nil, Nat.reduceAdd, Nat.reduceSub, Array.replicate_succ, Array.replicate_zero, List.push_toArray, List.append_toArray, List.nil_append, List.cons_append]
  obtain ⟨b, o, rfl, hbo⟩ := SlW.some_ h1 hw
  have hc1 := (hb1.below hW (by omega)).cell 0
  gi_wp2
  gi_loopw [4, 5] (fun di i wr => ∃ (j : Nat) (pre : List (Up wing)), i = I ((j : Int) - 1) ∧ di = I (dist ws wing j) ∧ j ≤ wing + 1 ∧ (pre.map (fun x : Up wing => x.1) ++ (if j = 0 then [] else downTo (j - 1))) = downTo wing ∧ pre.length + j = wing + 1 ∧ J pre wr ∧ KB n0 kx w wr)
    (fun _ i _ => (intOf i + 1).toNat)
  case atStart => exact ⟨wing + 1, [], by go_num, by rw [dist_over], Nat.le_refl _, by simp, by simp, h0, .of_below hW hn0⟩
  case round =>
    obtain ⟨j, pre, rfl, rfl, hj, hpre, hplen, hJr, hbel⟩ := hrel
    cases j with
    | zero =>
      gi_wp2
      go_end0
      exact ⟨⟨_, rfl⟩, .inl ⟨pre, by simpa using hpre, hJr⟩⟩
    | succ m =>
      rw [show ((m + 1 : Nat) : Int) - 1 = (m : Int) by omega]
      have hc1 := (hb1.kb hbel hk1 hx1).cell 0
      have hc2 := (hb2.kb hbel hk2 hx2).cell 0
      have hm : m < ws.length := by omega
      have hpre := Lib.hid hpre
      have hplen := Lib.hid hplen
      have hcw : wr.cell? ⟨b, o + m * 4 + 1, none⟩ = some (I (gW ws m).len) := (hbel.cell (p := ⟨b, o + m * 4 + 1, none⟩) (hA b o rfl).1 (hA b o rfl).2).trans (SlW.cellG h1 hm).2.1
      have hlm := hlen m (by omega)
      have hd1 := dist_bd hlen hw2 (wing - m) m (by omega)
      have hx : m ≤ wing := by omega
      obtain ⟨fn, tmps, assign, body, hy, hR⟩ := hY pre ⟨m, hx⟩ wr hJr (by have := hplen.out; omega)
      dsimp only [upEnc] at hy
      by_cases hlt : m < wing
      · have hst := dist_step ws wing m hlt
        rw [← show dist ws wing m - (gW ws m).len = dist ws wing (m + 1) by omega]
        clear hst
        gi_wp2
        refine hR.mono ?_
        rintro e W3 (⟨rfl, hJ3, hk3⟩ | ⟨rfl, hJx3⟩)
        · gi_wp2
          go_roundw
          case rel => exact ⟨m, pre ++ [⟨m, hx⟩], rfl, rfl, by omega, up_rel hpre.out, by simp; have := hplen.out; omega, hJ3, hbel.trans hk3⟩
          case measure => simp [intOf]
        · gi_wp2
          refine bodyPost_ret (results_none rfl _ _ _) rfl ?_
          exact ⟨⟨_, rfl⟩, .inr ⟨_, trivial, hJx3⟩⟩
      · have hme : m = wing := by omega
        have hd0 : dist ws wing (m + 1) = 0 := by rw [hme, dist_over]
        have hdm : dist ws wing m = 0 := by rw [hme, dist_self]
        rw [hd0]
        rw [hdm] at hy hd1
        clear hd0 hme
        have hdm := Lib.hid hdm
        gi_wp2
        refine hR.mono ?_
        rintro e W3 (⟨rfl, hJ3, hk3⟩ | ⟨rfl, hJx3⟩)
        · gi_wp2
          go_roundw
          case rel => exact ⟨m, pre ++ [⟨m, hx⟩], rfl, by rw [hdm.out], by omega, up_rel hpre.out, by simp; have := hplen.out; omega, hJ3, hbel.trans hk3⟩
          case measure => simp [intOf]
        · gi_wp2
          refine bodyPost_ret (results_none rfl _ _ _) rfl ?_
          exact ⟨⟨_, rfl⟩, .inr ⟨_, trivial, hJx3⟩⟩
end Go.Proofs.Ytnihkgdkdinliaa
