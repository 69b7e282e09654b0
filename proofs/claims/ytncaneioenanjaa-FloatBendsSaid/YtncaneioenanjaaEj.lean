/- The engine, part 10: operations one after the other, and the code around them. Own work; imports no translation. -/
import Derived.Test.YtncaneioenanjaaEi
namespace Go.Proofs.Ytncaneioenanjaa
open Go.RowKit
set_option linter.unusedVariables false
set_option linter.unusedSimpArgs false

/-! ### Rounds of a range over a function: the same as elsewhere -/
def noDefer (ops : Array Oper) : Bool := ops.all fun o => match o.op with | .defer _ => false | _ => true
theorem noDefer_spec {ops : Array Oper} (h : noDefer ops = true) {i : Nat} {o : Oper} (ho : ops[i]? = some o) : ∀ c, o.op ≠ .defer c := by
  intro c hc
  have := Array.all_eq_true_iff_forall_mem.1 h o (Array.mem_of_getElem? ho)
  rw [hc] at this
  cases this
theorem rows_round {l0 n : Nat} {P : Program} {row : String} {args : Array Value} {w : World} {R : Value → World → Prop} (h : Rows P row args w R) : RowsIn (Fence.wide.inRound l0) n P row args w R :=
  fun c cs _ => let ⟨v, w', r, s⟩ := h c cs; ⟨v, w', r, stepsIn_wide.2 s⟩
theorem wpOp_round {P : Program} {ops : Array Oper} {Q : Exit → Act → World → Prop} {l0 n : Nat} (hnd : noDefer ops = true) (hQ : ∀ a w, ¬ Q .outgrown a w) {i : Nat} {K K' : Act → World → Prop} {a : Act} {w : World}
    (hK : ∀ a w, K a w → K' a w) (h : wpOp P ops Q i K a w) : wpOpIn (Fence.wide.inRound l0) n P ops Q i K' a w := by
  have hL : ¬ LetsOut Q := fun ⟨a, w, hq⟩ => hQ a w hq
  unfold wpOp at h
  unfold wpOpIn
  cases ho : ops[i]? with
  | none => rw [ho] at h; exact hK _ _ h
  | some o =>
    rw [ho] at h
    simp only [] at h ⊢
    by_cases hw : Region.wanted o (yielded ops a.tmps) = true
    · rw [if_pos hw] at h ⊢
      rcases h with h | ⟨_, h⟩
      · refine ⟨fun f _ => trivial, ?_⟩
        have hs : o.semAt (Fence.wide.inRound l0).round a.eval = execOp a.eval o := Oper.semAt_eq _ _ _ (noDefer_spec hnd ho)
        rw [hs]
        unfold Oper.wp at h
        generalize (execOp a.eval o).run P w = r at h
        cases r with
        | ok nx w' =>
          cases nx <;> simp only [Oper.upon, Oper.uponIn] at h ⊢
          case value v => exact hK _ _ h
          case skip => exact hK _ _ h
          case defer d => exact hK _ _ h
          case enter f args =>
            refine ⟨fun hd => by simp [Fence.wide, Fence.inRound] at hd, CallsIn.inRound l0 (callsIn_wide.2 (Calls.mono h fun e w'' he => ?_))⟩
            cases e with
            | returned v => exact hK _ _ he
            | panicked c => exact he
            | outgrown => exact he
          case row row args => exact ⟨fun hd => by simp [Fence.wide, Fence.inRound] at hd, rows_round (Rows.mono h fun v w'' he => hK _ _ he)⟩
        | halt x w' => cases x <;> simp only [Oper.upon, Oper.uponIn] at h ⊢ <;> exact h
      · exact absurd h hL
    · rw [if_neg hw] at h ⊢
      exact ⟨fun f _ => trivial, hK _ _ h⟩
theorem wpAny_round {P : Program} {ops : Array Oper} {Q : Exit → Act → World → Prop} {l0 n : Nat} (hnd : noDefer ops = true) (hQ : ∀ a w, ¬ Q .outgrown a w) :
    ∀ (fuel : Nat) (listed : Array Bool) (a : Act) (w : World), wpAny P .any ops Q fuel listed a w → wpAnyIn (Fence.wide.inRound l0) n P .any ops Q fuel listed a w
  | 0, _, _, _, h => h
  | fuel + 1, _, _, _, h => ⟨h.1, fun i hi => wpOp_round hnd hQ (fun a w h' => wpAny_round hnd hQ fuel _ a w h') (h.2 i hi)⟩
theorem wpOps_round {P : Program} {ops : Array Oper} {Q : Exit → Act → World → Prop} {l0 n : Nat} (hnd : noDefer ops = true) (hQ : ∀ a w, ¬ Q .outgrown a w) :
    ∀ (l : List Nat) (a : Act) (w : World), wpOps P ops Q l a w → wpOpsIn (Fence.wide.inRound l0) n P ops Q l a w
  | [], _, _, h => h
  | i :: l, a, w, h => by
    rw [wpOps_cons] at h
    rw [wpOpsIn_cons]
    exact wpOp_round hnd hQ (fun a w h' => wpOps_round hnd hQ l a w h') h

/-- In a function's body, or in a round. -/
inductive Md where
  | plain
  | round (l n : Nat)
def cwp (md : Md) (P : Program) (c : Code) (Q : Exit → Act → World → Prop) (a : Act) (w : World) : Prop :=
  match md with
  | .plain => c.wp P Q a w
  | .round l n => c.wpIn (Fence.wide.inRound l) n P Q a w

section rules
variable {md : Md} {P : Program} {Q : Exit → Act → World → Prop} {a : Act} {w : World}
theorem cwp_mono {c : Code} {Q' : Exit → Act → World → Prop} (h : cwp md P c Q a w) (hq : ∀ e a w, Q e a w → Q' e a w) : cwp md P c Q' a w := by
  cases md
  · exact wp_mono h hq
  · exact wpIn_mono h hq
theorem cwp_skip (h : Q .normal a w) : cwp md P .skip Q a w := by
  cases md
  · exact wp_skip h
  · exact wpIn_skip h
theorem cwp_label {l : Nat} (h : Q .normal a w) : cwp md P (.label l) Q a w := by
  cases md
  · exact wp_label h
  · exact wpIn_label h
theorem cwp_exit {id : Nat} (h : Q (.exit id) a w) : cwp md P (.exit id) Q a w := by
  cases md
  · exact wp_exit h
  · exact wpIn_exit h
theorem cwp_ret (h : Q .ret a w) : cwp md P .ret Q a w := by
  cases md
  · exact wp_ret h
  · exact wpIn_ret h
theorem cwp_seq {x y : Code} (h : cwp md P x (Exit.then (cwp md P y Q) Q) a w) : cwp md P (.seq x y) Q a w := by
  cases md
  · exact wp_seq h
  · exact wpIn_seq h
theorem cwp_cond {c : Operand} {x y : Code} {t : Bool} (hc : a.eval c = .bool t) (h : cwp md P (if t then x else y) Q a w) : cwp md P (.cond c x y) Q a w := by
  cases md
  · exact wp_cond hc h
  · exact wpIn_cond hc h
theorem cwp_block {id : Nat} {c : Code} (h : cwp md P c (Exit.inBlock id Q) a w) : cwp md P (.block id c) Q a w := by
  cases md
  · exact wp_block h
  · exact wpIn_block h
theorem cwp_loop {c : Code} (I : Act → World → Prop) (μ : Act → World → Nat) (h₀ : I a w)
    (round : ∀ a w, I a w → cwp md P c (Exit.then (fun a' w' => I a' w' ∧ μ a' w' < μ a w) Q) a w) : cwp md P (.loop c) Q a w := by
  cases md
  · exact wp_loop I μ h₀ round
  · exact wpIn_loop I μ h₀ round
theorem cwp_region {id : Nat} {ops : Array Oper} (hnd : noDefer ops = true) (hQ : ∀ a w, ¬ Q .outgrown a w) (h : wpOps P ops Q (List.range ops.size) a w) : cwp md P (.region id ops false) Q a w := by
  cases md
  · exact wp_region h
  · exact wpIn_region (wpOps_round hnd hQ _ _ _ h)
theorem cwp_region_draw {id : Nat} {ops : Array Oper} (hm : P.follows .mixedOrders = true) (hnd : noDefer ops = true) (hQ : ∀ a w, ¬ Q .outgrown a w) (h : wpAny P .any ops Q ops.size (Array.replicate ops.size false) a w.drew) : cwp md P (.region id ops true) Q a w := by
  cases md
  · exact wp_region_any hm h
  · exact wpIn_region_any hm (wpAny_round hnd hQ _ _ _ _ h)
end rules

/-! ### Operations -/
def finish (r : Res) (S : St) : AV × St :=
  match r with
  | .val v => (v, S)
  | .box cs => (.ptr S.bx.length 0, ⟨S.bx ++ [cs], S.lv⟩)
  | .mbox cs n s => (.ms S.bx.length n s, ⟨S.bx ++ [cs], S.lv⟩)
  | .lit s els => (.sl els (some S.lv.length), ⟨S.bx, S.lv ++ [(els.length, s)]⟩)
  | .put b cs => (.tup [], ⟨S.bx.set b cs, S.lv⟩)
  | .app s none els news => (.sl (els ++ news) (some S.lv.length), ⟨S.bx, S.lv ++ [((els ++ news).length, s)]⟩)
  | .app s (some t) els news => (.sl (els ++ news) (some t), ⟨S.bx, S.lv.set t ((els ++ news).length, s)⟩)
  | .call _ _ => (.junk, S)

/-! Values laid out, so that the kernel reckons none of them twice: each of these gives its value as it is. -/
section
variable {β : Type}
def fNat (n : Nat) (k : Nat → β) : β := match n with
  | 0 => k 0
  | n + 1 => k (n + 1)
theorem fNat_eq (n : Nat) (k : Nat → β) : fNat n k = k n := by cases n <;> rfl
def fInt (z : Int) (k : Int → β) : β := match z with
  | .ofNat n => fNat n fun n => k (.ofNat n)
  | .negSucc n => fNat n fun n => k (.negSucc n)
theorem fInt_eq (z : Int) (k : Int → β) : fInt z k = k z := by cases z <;> simp [fInt, fNat_eq]
def fBool (b : Bool) (k : Bool → β) : β := match b with
  | true => k true
  | false => k false
theorem fBool_eq (z : Bool) (k : Bool → β) : fBool z k = k z := by cases z <;> rfl
def fOpt (t : Option Nat) (k : Option Nat → β) : β := match t with
  | none => k none
  | some n => fNat n fun n => k (some n)
theorem fOpt_eq (z : Option Nat) (k : Option Nat → β) : fOpt z k = k z := by cases z <;> simp [fOpt, fNat_eq]
def f0 (x : AV) (k : AV → β) : β := match x with
  | .int i z => fInt z fun z => k (.int i z)
  | .bool b => fBool b fun b => k (.bool b)
  | .ptr b o => fNat b fun b => fNat o fun o => k (.ptr b o)
  | .ms b n s => fNat b fun b => fNat n fun n => fNat s fun s => k (.ms b n s)
  | x => k x
theorem f0_eq (x : AV) (k : AV → β) : f0 x k = k x := by cases x <;> simp [f0, fNat_eq, fInt_eq, fBool_eq]
/-- Only its head. -/
def fw (x : AV) (k : AV → β) : β := match x with
  | .int i z => k (.int i z)
  | .bool b => k (.bool b)
  | .agg l => k (.agg l)
  | .tup l => k (.tup l)
  | .ptr b o => k (.ptr b o)
  | .rop l => k (.rop l)
  | .sl l t => k (.sl l t)
  | .ms b n s => k (.ms b n s)
  | .fn f ps cs => k (.fn f ps cs)
  | x => k x
theorem fw_eq (x : AV) (k : AV → β) : fw x k = k x := by cases x <;> rfl
noncomputable def flw (l : List AV) : (List AV → β) → β := List.rec (fun k => k []) (fun x _ ih k => fw x fun x => ih fun l => k (x :: l)) l
theorem flw_eq : ∀ (l : List AV) (k : List AV → β), flw l k = k l
  | [], k => rfl
  | x :: l, k => by
    show fw x (fun x => flw l fun l => k (x :: l)) = _
    rw [fw_eq, flw_eq l]
noncomputable def fv (x : AV) (k : AV → β) : β := match x with
  | .int i z => fInt z fun z => k (.int i z)
  | .agg l => flw l fun l => k (.agg l)
  | .bool b => fBool b fun b => k (.bool b)
  | .sl l t => flw l fun l => fOpt t fun t => k (.sl l t)
  | .tup l => flw l fun l => k (.tup l)
  | .rop l => flw l fun l => k (.rop l)
  | .fn f ps cs => flw ps fun ps => flw cs fun cs => k (.fn f ps cs)
  | x => f0 x k
theorem fv_eq (x : AV) (k : AV → β) : fv x k = k x := by cases x <;> simp [fv, flw_eq, fOpt_eq, f0_eq, fInt_eq, fBool_eq]
noncomputable def sp {α : Type} (l : List α) : (List α → β) → β := List.rec (fun k => k []) (fun x _ ih k => ih fun l => k (x :: l)) l
theorem sp_eq {α : Type} : ∀ (l : List α) (k : List α → β), sp l k = k l
  | [], k => rfl
  | x :: l, k => by
    show sp l (fun l => k (x :: l)) = _
    rw [sp_eq l]
/-- A slot is written. -/
noncomputable def setK (l : List AV) : Nat → AV → (List AV → β) → β := List.rec (fun _ _ k => k []) (fun x l ih n y k => Nat.rec (k (y :: l)) (fun m _ => ih m y fun l => k (x :: l)) n) l
theorem setK_eq : ∀ (l : List AV) (n : Nat) (y : AV) (k : List AV → β), setK l n y k = k (l.set n y)
  | [], n, y, k => rfl
  | x :: l, 0, y, k => rfl
  | x :: l, n + 1, y, k => by
    show setK l n y (fun l => k (x :: l)) = _
    rw [setK_eq l]
    rfl
noncomputable def putK (a : List AV) (d : Option Nat) (v : AV) (k : List AV → β) : β := match d with
  | none => k a
  | some d => setK a d v k
theorem putK_eq (a : List AV) (d : Option Nat) (v : AV) (k : List AV → β) : putK a d v k = k (putA a d v) := by
  cases d with
  | none => rfl
  | some d => exact setK_eq a d v k
noncomputable def fRes (r : Res) (k : Res → β) : β := match r with
  | .val v => fv v fun v => k (.val v)
  | .box cs => flw cs fun cs => k (.box cs)
  | .mbox cs n s => flw cs fun cs => fNat n fun n => fNat s fun s => k (.mbox cs n s)
  | .lit s els => flw els fun els => k (.lit s els)
  | .put b cs => fNat b fun b => flw cs fun cs => k (.put b cs)
  | .app s t els news => fOpt t fun t => flw els fun els => flw news fun news => k (.app s t els news)
  | .call f xs => k (.call f xs)
theorem fRes_eq (r : Res) (k : Res → β) : fRes r k = k r := by cases r <;> simp [fRes, fv_eq, flw_eq, fNat_eq, fOpt_eq]
/-- A slot is read. -/
noncomputable def nthA (l : List AV) : Nat → AV := List.rec (fun _ => .junk) (fun x _ ih n => Nat.rec x (fun m _ => ih m) n) l
theorem nthA_eq : ∀ (l : List AV) (n : Nat), nthA l n = l.getD n .junk
  | [], n => rfl
  | x :: l, 0 => rfl
  | x :: l, n + 1 => by
    show nthA l n = _
    rw [nthA_eq l]
    simp
noncomputable def evf (a : List AV) : AOpd → AV
  | .tmp t => nthA a t
  | .con x => x
theorem evf_eq (a : List AV) : evf a = evd a := by
  funext x
  cases x with
  | tmp t => exact nthA_eq a t
  | con x => rfl
end

noncomputable def evOp (orc : Clr) (o : AOp) (a : List AV) (S : St) : Option (AV × St) :=
  match aop o (evf a) S with
  | some (.call f xs) => flw xs fun xs => match callS orc f xs S with
    | some (v, T) => fv v fun v => some (v, T)
    | none => none
  | some r => fRes r fun r => some (finish r S)
  | none => none
theorem evOp_call {orc : Clr} {o : AOp} {a : List AV} {S : St} {f : FuncId} {xs : List AV} (h : aop o (evd a) S = some (.call f xs)) : evOp orc o a S = callS orc f xs S := by
  unfold evOp
  rw [evf_eq, h]
  simp only [flw_eq, fv_eq]
  cases callS orc f xs S with
  | none => rfl
  | some p => rfl
theorem evOp_fin {orc : Clr} {o : AOp} {a : List AV} {S : St} {r : Res} (h : aop o (evd a) S = some r) (hc : ∀ f xs, r ≠ .call f xs) : evOp orc o a S = some (finish r S) := by
  unfold evOp
  rw [evf_eq, h]
  cases r with
  | call f xs => exact absurd rfl (hc f xs)
  | _ => simp only [fRes_eq]
theorem evOp_none {orc : Clr} {o : AOp} {a : List AV} {S : St} (h : aop o (evd a) S = none) : evOp orc o a S = none := by
  unfold evOp
  rw [evf_eq, h]

theorem VR.undef (G : Gh) : VR G (.tup []) undef := .tup [] #[] rfl (fun i x u h => by simp at h)

theorem evOp_wp {P : Program} {orc : Clr} {ao : AOp} {o : Oper} {a : List AV} {S S' : St} {v : AV} (ho : ClrOk P orc) (hc : compOp P o.type o.op = some ao) (he : evOp orc ao a S = some (v, S'))
    {G : Gh} {act : Act} {w : World} (hI : Inv G S w) (hR : Rel G a act) {K : Act → World → Prop} {Q : Exit → Act → World → Prop}
    (hK : ∀ G' u w', VR G' v u → Inv G' S' w' → Gro G S w G' S' w' → Keep G S G' S' → K (act.put o.dst u) w') : o.wp P act w K Q := by
  unfold Oper.wp
  rcases hr : aop ao (evd a) S with _ | r
  · rw [evOp_none hr] at he; cases he
  by_cases hcall : ∃ f xs, r = .call f xs
  · obtain ⟨f, as, rfl⟩ := hcall
    rw [evOp_call hr] at he
    have hs := step_ok hc (fun _ => rfl) hR.opd hI hr
    obtain ⟨us, hrun, hvs⟩ := hs
    obtain ⟨h1, h2⟩ := ho.ok _ _ _ _ _ he G w us hI hvs
    rw [hrun, h1]
    simp only [Oper.upon_enter]
    refine h2.mono fun e w' ⟨u, G', e', hv, hI', hg, hk⟩ => ?_
    subst e'
    exact hK G' u w' hv hI' hg hk
  · have hnc : ∀ f xs, r ≠ .call f xs := fun f xs h => hcall ⟨f, xs, h⟩
    rw [evOp_fin hr hnc] at he
    have hs := step_ok hc (fun _ => rfl) hR.opd hI hr
    simp only [Option.some.injEq] at he
    cases r with
    | val v' =>
      obtain ⟨u, hrun, hv⟩ := hs
      cases he
      rw [hrun]
      exact hK G u w hv hI (.refl _ _ _) (.refl _ _)
    | box cs =>
      obtain ⟨us, T, hrun, hrel⟩ := hs
      cases he
      obtain ⟨h1, h2, h3⟩ := new_box hI cs us T hrel
      rw [hrun]
      exact hK _ _ _ (.ptr _ _ _ h1) h2 h3 (.box _ _ _ _)
    | mbox cs n s =>
      obtain ⟨us, T, c, hrun, hn, hrel⟩ := hs
      cases he
      obtain ⟨h1, h2, h3⟩ := new_box hI cs us T hrel
      rw [hrun]
      exact hK _ _ _ (.ms _ _ _ _ _ h1 hn) h2 h3 (.box _ _ _ _)
    | lit s els =>
      obtain ⟨us, T, c, hrun, hn, hsz, hss, hv⟩ := hs
      cases he
      obtain ⟨h1, h2, h3⟩ := new_lit hI (S.lv ++ [(els.length, s)]) S.lv.length els s c us T (by simp) (fun t' m ht => by
          rw [List.getElem?_append]
          split
          · rfl
          · rename_i hge
            have e1 : S.lv[t']? = none := List.getElem?_eq_none (by omega)
            rw [e1]
            cases hh : t' - S.lv.length with
            | zero => omega
            | succ q => simp)
        (fun n v h => by
          obtain ⟨m, s', h1, _⟩ := hI.dtb _ _ _ h
          have := (List.getElem?_eq_some_iff.1 h1).1
          omega) hn hsz hss hv
      rw [hrun]
      exact hK _ _ _ h1 h2 h3 (.lit (by simp) (.inl (Nat.le_refl _)))
    | put b cs =>
      obtain ⟨⟨B, us, old, T, h1, h2, h3, hrun, h4, h5, h6⟩, old', h7, h8⟩ := hs
      cases he
      obtain ⟨k1, k2⟩ := put_box hI h1 h2 h7 ⟨h4, h5⟩ h6
      rw [hrun]
      exact hK _ _ _ (VR.undef _) k1 k2 (.put _ _ _ _)
    | app s tk els news =>
      obtain ⟨⟨B, c, us, T, w', hrun, hn, hsz, hss, hv, hway⟩, ht1, ht2, hne⟩ := hs
      have hpos : 0 < news.length := List.length_pos_iff.2 hne
      rw [hrun]
      cases tk with
      | none =>
        cases he
        have := ht2 rfl
        subst this
        rcases hway with ⟨rfl, rfl⟩ | ⟨t', _, h, _⟩
        · obtain ⟨h1, h2, h3⟩ := new_lit hI.drew (S.lv ++ [(([] ++ news).length, s)]) S.lv.length ([] ++ news) s c us T (by simp) (fun t' m ht => by
              rw [List.getElem?_append]
              split
              · rfl
              · rename_i hge
                have e1 : S.lv[t']? = none := List.getElem?_eq_none (by omega)
                rw [e1]
                cases hh : t' - S.lv.length with
                | zero => omega
                | succ q => simp)
            (fun n v h => by
              obtain ⟨m, s', h1, _⟩ := hI.dtb _ _ _ h
              have := (List.getElem?_eq_some_iff.1 h1).1
              omega) hn hsz hss hv
          exact hK _ _ _ h1 h2 ((Gro.drew G S w).trans h3) (.lit (by simp) (.inl (Nat.le_refl _)))
        · cases h
      | some t =>
        cases he
        obtain ⟨hlv, htb⟩ := ht1 t rfl
        have htl := (List.getElem?_eq_some_iff.1 hlv).1
        rcases hway with ⟨rfl, rfl⟩ | ⟨t', old, h, hb, hB, rfl, hos, hsame⟩
        · obtain ⟨h1, h2, h3⟩ := new_lit hI.drew (S.lv.set t ((els ++ news).length, s)) t (els ++ news) s c us T (by rw [List.getElem?_set_self htl]) (fun t' m ht => by rw [List.getElem?_set_ne (Ne.symm ht)])
            (fun n v h => by
              obtain ⟨m, s', h1, h2⟩ := hI.dtb _ _ _ h
              rw [hlv] at h1; cases h1
              simp; omega) hn hsz hss hv
          exact hK _ _ _ h1 h2 ((Gro.drew G S w).trans h3) (.lit (by simp) (.inr htb))
        · cases h
          obtain ⟨h1, h2, h3⟩ := grow_lit hI t els.length (els ++ news) B s c us old T hlv hb hB (by simp; omega) hos hsame hn hsz hss hv
          exact hK _ _ _ h1 h2 h3 (.lit (by simp) (.inr ⟨_, _, hb⟩))
    | call f as => exact absurd rfl (hnc f as)

/-- The same, with a guard. -/
def wantedA (g : Option (Nat × Bool)) (a : List AV) : Option Bool :=
  match g with
  | none => some true
  | some (d, want) => match a.getD d .junk with
    | .bool b => some (b == want)
    | .tup _ => some false
    | _ => none

def compOper (P : Program) (ops : Array Oper) (o : Oper) : Option AOper := do
  let op ← compOp P o.type o.op
  match o.guard with
  | none => pure ⟨o.dst, op, none⟩
  | some (j, w) => do
    let d ← (ops[j]?).bind (·.dst)
    pure ⟨o.dst, op, some (d, w)⟩

theorem compOper_ok {P : Program} {ops : Array Oper} {o : Oper} {x : AOper} (h : compOper P ops o = some x) : compOp P o.type o.op = some x.op ∧ x.dst = o.dst ∧ ((o.guard = none ∧ x.guard = none) ∨ ∃ j w d, o.guard = some (j, w) ∧ (ops[j]?).bind (·.dst) = some d ∧ x.guard = some (d, w)) := by
  simp only [compOper, Option.bind_eq_bind, Option.bind_eq_some_iff, Option.pure_def] at h
  obtain ⟨op, h1, h2⟩ := h
  split at h2
  · rename_i hg; cases h2; exact ⟨h1, rfl, .inl ⟨hg, rfl⟩⟩
  · rename_i j w hg
    simp only [Option.bind_eq_some_iff, Option.some.injEq] at h2
    obtain ⟨d, ⟨o', ho', hd⟩, rfl⟩ := h2
    exact ⟨h1, rfl, .inr ⟨j, w, d, hg, by simp [ho', hd], rfl⟩⟩

theorem wantedA_ok {P : Program} {ops : Array Oper} {o : Oper} {x : AOper} (h : compOper P ops o = some x) {G : Gh} {a : List AV} {act : Act} (hR : Rel G a act) {b : Bool} (hw : wantedA x.guard a = some b) : Region.wanted o (yielded ops act.tmps) = b := by
  obtain ⟨_, _, hg⟩ := compOper_ok h
  rcases hg with ⟨h1, h2⟩ | ⟨j, w, d, h1, h2, h3⟩
  · rw [h2] at hw; cases hw; simp [Region.wanted, h1]
  · rw [h3] at hw
    simp only [wantedA] at hw
    simp only [Region.wanted, h1, yielded, h2, Option.bind_some]
    have hgd : ∀ z, a.getD d .junk = z → z ≠ .junk → a[d]? = some z := by
      intro z hz hne
      simp only [List.getD] at hz
      cases hd : a[d]? with
      | none => rw [hd] at hz; exact absurd hz.symm hne
      | some y => rw [hd] at hz; simpa using hz
    split at hw
    · rename_i c e
      cases hw
      have e1 := hgd _ e (by simp)
      have hlt : d < act.tmps.size := by rw [hR.size]; exact (List.getElem?_eq_some_iff.1 e1).1
      have := (hR.slot d _ _ e1 (Array.getElem?_eq_getElem hlt)).inv_bool
      rw [Array.getElem?_eq_getElem hlt, this]
      cases c <;> cases w <;> rfl
    · rename_i vs e
      cases hw
      have e1 := hgd _ e (by simp)
      have hlt : d < act.tmps.size := by rw [hR.size]; exact (List.getElem?_eq_some_iff.1 e1).1
      obtain ⟨us, hu, _⟩ := (hR.slot d _ _ e1 (Array.getElem?_eq_getElem hlt)).inv_tup
      rw [Array.getElem?_eq_getElem hlt, hu]
      rfl
    · cases hw

noncomputable def evOps (orc : Clr) : List AOper → List AV → St → Option (List AV × St)
  | [], a, S => some (a, S)
  | o :: l, a, S =>
    match wantedA o.guard a with
    | some true => match evOp orc o.op a S with
      | some (v, S') => putK a o.dst v fun a' => sp S'.bx fun bx => evOps orc l a' ⟨bx, S'.lv⟩
      | none => none
    | some false => evOps orc l (putA a o.dst (.tup [])) S
    | none => none

theorem evOps_wp {P : Program} {orc : Clr} (ho : ClrOk P orc) {ops : Array Oper} {Q : Exit → Act → World → Prop} : ∀ (l : List Oper) (xs : List AOper) (a a' : List AV) (S S' : St), l.mapM (compOper P ops) = some xs → evOps orc xs a S = some (a', S') →
    ∀ (G : Gh) (act : Act) (w : World), Inv G S w → Rel G a act → (∀ G' act' w', Inv G' S' w' → Rel G' a' act' → Gro G S w G' S' w' → Keep G S G' S' → act'.defers = act.defers → Q .normal act' w') → wpList P ops Q l act w
  | [], xs, a, a', S, S', hc, he, G, act, w, hI, hR, hQ => by
    simp at hc; subst hc
    cases he
    exact hQ G act w hI hR (.refl _ _ _) (.refl _ _) rfl
  | o :: l, xs, a, a', S, S', hc, he, G, act, w, hI, hR, hQ => by
    rw [List.mapM_cons] at hc
    simp only [Option.bind_eq_bind, Option.bind_eq_some_iff, Option.pure_def, Option.some.injEq] at hc
    obtain ⟨x, hx, ys, hys, rfl⟩ := hc
    obtain ⟨h1, h2, _⟩ := compOper_ok hx
    simp only [evOps] at he
    simp only [wpList]
    split at he
    · rename_i hw
      rw [if_pos (wantedA_ok hx hR hw)]
      split at he
      · rename_i v S1 hop
        rw [putK_eq, sp_eq] at he
        refine .inl (evOp_wp ho h1 hop hI hR fun G' u w' hv hI' hg hk => ?_)
        refine evOps_wp ho l ys _ _ _ _ hys he G' _ w' hI' (h2 ▸ (hR.mono hg.le).put x.dst hv) fun G2 act2 w2 hI2 hR2 hg2 hk2 hd2 => ?_
        exact hQ G2 act2 w2 hI2 hR2 (hg.trans hg2) (hk.trans hk2) (hd2.trans (by cases o.dst <;> rfl))
      · cases he
    · rename_i hw
      rw [if_neg (by rw [wantedA_ok hx hR hw]; simp)]
      refine evOps_wp ho l ys _ _ _ _ hys he G _ w hI (h2 ▸ hR.put x.dst (VR.undef G)) fun G2 act2 w2 hI2 hR2 hg2 hk2 hd2 => ?_
      exact hQ G2 act2 w2 hI2 hR2 hg2 hk2 (hd2.trans (by cases o.dst <;> rfl))
    · cases he
end Go.Proofs.Ytncaneioenanjaa
